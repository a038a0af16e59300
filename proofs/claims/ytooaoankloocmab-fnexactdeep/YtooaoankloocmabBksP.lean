/- Chapter 10, plain: the pairs that go back. -/
import Derived.Test.YtooaoankloocmabRulA
import Derived.Test.YtooaoankloocmabOrdPA
namespace Go.Proofs.Ytooaoankloocmab
open Go.ChangeShapes Go.WideShapes Go.ChangeAt Go.RowKit
/-- The blocks to which block b goes and that rule it, rising. -/
noncomputable def bkTo (xs : List Blk) (b : Nat) : List Int := upB (fun t => decide ((t : Int) ∈ nxt xs (b : Int)) && rulB xs (t : Int) (b : Int)) xs.length
def bkRow (b : Nat) (l : List Int) : List (Nat × Nat) := l.map (fun t => (b, t.toNat))
noncomputable def backsUp (xs : List Blk) : Nat → List (Nat × Nat)
  | 0 => []
  | j + 1 => backsUp xs j ++ bkRow j (bkTo xs j)
noncomputable def backsP (g : Gr) : List (Nat × Nat) := if grOk g = true then backsUp g.blocks g.blocks.length else []
theorem bkRow_app (b : Nat) (l m : List Int) : bkRow b (l ++ m) = bkRow b l ++ bkRow b m := List.map_append
theorem bkTo_mem {xs : List Blk} (hx : AllIn xs) {b : Nat} (y : Int) : y ∈ bkTo xs b ↔ y ∈ nxt xs (b : Int) ∧ rulB xs y (b : Int) = true := by
  unfold bkTo
  rw [upB_mem]
  constructor
  · rintro ⟨i, rfl, _, h⟩
    rw [Bool.and_eq_true, decide_eq_true_eq] at h
    exact h
  · intro h
    obtain ⟨h1, h2⟩ := nxt_in hx _ _ h.1
    refine ⟨y.toNat, by omega, by omega, ?_⟩
    rw [show ((y.toNat : Nat) : Int) = y by omega, Bool.and_eq_true, decide_eq_true_eq]
    exact h
theorem bkTo_rising (xs : List Blk) (b : Nat) : Rising (bkTo xs b) := upB_up _ _
theorem bkTo_add {xs : List Blk} (hx : AllIn xs) (b : Nat) : addAll ((nxt xs (b : Int)).filter (fun z => rulB xs z (b : Int))) = bkTo xs b :=
  rising_eq _ _ (addAll_rising _) (bkTo_rising xs b) (fun y => by rw [addAll_mem, List.mem_filter, bkTo_mem hx])
theorem bkTo_asc {xs : List Blk} (hx : AllIn xs) (b : Nat) : (addAll (nxt xs (b : Int))).filter (fun z => rulB xs z (b : Int)) = bkTo xs b :=
  rising_eq _ _ (List.Pairwise.filter _ (addAll_rising _)) (bkTo_rising xs b) (fun y => by rw [List.mem_filter, addAll_mem, bkTo_mem hx])
theorem backsUp_len (xs : List Blk) : ∀ j : Nat, (backsUp xs j).length ≤ j * xs.length
  | 0 => by simp [backsUp]
  | j + 1 => by
    have ih := backsUp_len xs j
    have h2 : (bkTo xs j).length ≤ xs.length := upB_len _ _
    simp only [backsUp, bkRow, List.length_append, List.length_map]
    rw [Nat.succ_mul]
    omega
theorem backsP_len (g : Gr) : (backsP g).length ≤ 1000000 := by
  unfold backsP
  split
  · rename_i h
    have h1 := backsUp_len g.blocks g.blocks.length
    have h2 := (grOk_blocks h).2
    have h3 := Nat.mul_le_mul h2 h2
    omega
  · simp
theorem backsUp_mem (xs : List Blk) (p : Nat × Nat) : ∀ j : Nat, p ∈ backsUp xs j ↔ p.1 < j ∧ (p.2 : Int) ∈ bkTo xs p.1
  | 0 => by simp [backsUp]
  | j + 1 => by
    obtain ⟨a, c⟩ := p
    have ih := backsUp_mem xs (a, c) j
    simp only [backsUp, List.mem_append, ih, bkRow, List.mem_map]
    constructor
    · rintro (h | ⟨t, ht, e⟩)
      · exact ⟨by omega, h.2⟩
      · injection e with e1 e2
        subst e1 e2
        refine ⟨by omega, ?_⟩
        obtain ⟨i, hi, _⟩ := (upB_mem _ _ t).1 ht
        rw [hi] at ht ⊢
        simpa using ht
    · rintro ⟨h1, h2⟩
      by_cases e : a < j
      · exact Or.inl ⟨e, h2⟩
      · have : a = j := by omega
        subst this
        exact Or.inr ⟨(c : Int), h2, by simp⟩
end Go.Proofs.Ytooaoankloocmab
