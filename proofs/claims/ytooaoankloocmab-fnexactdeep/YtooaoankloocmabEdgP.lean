/- Chapter 10, plain: where what a block rules ends. -/
import Derived.Test.YtooaoankloocmabRulA
import Derived.Test.YtooaoankloocmabOrdPA
namespace Go.Proofs.Ytooaoankloocmab
open Go.ChangeShapes Go.WideShapes Go.ChangeAt Go.RowKit
def EdC (xs : List Blk) (b : Int) (k : Nat) (y : Int) : Prop := Rul xs b (k : Int) ∧ y ∈ nxt xs (k : Int) ∧ (¬ Rul xs b y ∨ y = b)
def Edg (xs : List Blk) (b y : Int) : Prop := ∃ k : Nat, k < xs.length ∧ EdC xs b k y
open Classical in
noncomputable def edgTo (xs : List Blk) (b : Nat) : List Int := upB (fun t => decide (Edg xs (b : Int) (t : Int))) xs.length
noncomputable def edgUp (xs : List Blk) (j : Nat) : List (List Int) := (List.range j).map (edgTo xs)
noncomputable def edgeP (g : Gr) : List (List Int) := if grOk g = true then edgUp g.blocks g.blocks.length else []
theorem edgUp_succ (xs : List Blk) (j : Nat) : edgUp xs (j + 1) = edgUp xs j ++ [edgTo xs j] := by unfold edgUp; rw [List.range_succ, List.map_append]; rfl
theorem edgUp_len (xs : List Blk) (j : Nat) : (edgUp xs j).length = j := by unfold edgUp; simp
theorem edg_in {xs : List Blk} (hx : AllIn xs) {b y : Int} (h : Edg xs b y) : InR xs.length y := let ⟨_, _, _, h2, _⟩ := h; nxt_in hx _ _ h2
open Classical in
theorem edgTo_mem {xs : List Blk} (hx : AllIn xs) {b : Nat} (y : Int) : y ∈ edgTo xs b ↔ Edg xs (b : Int) y := by
  unfold edgTo
  rw [upB_mem]
  constructor
  · rintro ⟨i, rfl, _, h⟩; exact of_decide_eq_true h
  · intro h
    obtain ⟨h1, h2⟩ := edg_in hx h
    exact ⟨y.toNat, by omega, by omega, by rw [decide_eq_true_eq, show ((y.toNat : Nat) : Int) = y by omega]; exact h⟩
theorem edgeP_get {g : Gr} (hok : grOk g = true) {k : Nat} (hk : k < g.blocks.length) : (edgeP g).getD k [] = edgTo g.blocks k := by
  unfold edgeP edgUp
  rw [if_pos hok, List.getD_eq_getElem?_getD, List.getElem?_map, List.getElem?_range hk]
  rfl
theorem edgeP_few (g : Gr) : (edgeP g).length ≤ 300 := by
  unfold edgeP
  split
  · rename_i h; rw [edgUp_len]; exact (grOk_blocks h).2
  · simp
theorem edgeP_short (g : Gr) (k : Nat) : ((edgeP g).getD k []).length ≤ 300 := by
  by_cases h : grOk g = true
  · by_cases hk : k < g.blocks.length
    · rw [edgeP_get h hk]
      exact Nat.le_trans (upB_len _ _) (grOk_blocks h).2
    · have e : (edgeP g).length ≤ k := by unfold edgeP; rw [if_pos h, edgUp_len]; omega
      rw [List.getD_eq_getElem?_getD, List.getElem?_eq_none e]; simp
  · have e : edgeP g = [] := by unfold edgeP; rw [if_neg h]
    rw [e]; simp
/-- What has been put together: of the blocks ahead of k, and of r steps of k itself. -/
def EdU (xs : List Blk) (b : Int) (k r : Nat) (nx U : List Int) : Prop := Rising U ∧ ∀ y, y ∈ U ↔ (∃ k' : Nat, k' < k ∧ EdC xs b k' y) ∨ (y ∈ nx.take r ∧ Rul xs b (k : Int) ∧ (¬ Rul xs b y ∨ y = b))
section
variable {xs : List Blk} {b : Int} {k r : Nat} {nx nx' U : List Int}
theorem edU_start : EdU xs b 0 0 nx [] := ⟨by simp [Rising], fun y => by simp⟩
theorem EdU.enter (h : EdU xs b k 0 nx U) : EdU xs b k 0 nx' U := ⟨h.1, fun y => by rw [h.2]; simp⟩
theorem EdU.out (h : EdU xs b k nx.length nx U) (e : nxt xs (k : Int) = nx) : EdU xs b (k + 1) 0 nx' U := ⟨h.1, fun y => by
  rw [h.2, List.take_length]
  constructor
  · rintro (⟨k', hk, hc⟩ | ⟨h1, h2, h3⟩)
    · exact Or.inl ⟨k', by omega, hc⟩
    · exact Or.inl ⟨k, by omega, h2, e ▸ h1, h3⟩
  · rintro (⟨k', hk, hc⟩ | h)
    · by_cases e2 : k' < k
      · exact Or.inl ⟨k', e2, hc⟩
      · have : k' = k := by omega
        subst this
        exact Or.inr ⟨e ▸ hc.2.1, hc.1, hc.2.2⟩
    · simp at h⟩
theorem EdU.skip {t : Int} (h : EdU xs b k r nx U) (hr : r < nx.length) (ht : nx[r] = t) (hc : ¬ (Rul xs b (k : Int) ∧ (¬ Rul xs b t ∨ t = b))) : EdU xs b k (r + 1) nx U := ⟨h.1, fun y => by
  rw [h.2, List.take_succ_eq_append_getElem hr, ht]
  constructor
  · rintro (h1 | ⟨h1, h2⟩)
    · exact Or.inl h1
    · exact Or.inr ⟨List.mem_append_left _ h1, h2⟩
  · rintro (h1 | ⟨h1, h2⟩)
    · exact Or.inl h1
    · rcases List.mem_append.1 h1 with h1 | h1
      · exact Or.inr ⟨h1, h2⟩
      · rw [List.mem_singleton.1 h1] at h2
        exact absurd h2 hc⟩
theorem EdU.add {t : Int} (h : EdU xs b k r nx U) (hr : r < nx.length) (ht : nx[r] = t) (hc : Rul xs b (k : Int) ∧ (¬ Rul xs b t ∨ t = b)) : EdU xs b k (r + 1) nx (addTo U t) := ⟨addTo_rising _ _ h.1, fun y => by
  rw [addTo_mem, h.2, List.take_succ_eq_append_getElem hr, ht, List.mem_append, List.mem_singleton]
  constructor
  · rintro (rfl | h1 | ⟨h1, h2⟩)
    · exact Or.inr ⟨Or.inr rfl, hc⟩
    · exact Or.inl h1
    · exact Or.inr ⟨Or.inl h1, h2⟩
  · rintro (h1 | ⟨h1 | rfl, h2⟩)
    · exact Or.inr (Or.inl h1)
    · exact Or.inr (Or.inr ⟨h1, h2⟩)
    · exact Or.inl rfl⟩
theorem EdU.done {j : Nat} (hx : AllIn xs) (h : EdU xs (j : Int) xs.length 0 nx U) : U = edgTo xs j :=
  rising_eq _ _ h.1 (upB_up _ _) (fun y => by
    rw [h.2, edgTo_mem hx]
    constructor
    · rintro (⟨k', hk, hc⟩ | h)
      · exact ⟨k', hk, hc⟩
      · simp at h
    · rintro ⟨k', hk, hc⟩; exact Or.inl ⟨k', hk, hc⟩)
theorem rising_few {n : Nat} {U : List Int} (h : Rising U) (hin : ∀ y ∈ U, InR n y) : U.length ≤ n := by
  have e : U = upB (fun t => decide ((t : Int) ∈ U)) n := rising_eq _ _ h (upB_up _ _) (fun y => by
    rw [upB_mem]
    constructor
    · intro hy
      obtain ⟨h1, h2⟩ := hin y hy
      exact ⟨y.toNat, by omega, by omega, by rw [decide_eq_true_eq, show ((y.toNat : Nat) : Int) = y by omega]; exact hy⟩
    · rintro ⟨i, rfl, _, hi⟩; exact of_decide_eq_true hi)
  rw [e]
  exact upB_len _ _
theorem EdU.few (hx : AllIn xs) (h : EdU xs b k r nx U) (hn : ∀ y ∈ nx, InR xs.length y) : U.length ≤ xs.length :=
  rising_few h.1 (fun y hy => by
    rcases (h.2 y).1 hy with ⟨k', _, hc⟩ | ⟨h1, _⟩
    · exact nxt_in hx _ _ hc.2.1
    · exact hn y (List.mem_of_mem_take h1))
end
end Go.Proofs.Ytooaoankloocmab
