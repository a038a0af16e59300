/- The blocks that go to one: plain. -/
import Derived.Test.YtjmclmbepnbeoaaUseA
import Derived.Test.YtjmclmbepnbeoaaOrdPA
import Derived.Test.YtjmclmbepnbeoaaGrOkP
import Derived.Test.YtjmclmbepnbeoaaAliP
namespace Go.Proofs.Ytjmclmbepnbeoaa
open Go.ChangeShapes Go.WideShapes Go.ChangeAt Go.RowKit
/-- Block j goes to n. -/
def goesTo (xs : List Blk) (n : Int) (j : Nat) : Bool := match xs[j]? with
  | some x => decide (n ∈ nextP x)
  | none => false
theorem goesTo_at {xs : List Blk} {n : Int} {j : Nat} (h : j < xs.length) : goesTo xs n j = decide (n ∈ nextP xs[j]) := by simp [goesTo, h]
/-- Of the first j blocks those that go to n. -/
def aheadUp (xs : List Blk) (n : Int) : Nat → List Int
  | 0 => []
  | j + 1 => if goesTo xs n j = true then aheadUp xs n j ++ [(j : Int)] else aheadUp xs n j
theorem aheadUp_lt (xs : List Blk) (n : Int) : ∀ j, ∀ y ∈ aheadUp xs n j, y < (j : Int)
  | 0, y, h => by simp [aheadUp] at h
  | j + 1, y, h => by
    unfold aheadUp at h
    have ih := aheadUp_lt xs n j y
    split at h
    · rw [List.mem_append, List.mem_singleton] at h
      rcases h with h | rfl
      · have := ih h; omega
      · omega
    · have := ih h; omega
theorem aheadUp_len (xs : List Blk) (n : Int) : ∀ j, (aheadUp xs n j).length ≤ j
  | 0 => by simp [aheadUp]
  | j + 1 => by
    have := aheadUp_len xs n j
    unfold aheadUp
    split
    · rw [List.length_append]; simp; omega
    · omega
def aheadP (g : Gr) (n : Int) : List Int := if grOk g = true ∧ 0 ≤ n ∧ n < (g.blocks.length : Nat) then aheadUp g.blocks n g.blocks.length else []
theorem add_new (l : List Int) (n : Int) (h : ∀ y ∈ l, y < n) : addTo l n = l ++ [n] := by
  have := addTo_here n l l.length (Nat.le_refl _) (fun i hi _ => h _ (List.getElem_mem hi)) (fun hh => absurd hh (Nat.lt_irrefl _))
  simpa using this
theorem add_same (l : List Int) (n : Int) (h : ∀ y ∈ l, y < n) : addTo (l ++ [n]) n = l ++ [n] :=
  addTo_there n (l ++ [n]) l.length (by simp) (fun i hi hil => by rw [List.getElem_append_left hil]; exact h _ (List.getElem_mem hil)) (by simp)
theorem grOk_blocks {g : Gr} (h : grOk g = true) : 1 ≤ g.blocks.length ∧ g.blocks.length ≤ 300 := by
  simp only [grOk, frOk, Bool.and_eq_true, decide_eq_true_eq] at h
  omega
theorem aheadP_len (g : Gr) (n : Int) : (aheadP g n).length ≤ 300 := by
  unfold aheadP
  split
  · rename_i h
    exact Nat.le_trans (aheadUp_len _ _ _) (grOk_blocks h.1).2
  · simp
/-- What GraphOk (one of both) tells. -/
def OkIs (f : Nat) (g : Gr) : Prop := ∀ W A v, GrIs W A v g → Calls Try.prog f #[.agg v] W fun en w' => en = .returned (.bool (grOk g)) ∧ Below W.heap.size W w'
end Go.Proofs.Ytjmclmbepnbeoaa

/- A block that is there, of a graph that is right: what follows. -/
namespace Go.Proofs.Ytjmclmbepnbeoaa
open Go.ChangeShapes Go.WideShapes Go.ChangeAt Go.RowKit
theorem codeAll_mem_le : ∀ (bs : List Blk) (b : Blk), b ∈ bs → b.code.length ≤ (codeAll bs).length
  | [], _, h => by cases h
  | c :: bs, b, h => by
    have e : codeAll (c :: bs) = c.code ++ codeAll bs := by simp [codeAll]
    rw [e, List.length_append]
    rcases List.mem_cons.1 h with rfl | h
    · omega
    · have := codeAll_mem_le bs b h; omega
theorem hasB6_ok {g : Gr} {n : Int} (h : hasB6 g n) : ∃ i V : Nat, n = (i : Int) ∧ g.slots = (V : Int) ∧ V ≤ 1000 ∧ ∃ hi : i < g.blocks.length, codeAt g n = (g.blocks[i]).code ∧ (g.blocks[i]).code.length ≤ 1000 ∧ ∀ x ∈ (g.blocks[i]).code, insOk (g.sizes.length : Nat) (V : Nat) x = true := by
  obtain ⟨ok, h0, h1⟩ := h
  simp only [grOk, frOk, Bool.and_eq_true, decide_eq_true_eq, List.all_eq_true] at ok
  have hi : n.toNat < g.blocks.length := by omega
  have hm : g.blocks[n.toNat] ∈ g.blocks := List.getElem_mem hi
  refine ⟨n.toNat, g.slots.toNat, by omega, by omega, by omega, hi, ?_, ?_, fun x hx => ?_⟩
  · unfold codeAt; rw [getElem!_pos g.blocks n.toNat hi]
  · have := codeAll_mem_le _ _ hm; omega
  · have := ok.1.2 x (List.mem_flatMap.2 ⟨_, hm, hx⟩)
    rwa [show ((g.slots.toNat : Nat) : Int) = g.slots by omega]
theorem placesP_len (g : Gr) (n : Int) : (placesP g n).length ≤ 1000000 := by
  unfold placesP
  split
  · rename_i h
    obtain ⟨i, V, _, _, _, hi, hce, hcl, _⟩ := hasB6_ok h
    rw [placesUp_len _ _ _ (Nat.le_refl _), hce]; omega
  · simp
theorem ins_i64 {w : World} {B : Nat} {u : Option Addr} {code : List Ins} (h : SlIs InsIs 7 w B u code) : ∀ x ∈ code, I64 x.n := by
  intro x hx
  obtain ⟨i, hi, rfl⟩ := List.getElem_of_mem hx
  obtain ⟨_, _, _, _, _, _, _, _, ok⟩ := h.at i hi
  exact ok.2.1.2.2.2.2.2
/-- A block's code: where its slice stands. -/
theorem code_of {w : World} {B : Nat} {ub : Option Addr} {blocks : List Blk} (hb : SlIs BlkIs 5 w B ub blocks) (i : Nat) (hi : i < blocks.length) :
    ∃ b o u k, ub = some ⟨b, o, none⟩ ∧ b < w.heap.size ∧ w.cell? ⟨b, o + i * 5, none⟩ = some (.slice u (blocks[i]).code.length k) ∧ SlIs InsIs 7 w B u (blocks[i]).code := by
  obtain ⟨b, o, v, ha, _, hbs, _, hc, hx⟩ := hb.at i hi
  obtain ⟨u, k, e, _, hcode⟩ := hx
  have := hc 0 (by omega)
  rw [e] at this
  exact ⟨b, o, u, k, ha, hbs, by simpa using this, hcode⟩
theorem knownP_len (g : Gr) (n : Int) {w : World} {B : Nat} {ub : Option Addr} (hb : SlIs BlkIs 5 w B ub g.blocks) : (knownP g n).length ≤ 1000000 := by
  unfold knownP
  split
  · rename_i h
    obtain ⟨i, V, _, hV, hV1, hi, hce, hcl, hall⟩ := hasB6_ok h
    obtain ⟨_, _, _, _, _, _, _, hcode⟩ := code_of hb i hi
    have h1 := knownUp_len (ledOf g n).slots (ledOf g n).slots.length
    have h2 : (ledOf g n).slots.length = V := by
      unfold ledOf
      rw [hce, hV]
      have := ledP_ok (fun x hx => ⟨hall x hx, ins_i64 hcode x hx⟩) (g.blocks[i]).code.length (Nat.le_refl _)
      rw [List.take_length] at this
      exact this.1.1
    omega
  · simp
end Go.Proofs.Ytjmclmbepnbeoaa
