/- Chapter 10, plain: in how many loops each block stands. -/
import Derived.Test.YtooaoankloocmabLopP
namespace Go.Proofs.Ytooaoankloocmab
open Go.ChangeShapes Go.WideShapes Go.ChangeAt Go.RowKit
/-- Block y stands in a loop of these pairs whose head is hd. -/
def DpM (xs : List Blk) (Q : List (Nat × Nat)) (hd y : Int) : Prop := ∃ p ∈ Q, (p.2 : Int) = hd ∧ LopM xs (p.1 : Int) hd y
open Classical in
/-- In how many of the first k heads' loops. -/
noncomputable def depN (xs : List Blk) (Q : List (Nat × Nat)) (k : Nat) (y : Int) : Nat := (upB (fun hd => decide (DpM xs Q (hd : Int) y)) k).length
noncomputable def deepP (g : Gr) : List Int := if grOk g = true then (List.range g.blocks.length).map (fun (y : Nat) => ((depN g.blocks (backsP g) g.blocks.length (y : Int) : Nat) : Int)) else []
theorem deepP_few (g : Gr) : (deepP g).length ≤ 300 := by
  unfold deepP
  split
  · rename_i h
    simp only [List.length_map, List.length_range]
    exact (grOk_blocks h).2
  · simp
open Classical in
theorem depN_yes {xs : List Blk} {Q : List (Nat × Nat)} {k : Nat} {y : Int} (h : DpM xs Q (k : Int) y) : depN xs Q (k + 1) y = depN xs Q k y + 1 := by
  unfold depN
  have e : upB (fun hd => decide (DpM xs Q (hd : Int) y)) (k + 1) = upB (fun hd => decide (DpM xs Q (hd : Int) y)) k ++ [(k : Int)] := if_pos (decide_eq_true h)
  rw [e, List.length_append]
  rfl
open Classical in
theorem depN_no {xs : List Blk} {Q : List (Nat × Nat)} {k : Nat} {y : Int} (h : ¬ DpM xs Q (k : Int) y) : depN xs Q (k + 1) y = depN xs Q k y := by
  unfold depN
  have e : upB (fun hd => decide (DpM xs Q (hd : Int) y)) (k + 1) = upB (fun hd => decide (DpM xs Q (hd : Int) y)) k := if_neg (by rw [decide_eq_true_eq]; exact h)
  rw [e]
theorem depN_le (xs : List Blk) (Q : List (Nat × Nat)) (k : Nat) (y : Int) : depN xs Q k y ≤ k := upB_len _ k
/-- What has been put together of the loops of head j: of the pairs ahead of i, and of k blocks of the one at hand. -/
def DeU (xs : List Blk) (Q : List (Nat × Nat)) (j : Int) (i : Nat) (O : List Int) (k : Nat) (U : List Int) : Prop := Rising U ∧ ∀ y, y ∈ U ↔ DpM xs (Q.take i) j y ∨ y ∈ O.take k
section
variable {xs : List Blk} {Q : List (Nat × Nat)} {j : Int} {i k : Nat} {O O' U : List Int}
theorem deU_start : DeU xs Q j 0 O 0 [] := ⟨by simp [Rising], fun y => by simp [DpM]⟩
theorem DeU.enter (h : DeU xs Q j i O 0 U) : DeU xs Q j i O' 0 U := ⟨h.1, fun y => by rw [h.2]; simp⟩
theorem DeU.add {t : Int} (h : DeU xs Q j i O k U) (hk : k < O.length) (ht : O[k] = t) : DeU xs Q j i O (k + 1) (addTo U t) := ⟨addTo_rising _ _ h.1, fun y => by
  rw [addTo_mem, h.2, List.take_succ_eq_append_getElem hk, ht, List.mem_append, List.mem_singleton]
  constructor
  · rintro (h1 | h1 | h1)
    · exact Or.inr (Or.inr h1)
    · exact Or.inl h1
    · exact Or.inr (Or.inl h1)
  · rintro (h1 | h1 | h1)
    · exact Or.inr (Or.inl h1)
    · exact Or.inr (Or.inr h1)
    · exact Or.inl h1⟩
theorem DeU.skip {p : Nat × Nat} (h : DeU xs Q j i O 0 U) (hi : i < Q.length) (hp : Q[i] = p) (hne : (p.2 : Int) ≠ j) : DeU xs Q j (i + 1) O' 0 U := ⟨h.1, fun y => by
  rw [h.2, List.take_succ_eq_append_getElem hi, hp]
  unfold DpM
  constructor
  · rintro (⟨q, hq, h1⟩ | h1)
    · exact Or.inl ⟨q, List.mem_append_left _ hq, h1⟩
    · simp at h1
  · rintro (⟨q, hq, h1⟩ | h1)
    · rcases List.mem_append.1 hq with hq | hq
      · exact Or.inl ⟨q, hq, h1⟩
      · rw [List.mem_singleton.1 hq] at h1
        exact absurd h1.1 hne
    · simp at h1⟩
theorem DeU.out {p : Nat × Nat} (h : DeU xs Q j i O O.length U) (hi : i < Q.length) (hp : Q[i] = p) (he : (p.2 : Int) = j) (hO : ∀ y, y ∈ O ↔ LopM xs (p.1 : Int) j y) : DeU xs Q j (i + 1) O' 0 U := ⟨h.1, fun y => by
  rw [h.2, List.take_length, List.take_succ_eq_append_getElem hi, hp, hO]
  unfold DpM
  constructor
  · rintro (⟨q, hq, h1⟩ | h1)
    · exact Or.inl ⟨q, List.mem_append_left _ hq, h1⟩
    · exact Or.inl ⟨p, by simp, he, h1⟩
  · rintro (⟨q, hq, h1⟩ | h1)
    · rcases List.mem_append.1 hq with hq | hq
      · exact Or.inl ⟨q, hq, h1⟩
      · rw [List.mem_singleton.1 hq] at h1
        exact Or.inr h1.2
    · simp at h1⟩
theorem DeU.few (hQ : ∀ p ∈ Q, InR xs.length (p.1 : Int) ∧ InR xs.length (p.2 : Int)) (hO : ∀ y ∈ O, InR xs.length y) (h : DeU xs Q j i O k U) : U.length ≤ xs.length ∧ ∀ y ∈ U, InR xs.length y := by
  have hin : ∀ y ∈ U, InR xs.length y := fun y hy => by
    rcases (h.2 y).1 hy with ⟨p, hp, he, hl⟩ | h1
    · have := hQ p (List.mem_of_mem_take hp)
      rw [← he] at hl
      exact lopM_in this.1 this.2 hl
    · exact hO y (List.mem_of_mem_take h1)
  exact ⟨rising_few h.1 hin, hin⟩
end
/-- A row of numbers. -/
def rowF (n : Nat) (f : Nat → Int) : List Int := (List.range n).map f
theorem rowF_len (n : Nat) (f : Nat → Int) : (rowF n f).length = n := by unfold rowF; simp
theorem rowF_at {n : Nat} {f : Nat → Int} {i : Nat} (h : i < (rowF n f).length) : (rowF n f)[i] = f i := by simp [rowF]
theorem OwnI.setF {W : World} {B g n cap : Nat} {f f' : Nat → Int} (h : OwnI W B (.slice (some ⟨g, 0, none⟩) n cap) (rowF n f)) {i : Nat} (hi : i < n) {x : Int} (e : ∀ t, t < n → f' t = if t = i then x else f t) : OwnI (W.setCell ⟨g, i, none⟩ (.int .i64 x)) B (.slice (some ⟨g, 0, none⟩) n cap) (rowF n f') := by
  obtain ⟨g', cap', cur, hv, hB, hh, hc, hm, hs, hx⟩ := h.parts
  injection hv with e1 e2 e3
  injection e1 with e1
  injection e1 with e1
  subst e1 e3
  rw [rowF_len] at hc
  have := OwnI.of_parts (l := rowF n f') (cap := cap) hB (heap_setCell_same W g i cur _ _ hh) (by rw [rowF_len]; exact hc) hm (by simpa using hs) (fun j hj => by
    rw [rowF_len] at hj
    rw [rowF_at, Array.getElem?_setIfInBounds, e j hj]
    by_cases e2 : i = j
    · subst e2; rw [if_pos rfl, if_pos (by omega), if_pos rfl]
    · rw [if_neg e2, if_neg (fun e3 => e2 e3.symm)]
      have h9 := hx j (by rw [rowF_len]; exact hj)
      rw [rowF_at] at h9
      exact h9)
  rw [rowF_len] at this
  exact this
end Go.Proofs.Ytooaoankloocmab
