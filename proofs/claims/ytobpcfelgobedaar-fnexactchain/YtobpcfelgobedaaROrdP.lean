/- Orders of a graph's blocks: plain. -/
import Derived.Test.YtobpcfelgobedaaRAheadP
namespace Go.Proofs.YtobpcfelgobedaaR
open Go.ChangeShapes Go.WideShapes Go.ChangeAt Go.RowKit
/-- The numbers below n. -/
def InQ (n : Nat) (y : Int) : Prop := 0 ≤ y ∧ y < (n : Int)
/-- Whether a list has each number below n, is as long as that and begins with 0. -/
def ordL (n : Nat) (L : List Int) : Bool := decide (L.length = n) && decide (L[0]? = some 0) && decide (∀ i, i < n → (i : Int) ∈ L)
def ordP (g : Gr) (L : List Int) : Bool := grOk g && ordL g.blocks.length L
theorem cover_le : ∀ (n : Nat) (L : List Int), (∀ i, i < n → (i : Int) ∈ L) → n ≤ L.length
  | 0, _, _ => Nat.zero_le _
  | n + 1, L, h => by
    have hn := h n (by omega)
    have h1 := cover_le n (L.erase (n : Int)) (fun i hi => (List.mem_erase_of_ne (by omega)).2 (h i (by omega)))
    rw [List.length_erase_of_mem hn] at h1
    have := List.length_pos_of_mem hn
    omega
theorem nod_le : ∀ (n : Nat) (L : List Int), L.Nodup → (∀ y ∈ L, InQ n y) → L.length ≤ n
  | 0, L, _, h => by
    cases L with
    | nil => simp
    | cons x r => have := h x (by simp); unfold InQ at this; omega
  | n + 1, L, hn, h => by
    have h1 := nod_le n (L.erase (n : Int)) (hn.erase _) (fun y hy => by
      have h2 := (hn.mem_erase_iff).1 hy
      have := h y h2.2
      unfold InQ at this ⊢
      have := h2.1
      omega)
    rw [List.length_erase] at h1
    split at h1 <;> omega
/-- A number that is none, or that stands there already: not all are there. -/
theorem cover_bad {n : Nat} {L : List Int} (hl : L.length = n) {k : Nat} (hk : k < L.length) (hb : ¬ InQ n L[k] ∨ L[k] ∈ L.take k) : ¬ ∀ i, i < n → (i : Int) ∈ L := by
  intro hc
  have e : L = L.take k ++ L[k] :: L.drop (k + 1) := by simp
  have hlen : (L.take k ++ L.drop (k + 1)).length + 1 = L.length := by simp; omega
  have := cover_le n (L.take k ++ L.drop (k + 1)) (fun i hi => by
    have hm := hc i hi
    rw [e] at hm
    rcases List.mem_append.1 hm with h1 | h1
    · exact List.mem_append_left _ h1
    · rcases List.mem_cons.1 h1 with h2 | h2
      · rcases hb with hb | hb
        · exact absurd (by rw [← h2]; exact ⟨by omega, by omega⟩) hb
        · rw [h2]; exact List.mem_append_left _ hb
      · exact List.mem_append_right _ h2)
  omega
theorem cover_good {n : Nat} {L : List Int} (hl : L.length = n) (hn : L.Nodup) (hr : ∀ y ∈ L, InQ n y) : ∀ i, i < n → (i : Int) ∈ L := by
  intro i hi
  by_cases h : (i : Int) ∈ L
  · exact h
  · have := nod_le n ((i : Int) :: L) (List.nodup_cons.2 ⟨h, hn⟩) (fun y hy => by
      rcases List.mem_cons.1 hy with rfl | hy
      · exact ⟨by omega, by omega⟩
      · exact hr y hy)
    simp at this
    omega
theorem ordL_of {n : Nat} {L : List Int} (hl : L.length = n) (h0 : L[0]? = some 0) (r : Bool) (h : r = true ↔ ∀ i, i < n → (i : Int) ∈ L) : ordL n L = r := by
  unfold ordL
  rw [decide_eq_true hl, decide_eq_true h0]
  simp only [Bool.true_and]
  exact Bool.eq_iff_iff.2 (by rw [decide_eq_true_iff]; exact h.symm)
theorem ordL_len {n : Nat} {L : List Int} (hl : ¬ L.length = n) : ordL n L = false := by unfold ordL; rw [decide_eq_false hl]; rfl
theorem ordL_zero {n : Nat} {L : List Int} (h0 : ¬ L[0]? = some 0) : ordL n L = false := by unfold ordL; rw [decide_eq_false h0]; simp
theorem ordP_in {g : Gr} {L : List Int} (h : ordP g L = true) : L.length = g.blocks.length ∧ L[0]? = some 0 ∧ (∀ i, i < g.blocks.length → (i : Int) ∈ L) ∧ ∀ y ∈ L, InQ g.blocks.length y := by
  unfold ordP ordL at h
  simp only [Bool.and_eq_true, decide_eq_true_eq] at h
  obtain ⟨_, ⟨h1, h2⟩, h3⟩ := h
  refine ⟨h1, h2, h3, fun y hy => ?_⟩
  obtain ⟨k, hk, rfl⟩ := List.getElem_of_mem hy
  by_cases hq : InQ g.blocks.length L[k]
  · exact hq
  · exact absurd h3 (cover_bad h1 hk (Or.inl hq))
end Go.Proofs.YtobpcfelgobedaaR
