/- Plain: a right expression's text, as bytes, and how long it is at most. -/
import Derived.Test.YtfoaplihindeaagDoorExpOkP
import Derived.Test.YtfoaplihindeaagDoorEndPlain
namespace Go.Proofs.YtfoaplihindeaagDoor
/-- r and a region's number; + v and a variable's, where there is one. -/
def memL (n b : Int) : List UInt8 := 114 :: Lib.itoa n ++ (if b < 0 then [] else [43, 118] ++ Lib.itoa b)
mutual
def Ex.tx : Ex → List UInt8
  | .mk k n b t kids => if k = 0 then Lib.itoa n else if k = 1 then 118 :: Lib.itoa n
    else if k = 2 then memL n b ++ [91] ++ (exsTx kids).getD 0 [] ++ [93]
    else if k = 3 then [40] ++ (exsTx kids).getD 0 [] ++ [32] ++ t.data.toList ++ [32] ++ (exsTx kids).getD 1 [] ++ [41]
    else [103, 101, 116]
def exsTx : List Ex → List (List UInt8)
  | [] => []
  | e :: l => e.tx :: exsTx l
end
theorem exsTx_at : ∀ (l : List Ex) (i : Nat) (h : i < l.length), (exsTx l).getD i [] = l[i].tx
  | e :: l, 0, _ => by simp [exsTx]
  | e :: l, i + 1, h => by
    have := exsTx_at l i (by simpa using h)
    simpa [exsTx] using this
theorem memL_len {n b : Int} (hn : In64 n) (hb : In64 b) : (memL n b).length ≤ 45 := by
  have := itoa_len hn.1 hn.2
  have := itoa_len hb.1 hb.2
  unfold memL
  split <;> simp <;> omega
theorem exsOk_mem {R V d : Int} {l : List Ex} (h : exsOk R V d l = true) {e : Ex} (he : e ∈ l) : exOk R V d e = true := by
  obtain ⟨a, b, rfl⟩ := List.append_of_mem he
  rw [exsOk_append] at h
  simp [exsOk] at h
  exact h.2.1
/-- What a right expression's fields are, kind by kind. -/
theorem ok_out {R V d k n b : Int} {t : ByteArray} {kids : List Ex} (h : exOk R V d (.mk k n b t kids) = true) :
    (∀ e ∈ kids, exOk R V (d - 1) e = true) ∧
    ((k = 0 ∧ 0 ≤ n ∧ n ≤ 999999999) ∨ (k = 1 ∧ 0 ≤ n ∧ n < V) ∨ (k = 2 ∧ 0 ≤ n ∧ n < R ∧ (b = -1 ∨ 0 ≤ b ∧ b < V) ∧ kids.length = 1) ∨ (k = 3 ∧ kids.length = 2) ∨ k = 4) := by
  rw [exOk, Bool.and_eq_true, Bool.and_eq_true] at h
  obtain ⟨⟨_, hf⟩, hk⟩ := h
  refine ⟨fun e he => exsOk_mem hk he, ?_⟩
  unfold fldOk at hf
  by_cases h3 : k = 3
  · rw [if_pos h3] at hf; simp at hf; exact Or.inr (Or.inr (Or.inr (Or.inl ⟨h3, hf.2⟩)))
  · rw [if_neg h3] at hf
    by_cases h0 : k = 0
    · rw [if_pos h0] at hf; simp at hf; exact Or.inl ⟨h0, by omega⟩
    · rw [if_neg h0] at hf
      by_cases h1 : k = 1
      · rw [if_pos h1] at hf; simp [vOk] at hf; exact Or.inr (Or.inl ⟨h1, by omega⟩)
      · rw [if_neg h1] at hf
        by_cases h2 : k = 2
        · rw [if_pos h2] at hf; simp [plOk, vOk] at hf; exact Or.inr (Or.inr (Or.inl ⟨h2, by omega⟩))
        · rw [if_neg h2] at hf
          by_cases h4 : k = 4
          · exact Or.inr (Or.inr (Or.inr (Or.inr h4)))
          · rw [if_neg h4] at hf; simp at hf
theorem tx_len {R V : Int} (hR : In64 R) (hV : In64 V) (e : Ex) : ∀ d, exOk R V d e = true → e.tx.length ≤ 50 * (1 + e.sz) := by
  induction e using Ex.ind with
  | h k n b t kids ih =>
    intro d h
    obtain ⟨hk, hc⟩ := ok_out h
    rw [Ex.sz_mk]
    have r0 := hR.2; have v0 := hV.2
    rcases hc with ⟨rfl, h0, h1⟩ | ⟨rfl, h0, h1⟩ | ⟨rfl, h0, h1, h2, h3⟩ | ⟨rfl, h3⟩ | rfl
    · have := itoa_len (n := n) (by omega) (by omega)
      simp [Ex.tx]; omega
    · have := itoa_len (n := n) (by omega) (by omega)
      simp [Ex.tx]; omega
    · obtain ⟨x, rfl⟩ : ∃ x, kids = [x] := List.length_eq_one_iff.1 h3
      have q := ih x (by simp) _ (hk x (by simp))
      have m := memL_len (n := n) (b := b) ⟨by omega, by omega⟩ ⟨by omega, by omega⟩
      simp [Ex.tx, exsTx, exsSz, exsSum]; omega
    · obtain ⟨x, y, rfl⟩ : ∃ x y, kids = [x, y] := by
        match kids, h3 with
        | [x, y], _ => exact ⟨x, y, rfl⟩
      have q := ih x (by simp) _ (hk x (by simp))
      have q' := ih y (by simp) _ (hk y (by simp))
      simp [Ex.tx, exsTx, exsSz, exsSum]; omega
    · simp [Ex.tx]; omega
end Go.Proofs.YtfoaplihindeaagDoor
