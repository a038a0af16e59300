/- Without loads of what a register has: plain. -/
import Derived.Test.YtfoelnblnfcaiaaAimP
import Derived.Test.YtfoelnblnfcaiaaImgL
namespace Go.Proofs.Ytfoelnblnfcaiaa
open Go.ChangeShapes Go.WideShapes Go.ChangeAt Go.RowKit
def alrW (a x : Wrd) : Bool := a.op == 2 && (x.op == 1 && (a.r == x.r && a.n == x.n))
/-- Whether word j stays. -/
def kpB (code : List Wrd) (j : Nat) : Bool := decide (j = 0) || (decide ((j : Int) ∈ goL code) || !(alrW (code[j - 1]?.getD default) (code[j]?.getD default)))
def keptUp (code : List Wrd) : Nat → List Wrd
  | 0 => []
  | j + 1 => if kpB code j = true then keptUp code j ++ [code[j]?.getD default] else keptUp code j
def numUp (code : List Wrd) : Nat → List Int
  | 0 => []
  | j + 1 => numUp code j ++ [((keptUp code j).length : Int)]
def aimX (num : List Int) (x : Wrd) : Wrd := if goesW x = true then ⟨x.op, x.r, x.a, x.b, num[x.n.toNat]?.getD 0⟩ else x
def peepP (m : Img) : Img := if imgOk m = true then ⟨m.sizes, m.params, m.slots, (keptUp m.code m.code.length).map (aimX (numUp m.code m.code.length))⟩ else m
theorem keptUp_yes {code : List Wrd} {j : Nat} {x : Wrd} (hj : j < code.length) (hx : code[j] = x) (h : kpB code j = true) : keptUp code (j + 1) = keptUp code j ++ [x] := by
  show (if _ then _ else _) = _
  rw [if_pos h, List.getElem?_eq_getElem hj, hx]; rfl
theorem keptUp_no {code : List Wrd} {j : Nat} (h : kpB code j = false) : keptUp code (j + 1) = keptUp code j := by
  show (if _ then _ else _) = _
  rw [if_neg (by simp [h])]
theorem keptUp_len (code : List Wrd) : ∀ j, (keptUp code j).length ≤ j
  | 0 => by simp [keptUp]
  | j + 1 => by
    have := keptUp_len code j
    unfold keptUp
    split
    · rw [List.length_append, List.length_singleton]; omega
    · omega
theorem numUp_len (code : List Wrd) : ∀ j, (numUp code j).length = j
  | 0 => rfl
  | j + 1 => by rw [numUp, List.length_append, numUp_len code j]; rfl
theorem keptUp_mem (code : List Wrd) : ∀ j, j ≤ code.length → ∀ x ∈ keptUp code j, x ∈ code
  | 0, _, x, hx => by simp [keptUp] at hx
  | j + 1, h, x, hx => by
    unfold keptUp at hx
    split at hx
    · rcases List.mem_append.1 hx with hx | hx
      · exact keptUp_mem code j (by omega) x hx
      · rw [List.getElem?_eq_getElem (show j < code.length by omega)] at hx
        rw [List.mem_singleton.1 hx]; exact List.getElem_mem _
    · exact keptUp_mem code j (by omega) x hx
theorem goes_in {m : Img} (h : imgOk m = true) : ∀ x ∈ m.code, goesW x = true → 0 ≤ x.n ∧ x.n < (m.code.length : Int) := fun x hx hg => by
  unfold imgOk at h
  simp only [Bool.and_eq_true, List.all_eq_true] at h
  have hw := h.1.2 x hx
  obtain ⟨op, r, a, b, n⟩ := x
  unfold goesW at hg
  simp only [Bool.or_eq_true, beq_iff_eq] at hg
  rcases hg with e | e
  · subst e
    rw [wrd_8] at hw
    simp only [Bool.and_eq_true, belI, decide_eq_true_eq] at hw
    exact hw.2.2
  · subst e
    rw [wrd_9] at hw
    simp only [Bool.and_eq_true, belI, decide_eq_true_eq] at hw
    exact hw.2.2
theorem numUp_mem (code : List Wrd) : ∀ j, ∀ z ∈ numUp code j, 0 ≤ z ∧ z ≤ (j : Int)
  | 0, z, hz => by simp [numUp] at hz
  | j + 1, z, hz => by
    rcases List.mem_append.1 hz with hz | hz
    · have := numUp_mem code j z hz; omega
    · have := keptUp_len code j
      rw [List.mem_singleton.1 hz]; omega
theorem peepP_wf {m : Img} (hw : m.wf) (hc : ∀ x ∈ m.code, x.wf) (hn : m.code.length ≤ 1048576) : (peepP m).wf ∧ ∀ x ∈ (peepP m).code, x.wf := by
  unfold peepP
  split
  · refine ⟨hw, fun x hx => ?_⟩
    obtain ⟨y, hy, rfl⟩ := List.mem_map.1 hx
    have hyw := hc y (keptUp_mem m.code _ (Nat.le_refl _) y hy)
    unfold aimX
    split
    · obtain ⟨h0, h1, h2, h3, _⟩ := hyw
      refine ⟨h0, h1, h2, h3, ?_⟩
      show I64 _
      cases e : (numUp m.code m.code.length)[y.n.toNat]? with
      | none => show I64 0; unfold I64; omega
      | some z =>
        have := numUp_mem m.code m.code.length z (List.mem_of_getElem? e)
        show I64 z
        unfold I64; omega
    · exact hyw
  · exact ⟨hw, hc⟩
theorem peepP_len (m : Img) : (peepP m).sizes.length = m.sizes.length ∧ (peepP m).code.length ≤ m.code.length := by
  unfold peepP
  split
  · exact ⟨rfl, by simp only [List.length_map]; exact keptUp_len _ _⟩
  · exact ⟨rfl, Nat.le_refl _⟩
/-- The first j told anew. -/
def amL (num : List Int) (l : List Wrd) : Nat → List Wrd
  | 0 => l
  | j + 1 => (amL num l j).set j (aimX num (l[j]?.getD default))
theorem amL_zero (num : List Int) (l : List Wrd) : amL num l 0 = l := rfl
theorem amL_len (num : List Int) (l : List Wrd) : ∀ j, (amL num l j).length = l.length
  | 0 => rfl
  | j + 1 => by rw [amL, List.length_set, amL_len num l j]
theorem amL_get (num : List Int) (l : List Wrd) : ∀ j, j ≤ l.length → ∀ i, (amL num l j)[i]? = if i < j then (l[i]?).map (aimX num) else l[i]?
  | 0, _, i => by simp [amL]
  | j + 1, h, i => by
    have ih := amL_get num l j (by omega) i
    have hl := amL_len num l j
    rw [amL, List.getElem?_set]
    by_cases e : j = i
    · subst e
      rw [if_pos rfl, if_pos (by omega), if_pos (by omega), List.getElem?_eq_getElem (show j < l.length by omega)]
      rfl
    · rw [if_neg e, ih]
      by_cases e2 : i < j
      · rw [if_pos e2, if_pos (by omega)]
      · rw [if_neg e2, if_neg (by omega)]
theorem amL_all (num : List Int) (l : List Wrd) : amL num l l.length = l.map (aimX num) := by
  apply List.ext_getElem?
  intro i
  rw [amL_get num l _ (Nat.le_refl _), List.getElem?_map]
  by_cases e : i < l.length
  · rw [if_pos e]
  · rw [if_neg e, List.getElem?_eq_none (by omega)]; rfl
theorem amL_at {num : List Int} {l : List Wrd} {j : Nat} (hj : j < l.length) : (amL num l j)[j]'(by rw [amL_len]; exact hj) = l[j] := by
  have h := amL_get num l j (by omega) j
  rw [if_neg (Nat.lt_irrefl _), List.getElem?_eq_getElem hj, List.getElem?_eq_getElem (by rw [amL_len]; exact hj)] at h
  exact Option.some.inj h
theorem amL_succ {num : List Int} {l : List Wrd} {j : Nat} (hj : j < l.length) : amL num l (j + 1) = (amL num l j).set j (aimX num l[j]) := by
  rw [amL, List.getElem?_eq_getElem hj]; rfl
theorem amL_same {num : List Int} {l : List Wrd} {j : Nat} (hj : j < l.length) (hg : goesW l[j] = false) : amL num l (j + 1) = amL num l j := by
  rw [amL_succ hj]
  have e : aimX num l[j] = (amL num l j)[j]'(by rw [amL_len]; exact hj) := by rw [amL_at hj]; unfold aimX; rw [if_neg (by simp [hg])]
  rw [e, List.set_getElem_self]
end Go.Proofs.Ytfoelnblnfcaiaa
