/- Plain chapter 11: nothing reckoned twice in a block. -/
import Derived.Test.YtjmclmbepnbeoaaFldPG
namespace Go.Proofs.Ytjmclmbepnbeoaa
open Go.ChangeShapes Go.WideShapes Go.ChangeAt Go.RowKit
/-- Two steps reckon the same. -/
def Alike (x y : Ins) : Prop := y.t = x.t ∧ y.a = x.a ∧ y.b = x.b
open Classical in
/-- The last step of some that reckons the same. -/
noncomputable def findL (L : List Ins) (x : Ins) : Option Ins := (L.filter (fun y => decide (Alike x y))).getLast?
theorem find_none {L : List Ins} {x : Ins} (h : ∀ y ∈ L, ¬ Alike x y) : findL L x = none := by
  unfold findL
  rw [List.filter_eq_nil_iff.2 (fun y hy => by simp [h y hy])]
  rfl
theorem find_at {L : List Ins} {x : Ins} {i : Nat} (hi : i < L.length) (hno : ∀ j (hj : j < L.length), i < j → ¬ Alike x L[j]) (h : Alike x L[i]) : findL L x = some L[i] := by
  unfold findL
  have e : L = L.take i ++ (L[i] :: L.drop (i + 1)) := by rw [← List.drop_eq_getElem_cons hi, List.take_append_drop]
  have e2 : (L.drop (i + 1)).filter (fun y => @decide (Alike x y) (Classical.propDecidable _)) = [] := List.filter_eq_nil_iff.2 (fun y hy => by
    obtain ⟨k, hk, rfl⟩ := List.getElem_of_mem hy
    rw [List.length_drop] at hk
    rw [List.getElem_drop]
    simp [hno (i + 1 + k) (by omega) (by omega)])
  have e3 : L.filter (fun y => @decide (Alike x y) (Classical.propDecidable _)) = (L.take i).filter (fun y => @decide (Alike x y) (Classical.propDecidable _)) ++ [L[i]] := by
    conv => lhs; rw [e]
    rw [List.filter_append, List.filter_cons, if_pos (by simpa using h), e2]
  rw [e3]
  simp
theorem find_mem {L : List Ins} {x y : Ins} (h : findL L x = some y) : y ∈ L ∧ Alike x y := by
  unfold findL at h
  have := List.mem_of_getLast? h
  rw [List.mem_filter] at this
  exact ⟨this.1, by simpa using this.2⟩
/-- The step, told anew. -/
noncomputable def twX (L : List Ins) (x : Ins) : Ins := if x.op = 2 then match findL L x with
    | some y => ⟨1, x.d, y.d, 0, 0, 0, ⟨#[]⟩⟩
    | none => x
  else x
/-- A step that still stands behind another. -/
def StandX (x y : Ins) : Prop := (x.op = 4 ∨ x.op = 6) ∨ (y.a ≠ x.d ∧ y.b ≠ x.d ∧ y.d ≠ x.d)
instance (x y : Ins) : Decidable (StandX x y) := inferInstanceAs (Decidable (_ ∨ _))
def keptX (L : List Ins) (x : Ins) : List Ins := L.filter (fun y => decide (StandX x y))
def twK (L : List Ins) (x : Ins) : List Ins := keptX L x ++ (if x.op = 2 ∧ x.d ≠ x.a ∧ x.d ≠ x.b then [x] else [])
noncomputable def twF (L : List Ins) (x : Ins) : List Ins × Ins := (twK L x, twX L x)
noncomputable def twUp (code : List Ins) : List Ins × List Ins := scanUp twF [] code code.length
noncomputable def twB (b : Blk) : Blk := { b with code := (twUp b.code).2 }
noncomputable def twP (g : Gr) : Gr := if grOk g = true then { g with blocks := g.blocks.map twB } else g
theorem twP_ok {g : Gr} (h : grOk g = true) : twP g = { g with blocks := g.blocks.map twB } := by unfold twP; rw [if_pos h]
theorem twP_no {g : Gr} (h : ¬ grOk g = true) : twP g = g := by unfold twP; rw [if_neg h]
theorem twB_len (b : Blk) : (twB b).code.length = b.code.length := scanUp_len _ (Nat.le_refl _)
theorem twK_few (L : List Ins) (x : Ins) : (twK L x).length ≤ L.length + 1 := by
  unfold twK keptX
  have := List.length_filter_le (fun y => decide (StandX x y)) L
  rw [List.length_append]
  split <;> simp <;> omega
theorem scanTw_few (code : List Ins) : ∀ j, (scanUp twF [] code j).1.length ≤ j
  | 0 => by simp [scanUp]
  | j + 1 => by
    have ih := scanTw_few code j
    by_cases h : j < code.length
    · rw [scanUp_at h]
      have := twK_few (scanUp twF [] code j).1 code[j]
      show (twK _ _).length ≤ _
      omega
    · have e : scanUp twF [] code (j + 1) = scanUp twF [] code j := by
        show (match code[j]? with | some x => _ | none => _) = _
        rw [List.getElem?_eq_none (by omega)]
      rw [e]; omega
theorem scanTw_all {P : Ins → Prop} {code : List Ins} (hc : ∀ x ∈ code, P x) : ∀ j, ∀ y ∈ (scanUp twF [] code j).1, P y
  | 0, y, hy => by simp [scanUp] at hy
  | j + 1, y, hy => by
    by_cases h : j < code.length
    · rw [scanUp_at h] at hy
      have hy : y ∈ twK (scanUp twF [] code j).1 code[j] := hy
      unfold twK at hy
      rcases List.mem_append.1 hy with hy | hy
      · exact scanTw_all hc j y (List.mem_filter.1 hy).1
      · split at hy
        · rw [List.mem_singleton.1 hy]; exact hc _ (List.getElem_mem h)
        · simp at hy
    · have e : scanUp twF [] code (j + 1) = scanUp twF [] code j := by
        show (match code[j]? with | some x => _ | none => _) = _
        rw [List.getElem?_eq_none (by omega)]
      rw [e] at hy
      exact scanTw_all hc j y hy
end Go.Proofs.Ytjmclmbepnbeoaa
