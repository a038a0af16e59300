/- Plain chapter 11: Twice keeps the steps' form. -/
import Derived.Test.YtjmclmbepnbeoaaTwcP
import Derived.Test.YtjmclmbepnbeoaaFldPG
namespace Go.Proofs.Ytjmclmbepnbeoaa
open Go.ChangeShapes Go.WideShapes Go.ChangeAt Go.RowKit
/-- A step's numbers are of 64 bits, its text is not too long. -/
def WfX (x : Ins) : Prop := x.wf ∧ x.t.size ≤ maxLen
theorem twX_wf {L : List Ins} {x : Ins} (hL : ∀ y ∈ L, WfX y) (hx : WfX x) : WfX (twX L x) := by
  unfold twX
  split
  · split
    · rename_i y e
      exact ⟨⟨by show I64 1; unfold I64; omega, hx.1.2.1, (hL _ (find_mem e).1).1.2.1, i64_zero, i64_zero, i64_zero⟩, empty_few⟩
    · exact hx
  · exact hx
theorem scanTw_wf {code : List Ins} (hw : ∀ x ∈ code, WfX x) : ∀ j, ∀ y ∈ (scanUp twF [] code j).2, WfX y
  | 0, y, hy => by simp [scanUp] at hy
  | j + 1, y, hy => by
    by_cases h : j < code.length
    · rw [scanUp_at h] at hy
      rcases List.mem_append.1 hy with hy | hy
      · exact scanTw_wf hw j y hy
      · rw [List.mem_singleton.1 hy]
        exact twX_wf (scanTw_all hw j) (hw _ (List.getElem_mem h))
    · have e : scanUp twF [] code (j + 1) = scanUp twF [] code j := by
        show (match code[j]? with | some x => _ | none => _) = _
        rw [List.getElem?_eq_none (by omega)]
      rw [e] at hy
      exact scanTw_wf hw j y hy
theorem twUp_wf {code : List Ins} (hw : ∀ x ∈ code, WfX x) : ∀ y ∈ (twUp code).2, WfX y := scanTw_wf hw _
end Go.Proofs.Ytjmclmbepnbeoaa
