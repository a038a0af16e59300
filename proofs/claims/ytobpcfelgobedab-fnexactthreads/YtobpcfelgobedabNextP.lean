/- The blocks that a block goes to: plain. -/
import Derived.Test.YtobpcfelgobedabBlockD
import Derived.Test.YtobpcfelgobedabOwnIntL
namespace Go.Proofs.Ytobpcfelgobedab
open Go.ChangeShapes Go.WideShapes Go.ChangeAt Go.RowKit
def nextP (x : Blk) : List Int := if x.jump = 0 then [x.to] else if x.jump = 1 then [x.to, x.els] else []
theorem nextP_go {code : List Ins} {a to els : Int} : nextP ⟨code, 0, a, to, els⟩ = [to] := rfl
theorem nextP_if {code : List Ins} {a to els : Int} : nextP ⟨code, 1, a, to, els⟩ = [to, els] := rfl
theorem nextP_none {code : List Ins} {jump a to els : Int} (h0 : ¬ jump = 0) (h1 : ¬ jump = 1) : nextP ⟨code, jump, a, to, els⟩ = [] := by simp [nextP, h0, h1]
theorem nextP_len (x : Blk) : (nextP x).length ≤ 2 := by unfold nextP; split; · simp
                                                         split <;> simp
end Go.Proofs.Ytobpcfelgobedab
