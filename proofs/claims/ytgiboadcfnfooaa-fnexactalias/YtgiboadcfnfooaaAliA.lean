/- Alias and AliasText, as functions; the contracts of both sides. -/
import Derived.Test.YtgiboadcfnfooaaAliP
import Derived.WalkKit
import Derived.BigQuiet
namespace Go.Proofs.Ytgiboadcfnfooaa
open Go.ChangeShapes Go.WideShapes Go.ChangeAt Go.RowKit
def plV (p : Pla) : Array Value := #[.int .i64 p.r, .int .i64 p.i, .int .i64 p.j, .int .i64 p.off]
def aliasP (a b : Pla) : Int := if a.r = b.r then (if a.i = b.i ∧ a.j = b.j then (if a.off = b.off then 2 else 0) else 1) else 0
set_option maxHeartbeats 1000000 in
theorem implAlias_any (a b : Pla) (w : World) :
    Calls Try.prog 22 #[.agg (plV a), .agg (plV b)] w fun e w' => e = .returned (.int .i64 (aliasP a b)) ∧ Below w.heap.size w w' := by
  obtain ⟨r, i, j, o⟩ := a
  obtain ⟨r', i', j', o'⟩ := b
  simp only [plV]
  go_enter Try.func22, Try.ntmps22
  go_wp2
  all_goals go_ret
  all_goals refine ⟨ret_int ?_, by first | exact below2 w _ _ | exact (below2 w _ _).drew⟩
  all_goals simp_all [aliasP]
set_option maxHeartbeats 1000000 in
theorem specAlias_any (a b : Pla) (w : World) :
    Calls Try.prog 20 #[.agg (plV a), .agg (plV b)] w fun e w' => e = .returned (.int .i64 (aliasP a b)) ∧ Below w.heap.size w w' := by
  obtain ⟨r, i, j, o⟩ := a
  obtain ⟨r', i', j', o'⟩ := b
  simp only [plV]
  go_enter Try.func20, Try.ntmps20
  go_wp2
  all_goals go_ret
  all_goals refine ⟨ret_int ?_, by first | exact below2 w _ _ | exact (below2 w _ _).drew⟩
  all_goals simp_all [aliasP]
end Go.Proofs.Ytgiboadcfnfooaa
