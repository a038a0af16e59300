/- The contract of the laws' marks on a block. -/
import Derived.Test.YtdkdimklacblaalRRMarkG
namespace Go.Proofs.YtdkdimklacblaalRR
open Go.ChangeShapes Go.WideShapes Go.ChangeAt Go.RowKit
set_option maxHeartbeats 1000000 in
theorem markBlock_room (x : Blk) (w : World) (B T : Nat) (v : Array Value) (h : BRoom w B T v x) (hs : x.sz ≤ 1048576) :
    Calls Try.prog 13 #[.agg v, .int .i64 1] w fun en w' => ∃ k : Nat, en = .returned (.int .i64 k) ∧ Over B T w w' := by
  obtain ⟨ua, ca, rfl, h1⟩ := h
  have hs' : slSz Ins.sz x.code ≤ 1048576 := hs
  have hbl : x.code.length ≤ 1048576 := by unfold slSz at hs'; omega
  have H1 := hideP h1
  clear h1
  go_enter Try.func13, Try.ntmps13
  go_wp2_with fail
  refine (markInstrS_room x.code.length _ B T 1 ua ca (H1.out.stays ((Below.refl _ _).alloc (Nat.le_refl _) _)) (by omega) (by omega)).mono ?_
  rintro e1 w1 ⟨rfl, o1⟩
  have O1 := hideP o1
  clear o1
  go_wp2
  go_ret
  exact ⟨_, rfl, O1.out.of_alloc⟩
end Go.Proofs.YtdkdimklacblaalRR
