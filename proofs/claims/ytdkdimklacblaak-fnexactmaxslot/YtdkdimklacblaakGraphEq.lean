/- The contracts of eqGraph and eqGraphS of two that are alike (written by wip/mkshape.py). -/
import Derived.Test.YtdkdimklacblaakGraphD
import Derived.Test.YtdkdimklacblaakBlockEq
namespace Go.Proofs.Ytdkdimklacblaak
open Go.ChangeShapes Go.WideShapes Go.ChangeAt Go.RowKit
set_option maxHeartbeats 1000000 in
theorem eqGraph_same (x : Gr) (w : World) (B1 B2 : Nat) (v1 v2 : Array Value) (h1 : GrIs w B1 v1 x) (h2 : GrIs w B2 v2 x) :
    Calls Try.prog 10 #[.agg v1, .agg v2] w fun en w' => en = .returned (.bool true) ∧ Below w.heap.size w w' := by
  obtain ⟨sizes, params, vars, slots, blocks⟩ := x
  obtain ⟨usizes1, csizes1, ublocks1, cblocks1, rfl, _, hsizes1, hblocks1⟩ := h1
  obtain ⟨usizes2, csizes2, ublocks2, cblocks2, rfl, _, hsizes2, hblocks2⟩ := h2
  simp only at *
  have Hsizes1 := hideP hsizes1
  have Hsizes2 := hideP hsizes2
  have Hblocks1 := hideP hblocks1
  have Hblocks2 := hideP hblocks2
  clear hsizes1 hsizes2 hblocks1 hblocks2
  go_enter Try.func10, Try.ntmps10
  go_wp2_with fail
  refine (eqIntS_same sizes _ B1 B2 usizes1 usizes2 csizes1 csizes2 (Hsizes1.out.stays (below2 w _ _)) (Hsizes2.out.stays (below2 w _ _))).mono ?_
  rintro y1 w1 ⟨rfl, bel1⟩
  obtain ⟨q1, q2, hz, hw⟩ := two bel1
  have HW1 := hideP hw
  have Q1 := hideP q1
  have Q2 := hideP q2
  clear bel1 q1 q2 hw
  have p1 := (cells_of Q1.out).1 1
  have r1 := (cells_of Q2.out).1 1
  have p2 := (cells_of Q1.out).1 2
  have r2 := (cells_of Q2.out).1 2
  have p3 := (cells_of Q1.out).1 3
  have r3 := (cells_of Q2.out).1 3
  have p4 := (cells_of Q1.out).1 4
  have r4 := (cells_of Q2.out).1 4
  simp at p1 r1 p2 r2 p3 r3 p4 r4
  go_wp2_with fail
  refine (eqBlockS_same blocks _ B1 B2 ublocks1 ublocks2 cblocks1 cblocks2 (Hblocks1.out.stays BlkKeeps HW1.out) (Hblocks2.out.stays BlkKeeps HW1.out)).mono ?_
  rintro y2 w2 ⟨rfl, bel2⟩
  have HW2 := hideP (below_trans HW1.out bel2)
  have Q1 := hideP ((bel2.block _ (Array.getElem?_eq_some_iff.1 Q1.out).1).trans Q1.out)
  have Q2 := hideP ((bel2.block _ (Array.getElem?_eq_some_iff.1 Q2.out).1).trans Q2.out)
  clear bel2 p1 r1 p2 r2 p3 r3 p4 r4
  go_wp2
  go_ret
  exact ⟨rfl, HW2.out⟩
end Go.Proofs.Ytdkdimklacblaak
