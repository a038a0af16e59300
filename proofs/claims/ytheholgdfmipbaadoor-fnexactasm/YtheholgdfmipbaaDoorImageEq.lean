/- The contracts of eqImage and eqImageS of two that are alike (written by wip/mkshape.py). -/
import Derived.Test.YtheholgdfmipbaaDoorImageD
import Derived.Test.YtheholgdfmipbaaDoorWordEq
namespace Go.Proofs.YtheholgdfmipbaaDoor
open Go.ChangeShapes Go.WideShapes Go.ChangeAt Go.RowKit
set_option maxHeartbeats 1000000 in
theorem eqImage_same (x : Img) (w : World) (B1 B2 : Nat) (v1 v2 : Array Value) (h1 : ImgIs w B1 v1 x) (h2 : ImgIs w B2 v2 x) :
    Calls Tryd.prog 13 #[.agg v1, .agg v2] w fun en w' => en = .returned (.bool true) ∧ Below w.heap.size w w' := by
  obtain ⟨sizes, params, slots, code⟩ := x
  obtain ⟨usizes1, csizes1, ucode1, ccode1, rfl, _, hsizes1, hcode1⟩ := h1
  obtain ⟨usizes2, csizes2, ucode2, ccode2, rfl, _, hsizes2, hcode2⟩ := h2
  simp only at *
  have Hsizes1 := hideP hsizes1
  have Hsizes2 := hideP hsizes2
  have Hcode1 := hideP hcode1
  have Hcode2 := hideP hcode2
  clear hsizes1 hsizes2 hcode1 hcode2
  go_enter Tryd.func13, Tryd.ntmps13
  go_wp2_with fail
  refine (eqIntS_same sizes _ B1 B2 usizes1 usizes2 csizes1 csizes2 (Hsizes1.out.stays (below2 w _ _)) (Hsizes2.out.stays (below2 w _ _))).mono ?_
  rintro y1 w1 ⟨rfl, bel1⟩
  obtain ⟨q1, q2, hz, hw⟩ := two bel1
  have HW1 := hideP hw
  have Q1 := hideP q1
  have Q2 := hideP q2
  clear bel1 q1 q2 hw
  have p1 := (cells_of Q1.out).1 1
  have r1 := (cells_of Q2.out).1 1
  have p2 := (cells_of Q1.out).1 2
  have r2 := (cells_of Q2.out).1 2
  have p3 := (cells_of Q1.out).1 3
  have r3 := (cells_of Q2.out).1 3
  simp at p1 r1 p2 r2 p3 r3
  go_wp2_with fail
  refine (eqWordS_same code _ B1 B2 ucode1 ucode2 ccode1 ccode2 (Hcode1.out.stays WrdKeeps HW1.out) (Hcode2.out.stays WrdKeeps HW1.out)).mono ?_
  rintro y2 w2 ⟨rfl, bel2⟩
  have HW2 := hideP (below_trans HW1.out bel2)
  have Q1 := hideP ((bel2.block _ (Array.getElem?_eq_some_iff.1 Q1.out).1).trans Q1.out)
  have Q2 := hideP ((bel2.block _ (Array.getElem?_eq_some_iff.1 Q2.out).1).trans Q2.out)
  clear bel2 p1 r1 p2 r2 p3 r3
  go_wp2
  go_ret
  exact ⟨rfl, HW2.out⟩
end Go.Proofs.YtheholgdfmipbaaDoor
