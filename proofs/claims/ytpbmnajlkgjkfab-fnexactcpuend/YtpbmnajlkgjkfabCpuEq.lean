/- The contracts of eqCpu and eqCpuS of two that are alike (written by wip/mkshape.py). -/
import Derived.Test.YtpbmnajlkgjkfabCpuD
import Derived.Test.YtpbmnajlkgjkfabIntSEq
namespace Go.Proofs.Ytpbmnajlkgjkfab
open Go.ChangeShapes Go.WideShapes Go.ChangeAt Go.RowKit
set_option maxHeartbeats 1000000 in
theorem eqCpu_same (x : Cp) (w : World) (B1 B2 : Nat) (v1 v2 : Array Value) (h1 : CpIs w B1 v1 x) (h2 : CpIs w B2 v2 x) :
    Calls Try.prog 9 #[.agg v1, .agg v2] w fun en w' => en = .returned (.bool true) ∧ Below w.heap.size w w' := by
  obtain ⟨pos, regs, slots, mem, input, out, code, over, val⟩ := x
  obtain ⟨uregs1, cregs1, uslots1, cslots1, umem1, cmem1, uinput1, cinput1, uout1, cout1, rfl, _, hregs1, hslots1, hmem1, hinput1, hout1⟩ := h1
  obtain ⟨uregs2, cregs2, uslots2, cslots2, umem2, cmem2, uinput2, cinput2, uout2, cout2, rfl, _, hregs2, hslots2, hmem2, hinput2, hout2⟩ := h2
  simp only at *
  have Hregs1 := hideP hregs1
  have Hregs2 := hideP hregs2
  have Hslots1 := hideP hslots1
  have Hslots2 := hideP hslots2
  have Hmem1 := hideP hmem1
  have Hmem2 := hideP hmem2
  have Hinput1 := hideP hinput1
  have Hinput2 := hideP hinput2
  have Hout1 := hideP hout1
  have Hout2 := hideP hout2
  clear hregs1 hregs2 hslots1 hslots2 hmem1 hmem2 hinput1 hinput2 hout1 hout2
  go_enter Try.func9, Try.ntmps9
  go_wp2_with fail
  refine (eqIntS_same regs _ B1 B2 uregs1 uregs2 cregs1 cregs2 (Hregs1.out.stays (below2 w _ _)) (Hregs2.out.stays (below2 w _ _))).mono ?_
  rintro y1 w1 ⟨rfl, bel1⟩
  obtain ⟨q1, q2, hz, hw⟩ := two bel1
  have HW1 := hideP hw
  have Q1 := hideP q1
  have Q2 := hideP q2
  clear bel1 q1 q2 hw
  have p2 := (cells_of Q1.out).1 2
  have r2 := (cells_of Q2.out).1 2
  have p3 := (cells_of Q1.out).1 3
  have r3 := (cells_of Q2.out).1 3
  have p4 := (cells_of Q1.out).1 4
  have r4 := (cells_of Q2.out).1 4
  have p5 := (cells_of Q1.out).1 5
  have r5 := (cells_of Q2.out).1 5
  have p6 := (cells_of Q1.out).1 6
  have r6 := (cells_of Q2.out).1 6
  have p7 := (cells_of Q1.out).1 7
  have r7 := (cells_of Q2.out).1 7
  have p8 := (cells_of Q1.out).1 8
  have r8 := (cells_of Q2.out).1 8
  simp at p2 r2 p3 r3 p4 r4 p5 r5 p6 r6 p7 r7 p8 r8
  go_wp2_with fail
  refine (eqIntS_same slots _ B1 B2 uslots1 uslots2 cslots1 cslots2 (Hslots1.out.stays HW1.out) (Hslots2.out.stays HW1.out)).mono ?_
  rintro y2 w2 ⟨rfl, bel2⟩
  have HW2 := hideP (below_trans HW1.out bel2)
  have Q1 := hideP ((bel2.block _ (Array.getElem?_eq_some_iff.1 Q1.out).1).trans Q1.out)
  have Q2 := hideP ((bel2.block _ (Array.getElem?_eq_some_iff.1 Q2.out).1).trans Q2.out)
  clear bel2 p2 r2 p3 r3 p4 r4 p5 r5 p6 r6 p7 r7 p8 r8
  have p3 := (cells_of Q1.out).1 3
  have r3 := (cells_of Q2.out).1 3
  have p4 := (cells_of Q1.out).1 4
  have r4 := (cells_of Q2.out).1 4
  have p5 := (cells_of Q1.out).1 5
  have r5 := (cells_of Q2.out).1 5
  have p6 := (cells_of Q1.out).1 6
  have r6 := (cells_of Q2.out).1 6
  have p7 := (cells_of Q1.out).1 7
  have r7 := (cells_of Q2.out).1 7
  have p8 := (cells_of Q1.out).1 8
  have r8 := (cells_of Q2.out).1 8
  simp at p3 r3 p4 r4 p5 r5 p6 r6 p7 r7 p8 r8
  go_wp2_with fail
  refine (eqIntSS_same mem _ B1 B2 umem1 umem2 cmem1 cmem2 (Hmem1.out.stays RwKeeps HW2.out) (Hmem2.out.stays RwKeeps HW2.out)).mono ?_
  rintro y3 w3 ⟨rfl, bel3⟩
  have HW3 := hideP (below_trans HW2.out bel3)
  have Q1 := hideP ((bel3.block _ (Array.getElem?_eq_some_iff.1 Q1.out).1).trans Q1.out)
  have Q2 := hideP ((bel3.block _ (Array.getElem?_eq_some_iff.1 Q2.out).1).trans Q2.out)
  clear bel3 p3 r3 p4 r4 p5 r5 p6 r6 p7 r7 p8 r8
  have p4 := (cells_of Q1.out).1 4
  have r4 := (cells_of Q2.out).1 4
  have p5 := (cells_of Q1.out).1 5
  have r5 := (cells_of Q2.out).1 5
  have p6 := (cells_of Q1.out).1 6
  have r6 := (cells_of Q2.out).1 6
  have p7 := (cells_of Q1.out).1 7
  have r7 := (cells_of Q2.out).1 7
  have p8 := (cells_of Q1.out).1 8
  have r8 := (cells_of Q2.out).1 8
  simp at p4 r4 p5 r5 p6 r6 p7 r7 p8 r8
  go_wp2_with fail
  refine (eqIntS_same input _ B1 B2 uinput1 uinput2 cinput1 cinput2 (Hinput1.out.stays HW3.out) (Hinput2.out.stays HW3.out)).mono ?_
  rintro y4 w4 ⟨rfl, bel4⟩
  have HW4 := hideP (below_trans HW3.out bel4)
  have Q1 := hideP ((bel4.block _ (Array.getElem?_eq_some_iff.1 Q1.out).1).trans Q1.out)
  have Q2 := hideP ((bel4.block _ (Array.getElem?_eq_some_iff.1 Q2.out).1).trans Q2.out)
  clear bel4 p4 r4 p5 r5 p6 r6 p7 r7 p8 r8
  have p5 := (cells_of Q1.out).1 5
  have r5 := (cells_of Q2.out).1 5
  have p6 := (cells_of Q1.out).1 6
  have r6 := (cells_of Q2.out).1 6
  have p7 := (cells_of Q1.out).1 7
  have r7 := (cells_of Q2.out).1 7
  have p8 := (cells_of Q1.out).1 8
  have r8 := (cells_of Q2.out).1 8
  simp at p5 r5 p6 r6 p7 r7 p8 r8
  go_wp2_with fail
  refine (eqIntS_same out _ B1 B2 uout1 uout2 cout1 cout2 (Hout1.out.stays HW4.out) (Hout2.out.stays HW4.out)).mono ?_
  rintro y5 w5 ⟨rfl, bel5⟩
  have HW5 := hideP (below_trans HW4.out bel5)
  have Q1 := hideP ((bel5.block _ (Array.getElem?_eq_some_iff.1 Q1.out).1).trans Q1.out)
  have Q2 := hideP ((bel5.block _ (Array.getElem?_eq_some_iff.1 Q2.out).1).trans Q2.out)
  clear bel5 p5 r5 p6 r6 p7 r7 p8 r8
  have p6 := (cells_of Q1.out).1 6
  have r6 := (cells_of Q2.out).1 6
  have p7 := (cells_of Q1.out).1 7
  have r7 := (cells_of Q2.out).1 7
  have p8 := (cells_of Q1.out).1 8
  have r8 := (cells_of Q2.out).1 8
  simp at p6 r6 p7 r7 p8 r8
  go_wp2
  go_ret
  exact ⟨rfl, HW5.out⟩
end Go.Proofs.Ytpbmnajlkgjkfab
