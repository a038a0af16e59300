/- The contract of impl.withNext with Threads' closure (written by wip/mkwni.py). -/
import Derived.Test.YtobpcfelgobedabThPl
import Derived.Deep.LoopGhost
namespace Go.Proofs.Ytobpcfelgobedab
open Go.ChangeShapes Go.WideShapes Go.ChangeAt Go.RowKit
theorem lt_of_some {W : World} {b : Nat} {o : Obj} (h : W.heap[b]? = some o) : b < W.heap.size := (Array.getElem?_eq_some_iff.1 h).1
set_option maxHeartbeats 4000000 in
set_option maxRecDepth 100000 in
theorem withNext_any (T : Int → Int) (code : List Ins) (jump a t0 els : Int) (w : World) (ux : Option Addr) (kx pc : Nat)
    (HF : ∀ n W, Below w.heap.size w W → toldOf ⟨code, jump, a, t0, els⟩ n → Calls Try.prog 21 #[.int .i64 n, .pointer (some ⟨pc, 0, none⟩)] W fun e w' => e = .returned (.int .i64 (T n)) ∧ Below W.heap.size W w') :
    Calls Try.prog 20 #[.agg #[.slice ux code.length kx, .int .i64 jump, .int .i64 a, .int .i64 t0, .int .i64 els], .func (.func 21) #[] #[.pointer (some ⟨pc, 0, none⟩)]] w fun e w' => e = .returned (.agg #[.slice ux code.length kx, .int .i64 jump, .int .i64 a, .int .i64 (tellB T ⟨code, jump, a, t0, els⟩).to, .int .i64 (tellB T ⟨code, jump, a, t0, els⟩).els]) ∧ Below w.heap.size w w' := by
  have HT := hideP HF
  have TH := two (Below.refl ((w.alloc (.cells #[.slice ux code.length kx, .int .i64 jump, .int .i64 a, .int .i64 t0, .int .i64 els] 40)).alloc (.cells #[.slice none 0 0, .int .i64 0, .int .i64 0, .int .i64 0, .int .i64 0] 40)).heap.size _)
  obtain ⟨w2, hw2⟩ : ∃ w2, ((w.alloc (.cells #[.slice ux code.length kx, .int .i64 jump, .int .i64 a, .int .i64 t0, .int .i64 els] 40)).alloc (.cells #[.slice none 0 0, .int .i64 0, .int .i64 0, .int .i64 0, .int .i64 0] 40)) = w2 := ⟨_, rfl⟩
  rw [hw2] at TH
  have HX := hideP TH.1
  have HRS := hideP TH.2.1
  have BW := hideP TH.2.2.2
  clear HF TH
  have p0 := (cells_of HX.out).1 0
  have p1 := (cells_of HX.out).1 1
  have p2 := (cells_of HX.out).1 2
  have p3 := (cells_of HX.out).1 3
  have p4 := (cells_of HX.out).1 4
  simp at p0 p1 p2 p3 p4
  by_cases h1 : jump = 1
  · subst h1
    rw [tell_1]
    have C1 := hideP (HT.out els w2 BW.out (told_els code a t0 els))
    have C2 := hideP (fun W hW => HT.out t0 W hW (told_to1 code a t0 els))
    obtain ⟨Te, hTe⟩ : ∃ z, T els = z := ⟨_, rfl⟩
    obtain ⟨Tt, hTt⟩ : ∃ z, T t0 = z := ⟨_, rfl⟩
    rw [hTe] at C1 ⊢
    rw [hTt] at C2 ⊢
    clear hTe hTt HT
    go_enter Try.func20, Try.ntmps20
    go_wp2_with fail
    refine C1.out.mono ?_
    rintro e1 w3 ⟨rfl, b3⟩
    have X3 := hideP ((b3.block _ (lt_of_some HX.out)).trans HX.out)
    have R3 := hideP ((b3.block _ (lt_of_some HRS.out)).trans HRS.out)
    have B3 := hideP (below_trans BW.out b3)
    have q0 := (cells_of X3.out).1 0
    have q1 := (cells_of X3.out).1 1
    have q2 := (cells_of X3.out).1 2
    have q3 := (cells_of X3.out).1 3
    have q4 := (cells_of X3.out).1 4
    have qf := (cells_of X3.out).2
    simp at q0 q1 q2 q3 q4
    have X4 : Hid ((w3.setCell ⟨w.heap.size, 4, none⟩ (.int .i64 Te)).heap[w.heap.size]? = some (.cells #[.slice ux code.length kx, .int .i64 1, .int .i64 a, .int .i64 t0, .int .i64 Te] 40 (0, 0))) := by
      have := heap_setCell_same w3 w.heap.size 4 _ _ (.int .i64 Te) X3.out
      show _ = _
      simpa using this
    have R4 := hideP ((Below.heap_setCell w3 ⟨w.heap.size, 4, none⟩ (.int .i64 Te) (w.heap.size + 1) (by show _ ≠ w.heap.size; omega)).trans R3.out)
    have B4 := hideP (B3.out.setCell (p := ⟨w.heap.size, 4, none⟩) (Nat.le_refl _) (.int .i64 Te))
    have C3 := hideP (C2.out _ B4.out)
    have x3 := (cells_of X4.out).1 3
    simp at x3
    clear b3 C1 C2 X3 R3 B3 p0 p1 p2 p3 p4 BW
    go_wp2_with fail
    refine C3.out.mono ?_
    rintro e1 w5 ⟨rfl, b5⟩
    have X5 := hideP ((b5.block _ (lt_of_some X4.out)).trans X4.out)
    have R5 := hideP ((b5.block _ (lt_of_some R4.out)).trans R4.out)
    have B5 := hideP (below_trans B4.out b5)
    clear q0 q1 q2 q3 q4 qf x3 b5 C3 X4 R4 B4 HX HRS
    have q0 := (cells_of X5.out).1 0
    have q1 := (cells_of X5.out).1 1
    have q2 := (cells_of X5.out).1 2
    have q3 := (cells_of X5.out).1 3
    have q4 := (cells_of X5.out).1 4
    have qf := (cells_of X5.out).2
    simp at q0 q1 q2 q3 q4
    have X6 : Hid ((w5.setCell ⟨w.heap.size, 3, none⟩ (.int .i64 Tt)).heap[w.heap.size]? = some (.cells #[.slice ux code.length kx, .int .i64 1, .int .i64 a, .int .i64 Tt, .int .i64 Te] 40 (0, 0))) := by
      have := heap_setCell_same w5 w.heap.size 3 _ _ (.int .i64 Tt) X5.out
      show _ = _
      simpa using this
    have R6 := hideP ((Below.heap_setCell w5 ⟨w.heap.size, 3, none⟩ (.int .i64 Tt) (w.heap.size + 1) (by show _ ≠ w.heap.size; omega)).trans R5.out)
    have B6 := hideP (B5.out.setCell (p := ⟨w.heap.size, 3, none⟩) (Nat.le_refl _) (.int .i64 Tt))
    clear X5 R5 B5
    have BX := boxB (.slice ux code.length kx) (.int .i64 1) (.int .i64 a) (.int .i64 Tt) (.int .i64 Te) R6.out
    have ZF := hideP BX.1
    have BU := hideP BX.2
    have HBL := hideP (B6.out)
    clear BX
    have x0 := (cells_of X6.out).1 0
    have x1 := (cells_of X6.out).1 1
    have x2 := (cells_of X6.out).1 2
    have x3 := (cells_of X6.out).1 3
    have x4 := (cells_of X6.out).1 4
    have xf := (cells_of X6.out).2
    simp at x0 x1 x2 x3 x4
    have y0 := (cells_of R6.out).1 0
    have y1 := (cells_of R6.out).1 1
    have y2 := (cells_of R6.out).1 2
    have y3 := (cells_of R6.out).1 3
    have y4 := (cells_of R6.out).1 4
    have yf := (cells_of R6.out).2
    simp at y0 y1 y2 y3 y4
    go_wp2
    refine bodyPost_ret (results_cell_row rfl _ _ (w.heap.size + 1) 40 #[.slice ux code.length kx, .int .i64 1, .int .i64 a, .int .i64 Tt, .int .i64 Te] (0, 0) _ rfl ZF.out Try.underlying40 rfl (by kernel_rfl)) rfl ?_
    exact ⟨rfl, HBL.out.trans (BU.out.below (by omega) HBL.out.size)⟩
  · by_cases h0 : jump = 0
    · subst h0
      rw [tell_0]
      have C1 := hideP (HT.out t0 w2 BW.out (told_to0 code a t0 els))
      obtain ⟨Tt, hTt⟩ : ∃ z, T t0 = z := ⟨_, rfl⟩
      rw [hTt] at C1 ⊢
      clear hTt HT h1
      go_enter Try.func20, Try.ntmps20
      go_wp2_with fail
      refine C1.out.mono ?_
      rintro e1 w3 ⟨rfl, b3⟩
      have X3 := hideP ((b3.block _ (lt_of_some HX.out)).trans HX.out)
      have R3 := hideP ((b3.block _ (lt_of_some HRS.out)).trans HRS.out)
      have B3 := hideP (below_trans BW.out b3)
      have q0 := (cells_of X3.out).1 0
      have q1 := (cells_of X3.out).1 1
      have q2 := (cells_of X3.out).1 2
      have q3 := (cells_of X3.out).1 3
      have q4 := (cells_of X3.out).1 4
      have qf := (cells_of X3.out).2
      simp at q0 q1 q2 q3 q4
      have X4 : Hid ((w3.setCell ⟨w.heap.size, 3, none⟩ (.int .i64 Tt)).heap[w.heap.size]? = some (.cells #[.slice ux code.length kx, .int .i64 0, .int .i64 a, .int .i64 Tt, .int .i64 els] 40 (0, 0))) := by
        have := heap_setCell_same w3 w.heap.size 3 _ _ (.int .i64 Tt) X3.out
        show _ = _
        simpa using this
      have R4 := hideP ((Below.heap_setCell w3 ⟨w.heap.size, 3, none⟩ (.int .i64 Tt) (w.heap.size + 1) (by show _ ≠ w.heap.size; omega)).trans R3.out)
      have B4 := hideP (B3.out.setCell (p := ⟨w.heap.size, 3, none⟩) (Nat.le_refl _) (.int .i64 Tt))
      clear b3 C1 X3 R3 B3 p0 p1 p2 p3 p4 BW HX HRS
      have BX := boxB (.slice ux code.length kx) (.int .i64 0) (.int .i64 a) (.int .i64 Tt) (.int .i64 els) R4.out
      have ZF := hideP BX.1
      have BU := hideP BX.2
      have HBL := hideP (B4.out)
      clear BX
      have x0 := (cells_of X4.out).1 0
      have x1 := (cells_of X4.out).1 1
      have x2 := (cells_of X4.out).1 2
      have x3 := (cells_of X4.out).1 3
      have x4 := (cells_of X4.out).1 4
      have xf := (cells_of X4.out).2
      simp at x0 x1 x2 x3 x4
      have y0 := (cells_of R4.out).1 0
      have y1 := (cells_of R4.out).1 1
      have y2 := (cells_of R4.out).1 2
      have y3 := (cells_of R4.out).1 3
      have y4 := (cells_of R4.out).1 4
      have yf := (cells_of R4.out).2
      simp at y0 y1 y2 y3 y4
      go_wp2
      refine bodyPost_ret (results_cell_row rfl _ _ (w.heap.size + 1) 40 #[.slice ux code.length kx, .int .i64 0, .int .i64 a, .int .i64 Tt, .int .i64 els] (0, 0) _ rfl ZF.out Try.underlying40 rfl (by kernel_rfl)) rfl ?_
      exact ⟨rfl, HBL.out.trans (BU.out.below (by omega) HBL.out.size)⟩
    · rw [tell_2 T code a t0 els h1 h0]
      have h1b : (jump == 1) = false := by simpa using h1
      have h0b : (jump == 0) = false := by simpa using h0
      have hz2 := lt_of_some HRS.out
      clear HT p0 p1 p2 p3 p4
      go_enter Try.func20, Try.ntmps20
      have BX := boxB (.slice ux code.length kx) (.int .i64 jump) (.int .i64 a) (.int .i64 t0) (.int .i64 els) HRS.out
      have ZF := hideP BX.1
      have BU := hideP BX.2
      have HBL := hideP (BW.out)
      clear BX
      have x0 := (cells_of HX.out).1 0
      have x1 := (cells_of HX.out).1 1
      have x2 := (cells_of HX.out).1 2
      have x3 := (cells_of HX.out).1 3
      have x4 := (cells_of HX.out).1 4
      have xf := (cells_of HX.out).2
      simp at x0 x1 x2 x3 x4
      have y0 := (cells_of HRS.out).1 0
      have y1 := (cells_of HRS.out).1 1
      have y2 := (cells_of HRS.out).1 2
      have y3 := (cells_of HRS.out).1 3
      have y4 := (cells_of HRS.out).1 4
      have yf := (cells_of HRS.out).2
      simp at y0 y1 y2 y3 y4
      go_wp2
      refine bodyPost_ret (results_cell_row rfl _ _ (w.heap.size + 1) 40 #[.slice ux code.length kx, .int .i64 jump, .int .i64 a, .int .i64 t0, .int .i64 els] (0, 0) _ rfl ZF.out Try.underlying40 rfl (by kernel_rfl)) rfl ?_
      exact ⟨rfl, HBL.out.trans (BU.out.below (by omega) HBL.out.size)⟩
end Go.Proofs.Ytobpcfelgobedab
