/- Reorder: plain; the contract of impl.Reorder (written by wip/mkreo.py). -/
import Derived.Test.YtobpcfelgobedaaRWithB
import Derived.Test.YtobpcfelgobedaaROrdI
import Derived.Test.YtobpcfelgobedaaRPlR
namespace Go.Proofs.YtobpcfelgobedaaR
open Go.ChangeShapes Go.WideShapes Go.ChangeAt Go.RowKit
set_option maxRecDepth 100000 in
set_option maxHeartbeats 4000000 in
theorem impl_reorder (x : Gr) (L : List Int) (w : World) (B B2 : Nat) (v : Array Value) (ul : Option Addr) (kl : Nat) (h : GrIs w B v x) (hL : IntsIs w B2 ul L) (hI : ∀ z ∈ L, I64 z) (GO : OkIs 29 x) (hf : Fits x) :
    Calls Try.prog 15 #[.agg v, .slice ul L.length kl] w fun en w' => MadeGr w (reoP x L) en w' := by
  have HG0 := hideP h
  have HF := hideP hf
  have HL := hideP hL
  obtain ⟨y, hy⟩ : ∃ y, ordP x L = y := ⟨_, rfl⟩
  have HY := hideP hy
  have CY : Hid (∀ W, Below w.heap.size w W → Calls Try.prog 11 #[.agg v, .slice ul L.length kl] W fun en w' => en = .returned (.bool y) ∧ Below W.heap.size W w') := fun W hW => by rw [← hy]; exact impl_orderOk x L W B B2 v ul kl (GrKeeps.stays h hW) (hL.stays hW) hI GO
  obtain ⟨X, hX⟩ : ∃ X, reoP x L = X := ⟨_, rfl⟩
  have HX := hideP hX
  rw [hX]
  clear hy hX GO hf hI hL
  obtain ⟨sizes, p, q, r, blocks⟩ := x
  obtain ⟨us, cs, ub, cb, rfl, _⟩ := h
  simp only at *
  have al := below2 w (.cells #[.slice us sizes.length cs, .int .i64 p, .int .i64 q, .int .i64 r, .slice ub blocks.length cb] 30) (.cells #[.slice none 0 0, .int .i64 0, .int .i64 0, .int .i64 0, .slice none 0 0] 30)
  have AL := hideP al
  have TW := hideP (fun w1 => two (w := w) (w1 := w1) (o1 := .cells #[.slice us sizes.length cs, .int .i64 p, .int .i64 q, .int .i64 r, .slice ub blocks.length cb] 30) (o2 := .cells #[.slice none 0 0, .int .i64 0, .int .i64 0, .int .i64 0, .slice none 0 0] 30))
  clear al
  go_enter Try.func15, Try.ntmps15
  go_wp2_with fail
  refine (CY.out _ AL.out).mono ?_
  rintro e1 w1 ⟨rfl, bel1⟩
  obtain ⟨P1, RR, L1, hw⟩ := TW.out w1 bel1
  have HW := hideP hw
  have RS := hideP RR
  have PX := hideP P1
  have c0 := (cells_of P1).1 0
  have c1 := (cells_of P1).1 1
  have c2 := (cells_of P1).1 2
  have c3 := (cells_of P1).1 3
  have c4 := (cells_of P1).1 4
  simp at c0 c1 c2 c3 c4
  clear bel1 P1 RR hw TW AL CY
  cases y with
  | false =>
    have E : Hid (X = ⟨sizes, p, q, r, blocks⟩) := by show _ = _; rw [← HX.out]; exact reoP_no HY.out
    go_wp2_with fail
    refine (graphCopy_any _ _ B _ (GrKeeps.stays HG0.out HW.out) HF.out).mono ?_
    rintro e3 w3 ⟨v3, S, g3, cs3, rfl, gi, ow, lo, n1, n2, n3, bel⟩
    obtain ⟨us3, ks3, ub3, kb3, rfl, _⟩ := id gi
    simp only at gi ow n1 n2 n3 ⊢
    have z := (bel.block _ (hltH RS.out)).trans RS.out
    have r0 := (cells_of z).1 0
    have r1 := (cells_of z).1 1
    have r2 := (cells_of z).1 2
    have r3 := (cells_of z).1 3
    have r4 := (cells_of z).1 4
    have rf := (cells_of z).2
    simp at r0 r1 r2 r3 r4
    have z0 := heap_setCell_same w3 _ 0 _ _ (.slice us3 sizes.length ks3) z
    have z1 := heap_setCell_same _ _ 1 _ _ (.int .i64 p) z0
    have z2 := heap_setCell_same _ _ 2 _ _ (.int .i64 q) z1
    have z3 := heap_setCell_same _ _ 3 _ _ (.int .i64 r) z2
    have z4 : (((((w3.setCell ⟨w.heap.size + 1, 0, none⟩ (.slice us3 sizes.length ks3)).setCell ⟨w.heap.size + 1, 1, none⟩ (.int .i64 p)).setCell ⟨w.heap.size + 1, 2, none⟩ (.int .i64 q)).setCell ⟨w.heap.size + 1, 3, none⟩ (.int .i64 r)).setCell ⟨w.heap.size + 1, 4, none⟩ (.slice ub3 blocks.length kb3)).heap[w.heap.size + 1]? = some (.cells #[.slice us3 sizes.length ks3, .int .i64 p, .int .i64 q, .int .i64 r, .slice ub3 blocks.length kb3] 30 (0, 0)) := heap_setCell_same _ _ 4 _ _ (.slice ub3 blocks.length kb3) z3
    have ZF := hideP z4
    have BU : Hid (But (w.heap.size + 1) w3 (((((w3.setCell ⟨w.heap.size + 1, 0, none⟩ (.slice us3 sizes.length ks3)).setCell ⟨w.heap.size + 1, 1, none⟩ (.int .i64 p)).setCell ⟨w.heap.size + 1, 2, none⟩ (.int .i64 q)).setCell ⟨w.heap.size + 1, 3, none⟩ (.int .i64 r)).setCell ⟨w.heap.size + 1, 4, none⟩ (.slice ub3 blocks.length kb3))) := (((((But.refl (w.heap.size + 1) w3).set 0 (.slice us3 sizes.length ks3)).set 1 (.int .i64 p)).set 2 (.int .i64 q)).set 3 (.int .i64 r)).set 4 (.slice ub3 blocks.length kb3)
    have HG := hideP gi
    have HO := hideP ow
    have LO := hideP lo
    have NN := hideP (And.intro n1 (And.intro n2 n3))
    have BB := hideP bel
    clear z z0 z1 z2 z3 z4 gi ow lo n1 n2 n3 bel
    clear c0 c1 c2 c3 c4
    go_wp2
    refine bodyPost_ret (results_cell_row rfl _ _ (w.heap.size + 1) 30 #[.slice us3 sizes.length ks3, .int .i64 p, .int .i64 q, .int .i64 r, .slice ub3 blocks.length kb3] (0, 0) _ rfl ZF.out Try.underlying30 rfl (by kernel_rfl)) rfl ?_
    have hb3 := BB.out.size
    rw [E.out]
    refine ⟨_, S, g3, cs3, rfl, GrKeeps.mono (GrKeeps.but HG.out (by omega) BU.out) (by omega), HO.out.above (B := w1.heap.size) (fun c hc => (LO.out c hc).1) (fun k hk hkl => BU.out.block k hkl (by omega)), fun c hc => ?_, NN.out.1, NN.out.2.1, NN.out.2.2, (below_trans HW.out BB.out).trans (BU.out.below (by omega) (by omega))⟩
    have := LO.out c hc
    have := BU.out.size
    omega
  | true =>
    obtain ⟨R, hR⟩ : ∃ R, rowB blocks L = R := ⟨_, rfl⟩
    have E : Hid (X = ⟨sizes, p, q, r, R⟩) := by show _ = _; rw [← HX.out, ← hR]; exact reoP_ok HY.out
    have CW : Hid (Calls Try.prog 35 #[.agg #[.slice us sizes.length cs, .int .i64 p, .int .i64 q, .int .i64 r, .slice ub blocks.length cb], .slice ul L.length kl] w1 fun en w' => MadeGr w1 ⟨sizes, p, q, r, R⟩ en w') := by
      have ho := ordP_in HY.out
      have hg := ordP_gr HY.out
      have hb := grOk_blocks hg
      have := withBlocks_any _ L w1 B B2 _ ul kl (GrKeeps.stays HG0.out HW.out) (HL.out.stays HW.out) hg (fun y hy => ho.2.2.2 y hy) (by rw [ho.1]; exact hb.2) HF.out
      rw [hR] at this
      exact this
    clear hR
    go_wp2_with fail
    refine CW.out.mono ?_
    rintro e3 w3 ⟨v3, S, g3, cs3, rfl, gi, ow, lo, n1, n2, n3, bel⟩
    obtain ⟨us3, ks3, ub3, kb3, rfl, _⟩ := id gi
    simp only at gi ow n1 n2 n3 ⊢
    have z := (bel.block _ (hltH RS.out)).trans RS.out
    have r0 := (cells_of z).1 0
    have r1 := (cells_of z).1 1
    have r2 := (cells_of z).1 2
    have r3 := (cells_of z).1 3
    have r4 := (cells_of z).1 4
    have rf := (cells_of z).2
    simp at r0 r1 r2 r3 r4
    have z0 := heap_setCell_same w3 _ 0 _ _ (.slice us3 sizes.length ks3) z
    have z1 := heap_setCell_same _ _ 1 _ _ (.int .i64 p) z0
    have z2 := heap_setCell_same _ _ 2 _ _ (.int .i64 q) z1
    have z3 := heap_setCell_same _ _ 3 _ _ (.int .i64 r) z2
    have z4 : (((((w3.setCell ⟨w.heap.size + 1, 0, none⟩ (.slice us3 sizes.length ks3)).setCell ⟨w.heap.size + 1, 1, none⟩ (.int .i64 p)).setCell ⟨w.heap.size + 1, 2, none⟩ (.int .i64 q)).setCell ⟨w.heap.size + 1, 3, none⟩ (.int .i64 r)).setCell ⟨w.heap.size + 1, 4, none⟩ (.slice ub3 R.length kb3)).heap[w.heap.size + 1]? = some (.cells #[.slice us3 sizes.length ks3, .int .i64 p, .int .i64 q, .int .i64 r, .slice ub3 R.length kb3] 30 (0, 0)) := heap_setCell_same _ _ 4 _ _ (.slice ub3 R.length kb3) z3
    have ZF := hideP z4
    have BU : Hid (But (w.heap.size + 1) w3 (((((w3.setCell ⟨w.heap.size + 1, 0, none⟩ (.slice us3 sizes.length ks3)).setCell ⟨w.heap.size + 1, 1, none⟩ (.int .i64 p)).setCell ⟨w.heap.size + 1, 2, none⟩ (.int .i64 q)).setCell ⟨w.heap.size + 1, 3, none⟩ (.int .i64 r)).setCell ⟨w.heap.size + 1, 4, none⟩ (.slice ub3 R.length kb3))) := (((((But.refl (w.heap.size + 1) w3).set 0 (.slice us3 sizes.length ks3)).set 1 (.int .i64 p)).set 2 (.int .i64 q)).set 3 (.int .i64 r)).set 4 (.slice ub3 R.length kb3)
    have HG := hideP gi
    have HO := hideP ow
    have LO := hideP lo
    have NN := hideP (And.intro n1 (And.intro n2 n3))
    have BB := hideP bel
    clear z z0 z1 z2 z3 z4 gi ow lo n1 n2 n3 bel
    clear c0 c1 c2 c3 c4
    go_wp2
    refine bodyPost_ret (results_cell_row rfl _ _ (w.heap.size + 1) 30 #[.slice us3 sizes.length ks3, .int .i64 p, .int .i64 q, .int .i64 r, .slice ub3 R.length kb3] (0, 0) _ rfl ZF.out Try.underlying30 rfl (by kernel_rfl)) rfl ?_
    have hb3 := BB.out.size
    rw [E.out]
    refine ⟨_, S, g3, cs3, rfl, GrKeeps.mono (GrKeeps.but HG.out (by omega) BU.out) (by omega), HO.out.above (B := w1.heap.size) (fun c hc => (LO.out c hc).1) (fun k hk hkl => BU.out.block k hkl (by omega)), fun c hc => ?_, NN.out.1, NN.out.2.1, NN.out.2.2, (below_trans HW.out BB.out).trans (BU.out.below (by omega) (by omega))⟩
    have := LO.out c hc
    have := BU.out.size
    omega
end Go.Proofs.YtobpcfelgobedaaR
