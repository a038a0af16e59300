/- The contract of spec.Threads (written by wip/mkths.py). -/
import Derived.Test.YtobpcfelgobedabThAi
import Derived.Test.YtobpcfelgobedabCpTT
import Derived.Deep.RegionHeld3
namespace Go.Proofs.Ytobpcfelgobedab
open Go.ChangeShapes Go.WideShapes Go.ChangeAt Go.RowKit
theorem tellS_wf {T : Int → Int} {b : Blk} (h : ∀ n, toldOf b n → I64 (T n)) (hw : b.wf) : (tellB T b).wf := by
  unfold tellB
  split
  · rename_i h1
    exact ⟨hw.1, hw.2.1, h _ (Or.inr ⟨Or.inr h1, rfl⟩), h _ (Or.inl ⟨h1, rfl⟩)⟩
  · split
    · rename_i h0
      exact ⟨hw.1, hw.2.1, h _ (Or.inr ⟨Or.inl h0, rfl⟩), hw.2.2.2⟩
    · exact hw
theorem thrU_step' {bs : List Blk} {j : Nat} (h : j < bs.length) {b : Blk} (hb : bs[j] = b) : (thrU bs j).set j (tellB (aimT bs) b) = thrU bs (j + 1) := by rw [← hb]; exact thrU_step h
/-- Between two rounds: the copy, its first blocks told anew, and the boxes (o: the copy's). -/
structure ThAt (w : World) (o : Nat) (bv zv : Array Value) (sa : Option Addr) (kS gq cq : Nat) (y : Gr) (W : World) : Prop where
  cp : ∃ rows, CpAt (w.heap.size + 2) y sa kS gq cq rows W ∧ RDis sa y.sizes.length rows
  bP : W.heap[w.heap.size]? = some (.cells bv 29 (0, 0))
  bR : W.heap[w.heap.size + 1]? = some (.cells zv 29 (0, 0))
  bO : W.heap[o]? = some (.cells #[.slice sa y.sizes.length kS, .int .i64 y.params, .int .i64 y.vars, .int .i64 y.slots, .slice (some ⟨gq, 0, none⟩) y.blocks.length cq] 29 (0, 0))
  low : w.heap.size + 2 ≤ gq ∧ gq < o
  bel : Below w.heap.size w W
section
variable {w W W' : World} {o : Nat} {bv zv : Array Value} {sa : Option Addr} {kS gq cq : Nat} {y : Gr}
theorem ThAt.stays (h : ThAt w o bv zv sa kS gq cq y W) (b : Below W.heap.size W W') : ThAt w o bv zv sa kS gq cq y W' :=
  let ⟨rows, hr, hd⟩ := h.cp
  ⟨⟨rows, hr.stays b, hd⟩, (b.block _ (hltH h.bP)).trans h.bP, (b.block _ (hltH h.bR)).trans h.bR, (b.block _ (hltH h.bO)).trans h.bO, h.low, below_trans h.bel b⟩
/-- How row j lies. -/
theorem ThAt.row (h : ThAt w o bv zv sa kS gq cq y W) {j : Nat} (hj : j < y.blocks.length) : ∃ rows, CpAt (w.heap.size + 2) y sa kS gq cq rows W ∧ RDis sa y.sizes.length rows ∧ ∃ hjr : j < rows.length, rows[j].2.2 = y.blocks[j] ∧ (y.blocks[j]).wf ∧ ∀ r, r < 5 → W.cell? ⟨gq, j * 5 + r, none⟩ = (#[Value.slice rows[j].1 (y.blocks[j]).code.length rows[j].2.1, .int .i64 (y.blocks[j]).jump, .int .i64 (y.blocks[j]).a, .int .i64 (y.blocks[j]).to, .int .i64 (y.blocks[j]).els])[r]? := by
  obtain ⟨rows, cp, rd⟩ := h.cp
  have hjr : j < rows.length := by rw [cp.len]; exact hj
  obtain ⟨c1, c2, _⟩ := cp.code j hjr
  rw [getElem!_pos y.blocks j hj] at c1
  refine ⟨rows, cp, rd, hjr, c1, by rw [← c1]; exact c2, fun r hr => ?_⟩
  have := cp.own.at BlE_ok j hjr r hr
  rw [show BlE.sz = 5 from rfl, Nat.zero_add] at this
  rw [this]
  simp only [BlE, c1]
  simp
theorem ThAt.turn (h : ThAt w o bv zv sa kS gq cq y W) {j : Nat} (hj : j < y.blocks.length) {code : List Ins} {jump a t0 els t e : Int} (hb : y.blocks[j] = ⟨code, jump, a, t0, els⟩) {ux : Option Addr} {kx : Nat} (hq : W.cell? ⟨gq, j * 5, none⟩ = some (.slice ux code.length kx)) (hw : (⟨code, jump, a, t, e⟩ : Blk).wf) :
    ThAt w o bv zv sa kS gq cq { y with blocks := y.blocks.set j ⟨code, jump, a, t, e⟩ } (((((W.setCell ⟨gq, j * 5, none⟩ (.slice ux code.length kx)).setCell ⟨gq, j * 5 + 1, none⟩ (.int .i64 jump)).setCell ⟨gq, j * 5 + 2, none⟩ (.int .i64 a)).setCell ⟨gq, j * 5 + 3, none⟩ (.int .i64 t)).setCell ⟨gq, j * 5 + 4, none⟩ (.int .i64 e)) := by
  obtain ⟨rows, cp, rd, hjr, hrow, _, hcell⟩ := h.row hj
  have h0 := hcell 0 (by omega)
  rw [hb] at h0
  rw [Nat.add_zero, hq] at h0
  have e3 : Value.slice ux code.length kx = Value.slice rows[j].1 code.length rows[j].2.1 := by simpa using h0
  obtain ⟨rfl, _, rfl⟩ := slice_injT e3
  have st := cp.storeT rd hj hjr (code := code) (jump := jump) (a := a) (t0 := t) (els := e) (by rw [hb]) hw
  have hbt : But gq W (((((W.setCell ⟨gq, j * 5, none⟩ (.slice rows[j].1 code.length rows[j].2.1)).setCell ⟨gq, j * 5 + 1, none⟩ (.int .i64 jump)).setCell ⟨gq, j * 5 + 2, none⟩ (.int .i64 a)).setCell ⟨gq, j * 5 + 3, none⟩ (.int .i64 t)).setCell ⟨gq, j * 5 + 4, none⟩ (.int .i64 e)) := (((((But.refl gq W).set _ _).set _ _).set _ _).set _ _).set _ _
  have hlo := h.low
  exact ⟨⟨_, st.1, st.2⟩, (hbt.block _ (hltH h.bP) (by omega)).trans h.bP, (hbt.block _ (hltH h.bR) (by omega)).trans h.bR, by simp only [List.length_set]; exact (hbt.block _ (hltH h.bO) (by omega)).trans h.bO, h.low, h.bel.trans (hbt.below (by omega) h.bel.size)⟩
end
set_option maxRecDepth 100000 in
set_option maxHeartbeats 8000000 in
theorem spec_threads (x : Gr) (w : World) (B : Nat) (v : Array Value) (h : GrIs w B v x) (GO : OkIs 14 x) (hf : Fits x) :
    Calls Try.prog 5 #[.agg v] w fun en w' => ∃ v', en = .returned (.agg v') ∧ GrIs w' w.heap.size v' (thrP x) ∧ Below w.heap.size w w' := by
  have HG0 := hideP h
  obtain ⟨y, hy⟩ : ∃ y, grOk x = y := ⟨_, rfl⟩
  have HY := hideP hy
  have CY : Hid (∀ W, Below w.heap.size w W → Calls Try.prog 14 #[.agg v] W fun en w' => en = .returned (.bool y) ∧ Below W.heap.size W w') := fun W hW => by rw [← hy]; exact GO W B v (GrKeeps.stays h hW)
  have CC : Hid (∀ W, Below w.heap.size w W → Calls Try.prog 13 #[.agg v] W fun en w' => ∃ v', en = .returned (.agg v') ∧ GrIs w' W.heap.size v' x ∧ Below W.heap.size W w' ∧ CpGrD W.heap.size x v' w') := fun W hW => spec_copyD x W B v (GrKeeps.stays h hW) hf
  have CA := hideP (fun (hg : grOk x = true) (k : Nat) (hk : k < x.blocks.length) W (hW : Below w.heap.size w W) => l16Aim_any x k W B v (GrKeeps.stays h hW) hg hk)
  obtain ⟨X, hX⟩ : ∃ X, thrP x = X := ⟨_, rfl⟩
  have HX := hideP hX
  rw [hX]
  have hm := maxLen_lt
  clear hy hX GO
  have hf2 := hf.2.1
  clear hf
  obtain ⟨sizes, p, q, r, blocks⟩ := x
  obtain ⟨us, cs, ub, cb, rfl, _⟩ := h
  simp only at *
  have al := below2 w (.cells #[.slice us sizes.length cs, .int .i64 p, .int .i64 q, .int .i64 r, .slice ub blocks.length cb] 29) (.cells #[.slice none 0 0, .int .i64 0, .int .i64 0, .int .i64 0, .slice none 0 0] 29)
  have AL := hideP al
  have TW := hideP (fun w1 => two (w := w) (w1 := w1) (o1 := .cells #[.slice us sizes.length cs, .int .i64 p, .int .i64 q, .int .i64 r, .slice ub blocks.length cb] 29) (o2 := .cells #[.slice none 0 0, .int .i64 0, .int .i64 0, .int .i64 0, .slice none 0 0] 29))
  have hz2 : ((w.alloc (.cells #[.slice us sizes.length cs, .int .i64 p, .int .i64 q, .int .i64 r, .slice ub blocks.length cb] 29)).alloc (.cells #[.slice none 0 0, .int .i64 0, .int .i64 0, .int .i64 0, .slice none 0 0] 29)).heap.size = w.heap.size + 2 := by simp
  have HZ2 := hideP hz2
  clear al hz2
  go_enter Try.func5, Try.ntmps5
  go_wp2_with fail
  refine (CC.out _ AL.out).mono ?_
  rintro e1 w1 ⟨v1, rfl, gi, bel1, sa, kS, gq, cq, rows, rfl, hcp, hrd⟩
  obtain ⟨P1, RR, L1, hw⟩ := TW.out w1 bel1
  rw [HZ2.out] at hcp
  simp only at hcp hrd ⊢
  have T0 : Hid (ThAt w w1.heap.size #[.slice us sizes.length cs, .int .i64 p, .int .i64 q, .int .i64 r, .slice ub blocks.length cb] #[.slice none 0 0, .int .i64 0, .int .i64 0, .int .i64 0, .slice none 0 0] sa kS gq cq ⟨sizes, p, q, r, thrU blocks 0⟩ (w1.alloc (.cells #[.slice sa sizes.length kS, .int .i64 p, .int .i64 q, .int .i64 r, .slice (some ⟨gq, 0, none⟩) blocks.length cq] 29))) := by
    have al2 := (Below.refl w1.heap.size w1).alloc (Nat.le_refl _) (.cells #[.slice sa sizes.length kS, .int .i64 p, .int .i64 q, .int .i64 r, .slice (some ⟨gq, 0, none⟩) blocks.length cq] 29)
    rw [thrU_zero]
    refine ⟨⟨rows, hcp.stays al2, hrd⟩, (al2.block _ (hltH P1)).trans P1, (al2.block _ (hltH RR)).trans RR, blk_newG w1 _, ?_, below_trans hw al2⟩
    have h1 := hcp.own.low gq rfl
    exact ⟨h1.1, h1.2⟩
  clear bel1 P1 RR hw TW AL CC gi HZ2 L1 hcp hrd rows
  obtain ⟨wo, hwo⟩ : ∃ wo, w1.heap.size = wo := ⟨_, rfl⟩
  go_upto_region 2 with fail
  obtain ⟨Wb, hWb⟩ : ∃ Wb, w1.alloc (.cells #[.slice sa sizes.length kS, .int .i64 p, .int .i64 q, .int .i64 r, .slice (some ⟨gq, 0, none⟩) blocks.length cq] 29) = Wb := ⟨_, rfl⟩
  rw [hWb] at T0 ⊢
  rw [hwo] at T0
  clear hWb hwo
  go_upto_region 3 with fail
  go_loopg [4] blocks.length (fun gk ix wr => ∃ j : Nat, gk + j = blocks.length ∧ ix = .int .i64 j ∧ Hid (ThAt w wo #[.slice us sizes.length cs, .int .i64 p, .int .i64 q, .int .i64 r, .slice ub blocks.length cb] #[.slice none 0 0, .int .i64 0, .int .i64 0, .int .i64 0, .slice none 0 0] sa kS gq cq ⟨sizes, p, q, r, thrU blocks j⟩ wr) ∧ Hid (y = false → j = 0))
  case atStart => exact ⟨0, by omega, rfl, T0.out, fun _ => rfl⟩
  case round =>
    obtain ⟨j, hgk, rfl, hT, h0⟩ := hrel
    clear T0
    have p0 := (cells_of hT.out.bP).1 0
    have p1 := (cells_of hT.out.bP).1 1
    have p2 := (cells_of hT.out.bP).1 2
    have p3 := (cells_of hT.out.bP).1 3
    have p4 := (cells_of hT.out.bP).1 4
    simp at p0 p1 p2 p3 p4
    have FIN : Hid (∀ W, ThAt w wo #[.slice us sizes.length cs, .int .i64 p, .int .i64 q, .int .i64 r, .slice ub blocks.length cb] #[.slice none 0 0, .int .i64 0, .int .i64 0, .int .i64 0, .slice none 0 0] sa kS gq cq ⟨sizes, p, q, r, thrU blocks j⟩ W → (y = true → j = blocks.length) → GrIs W (w.heap.size + 2) #[.slice sa sizes.length kS, .int .i64 p, .int .i64 q, .int .i64 r, .slice (some ⟨gq, 0, none⟩) blocks.length cq] X) := fun W hW hjn => by
      obtain ⟨rows, cp, _⟩ := hW.cp
      have hg := cp.grT (by simp only [thrU_len]; unfold maxLen; omega)
      simp only [thrU_len] at hg
      rw [← HX.out]
      cases y with
      | false => rw [thrP_no HY.out]; rw [h0.out rfl, thrU_zero] at hg; exact hg
      | true => rw [thrP_ok HY.out]; rw [hjn rfl] at hg; exact hg
    by_cases hlt : j < blocks.length
    case neg =>
      have hjn : j = blocks.length := by omega
      have GF := hideP (FIN.out wr hT.out (fun _ => hjn))
      have OB : Hid (wr.heap[wo]? = some (.cells #[.slice sa sizes.length kS, .int .i64 p, .int .i64 q, .int .i64 r, .slice (some ⟨gq, 0, none⟩) blocks.length cq] 29 (0, 0))) := by have := hT.out.bO; simp only [thrU_len] at this; exact this
      have hlo := hT.out.low
      have hbl := hltH OB.out
      clear FIN hgk
      subst hjn
      go_upto_region 11 with fail
      have d0 := (cells_of OB.out).1 0
      have d1 := (cells_of OB.out).1 1
      have d2 := (cells_of OB.out).1 2
      have d3 := (cells_of OB.out).1 3
      have d4 := (cells_of OB.out).1 4
      simp at d0 d1 d2 d3 d4
      have r0 := (cells_of hT.out.bR).1 0
      have r1 := (cells_of hT.out.bR).1 1
      have r2 := (cells_of hT.out.bR).1 2
      have r3 := (cells_of hT.out.bR).1 3
      have r4 := (cells_of hT.out.bR).1 4
      have rf := (cells_of hT.out.bR).2
      simp at r0 r1 r2 r3 r4
      have z0 := heap_setCell_same wr _ 0 _ _ (.slice sa sizes.length kS) hT.out.bR
      have z1 := heap_setCell_same _ _ 1 _ _ (.int .i64 p) z0
      have z2 := heap_setCell_same _ _ 2 _ _ (.int .i64 q) z1
      have z3 := heap_setCell_same _ _ 3 _ _ (.int .i64 r) z2
      have z4 : (((((wr.setCell ⟨w.heap.size + 1, 0, none⟩ (.slice sa sizes.length kS)).setCell ⟨w.heap.size + 1, 1, none⟩ (.int .i64 p)).setCell ⟨w.heap.size + 1, 2, none⟩ (.int .i64 q)).setCell ⟨w.heap.size + 1, 3, none⟩ (.int .i64 r)).setCell ⟨w.heap.size + 1, 4, none⟩ (.slice (some ⟨gq, 0, none⟩) blocks.length cq)).heap[w.heap.size + 1]? = some (.cells #[.slice sa sizes.length kS, .int .i64 p, .int .i64 q, .int .i64 r, .slice (some ⟨gq, 0, none⟩) blocks.length cq] 29 (0, 0)) := heap_setCell_same _ _ 4 _ _ (.slice (some ⟨gq, 0, none⟩) blocks.length cq) z3
      have ZF := hideP z4
      have BU : Hid (But (w.heap.size + 1) wr (((((wr.setCell ⟨w.heap.size + 1, 0, none⟩ (.slice sa sizes.length kS)).setCell ⟨w.heap.size + 1, 1, none⟩ (.int .i64 p)).setCell ⟨w.heap.size + 1, 2, none⟩ (.int .i64 q)).setCell ⟨w.heap.size + 1, 3, none⟩ (.int .i64 r)).setCell ⟨w.heap.size + 1, 4, none⟩ (.slice (some ⟨gq, 0, none⟩) blocks.length cq))) := (((((But.refl (w.heap.size + 1) wr).set 0 (.slice sa sizes.length kS)).set 1 (.int .i64 p)).set 2 (.int .i64 q)).set 3 (.int .i64 r)).set 4 (.slice (some ⟨gq, 0, none⟩) blocks.length cq)
      clear z0 z1 z2 z3 z4
      go_wp2
      refine bodyPost_ret (results_cell_row rfl _ _ (w.heap.size + 1) 29 #[.slice sa sizes.length kS, .int .i64 p, .int .i64 q, .int .i64 r, .slice (some ⟨gq, 0, none⟩) blocks.length cq] (0, 0) _ rfl ZF.out Try.underlying29 rfl (by kernel_rfl)) rfl ?_
      exact ⟨_, rfl, GrKeeps.mono (GrKeeps.but GF.out (by omega) BU.out) (by omega), hT.out.bel.trans (BU.out.below (by omega) (by have := hT.out.bel.size; omega))⟩
    case pos =>
      go_wp2_with fail
      refine (CY.out _ hT.out.bel).mono ?_
      rintro e5 w5 ⟨rfl, b5⟩
      have T5 := hideP (hT.out.stays b5)
      clear b5 hT p0 p1 p2 p3 p4
      cases y with
      | false =>
        have GF := hideP (FIN.out w5 T5.out (fun h => by cases h))
        have OB : Hid (w5.heap[wo]? = some (.cells #[.slice sa sizes.length kS, .int .i64 p, .int .i64 q, .int .i64 r, .slice (some ⟨gq, 0, none⟩) blocks.length cq] 29 (0, 0))) := by have := T5.out.bO; simp only [thrU_len] at this; exact this
        have hlo := T5.out.low
        have hbl := hltH OB.out
        clear FIN hgk
        go_upto_region 11 with fail
        have d0 := (cells_of OB.out).1 0
        have d1 := (cells_of OB.out).1 1
        have d2 := (cells_of OB.out).1 2
        have d3 := (cells_of OB.out).1 3
        have d4 := (cells_of OB.out).1 4
        simp at d0 d1 d2 d3 d4
        have r0 := (cells_of T5.out.bR).1 0
        have r1 := (cells_of T5.out.bR).1 1
        have r2 := (cells_of T5.out.bR).1 2
        have r3 := (cells_of T5.out.bR).1 3
        have r4 := (cells_of T5.out.bR).1 4
        have rf := (cells_of T5.out.bR).2
        simp at r0 r1 r2 r3 r4
        have z0 := heap_setCell_same w5 _ 0 _ _ (.slice sa sizes.length kS) T5.out.bR
        have z1 := heap_setCell_same _ _ 1 _ _ (.int .i64 p) z0
        have z2 := heap_setCell_same _ _ 2 _ _ (.int .i64 q) z1
        have z3 := heap_setCell_same _ _ 3 _ _ (.int .i64 r) z2
        have z4 : (((((w5.setCell ⟨w.heap.size + 1, 0, none⟩ (.slice sa sizes.length kS)).setCell ⟨w.heap.size + 1, 1, none⟩ (.int .i64 p)).setCell ⟨w.heap.size + 1, 2, none⟩ (.int .i64 q)).setCell ⟨w.heap.size + 1, 3, none⟩ (.int .i64 r)).setCell ⟨w.heap.size + 1, 4, none⟩ (.slice (some ⟨gq, 0, none⟩) blocks.length cq)).heap[w.heap.size + 1]? = some (.cells #[.slice sa sizes.length kS, .int .i64 p, .int .i64 q, .int .i64 r, .slice (some ⟨gq, 0, none⟩) blocks.length cq] 29 (0, 0)) := heap_setCell_same _ _ 4 _ _ (.slice (some ⟨gq, 0, none⟩) blocks.length cq) z3
        have ZF := hideP z4
        have BU : Hid (But (w.heap.size + 1) w5 (((((w5.setCell ⟨w.heap.size + 1, 0, none⟩ (.slice sa sizes.length kS)).setCell ⟨w.heap.size + 1, 1, none⟩ (.int .i64 p)).setCell ⟨w.heap.size + 1, 2, none⟩ (.int .i64 q)).setCell ⟨w.heap.size + 1, 3, none⟩ (.int .i64 r)).setCell ⟨w.heap.size + 1, 4, none⟩ (.slice (some ⟨gq, 0, none⟩) blocks.length cq))) := (((((But.refl (w.heap.size + 1) w5).set 0 (.slice sa sizes.length kS)).set 1 (.int .i64 p)).set 2 (.int .i64 q)).set 3 (.int .i64 r)).set 4 (.slice (some ⟨gq, 0, none⟩) blocks.length cq)
        clear z0 z1 z2 z3 z4
        go_wp2
        refine bodyPost_ret (results_cell_row rfl _ _ (w.heap.size + 1) 29 #[.slice sa sizes.length kS, .int .i64 p, .int .i64 q, .int .i64 r, .slice (some ⟨gq, 0, none⟩) blocks.length cq] (0, 0) _ rfl ZF.out Try.underlying29 rfl (by kernel_rfl)) rfl ?_
        exact ⟨_, rfl, GrKeeps.mono (GrKeeps.but GF.out (by omega) BU.out) (by omega), T5.out.bel.trans (BU.out.below (by omega) (by have := T5.out.bel.size; omega))⟩
      | true =>
        have hok : Hid (grOk ⟨sizes, p, q, r, blocks⟩ = true) := HY.out
        have hjU : j < (thrU blocks j).length := by rw [thrU_len]; exact hlt
        obtain ⟨rows, cp, rd, hjr, hrow, hwf, hcell⟩ := T5.out.row hjU
        simp only at hrow hwf hcell
        have hJB : (thrU blocks j)[j] = blocks[j] := by rw [thrU_at hlt, if_neg (by omega)]
        rw [hJB] at hrow hwf hcell
        obtain ⟨b, hb⟩ : ∃ b, blocks[j] = b := ⟨_, rfl⟩
        have hj0 := jump_to hok.out (List.getElem_mem (l := blocks) hlt)
        have hj1 := jump_els hok.out (List.getElem_mem (l := blocks) hlt)
        have hj3 := jump_three hok.out (List.getElem_mem (l := blocks) hlt)
        rw [hb] at hrow hwf hcell hj0 hj1 hj3
        have HJB := hideP hb
        obtain ⟨code, jump, a, t0, els⟩ := b
        simp only at hcell hj0 hj1 hj3
        obtain ⟨ux, hux⟩ : ∃ ux, rows[j].1 = ux := ⟨_, rfl⟩
        obtain ⟨kx, hkx⟩ : ∃ kx, rows[j].2.1 = kx := ⟨_, rfl⟩
        rw [hux, hkx] at hcell
        have q0 := hcell 0 (by omega)
        have q1 := hcell 1 (by omega)
        have q2 := hcell 2 (by omega)
        have q3 := hcell 3 (by omega)
        have q4 := hcell 4 (by omega)
        simp at q0 q1 q2 q3 q4
        have HJ2 := hideP hJB
        have TI : Hid (∀ n, toldOf ⟨code, jump, a, t0, els⟩ n → I64 (aimT blocks n)) := fun n hn => by
          have h1 : InR blocks.length n := by
            rcases hn with ⟨h1, rfl⟩ | ⟨h1, rfl⟩
            · exact hj1 h1
            · exact hj0 h1
          have h2 : InR blocks.length (aimT blocks n) := aimF_in (fun b hb hj0 => jump_to hok.out hb (Or.inl hj0)) _ _ _ h1
          have h3 := h2.1
          have h4 := h2.2
          have h5 := (grOk_blocks hok.out).2
          simp only at h5
          unfold I64
          omega
        have TWF := hideP (tellS_wf TI.out hwf)
        have hgq5 : gq < w5.heap.size := by
          obtain ⟨g', cap', cur, hv, _, hh, _⟩ := cp.own.parts BlE_ok
          injection hv with e1
          injection e1 with e1
          injection e1 with e1
          subst e1
          exact hltH hh
        have OB : w5.heap[wo]? = some (.cells #[.slice sa sizes.length kS, .int .i64 p, .int .i64 q, .int .i64 r, .slice (some ⟨gq, 0, none⟩) blocks.length cq] 29 (0, 0)) := by have := T5.out.bO; simp only [thrU_len] at this; exact this
        have o4 := (cells_of OB).1 4
        simp at o4
        have i0 : (0 : Int) ≤ (j : Int) := by omega
        have i1 : (j : Int) < (blocks.length : Int) := by omega
        obtain ⟨xb, hxb⟩ : ∃ xb, w5.heap.size = xb := ⟨_, rfl⟩
        have hxb5 : w5.heap.size ≤ xb := by omega
        obtain ⟨w6, hw6⟩ : ∃ w6, w5.alloc (.cells #[.slice ux code.length kx, .int .i64 jump, .int .i64 a, .int .i64 t0, .int .i64 els] 40) = w6 := ⟨_, rfl⟩
        have X6 : Hid (w6.heap[xb]? = some (.cells #[.slice ux code.length kx, .int .i64 jump, .int .i64 a, .int .i64 t0, .int .i64 els] 40 (0, 0))) := by show _ = _; rw [← hw6, ← hxb]; exact blk_newG w5 _
        have BB6 : Hid (Below w5.heap.size w5 w6) := by show Below _ _ _; rw [← hw6]; exact (Below.refl _ _).alloc (Nat.le_refl _) _
        have HX5 := hideP hxb5
        clear FIN hb cp rd hrow hwf hcell hJB hux hkx TI OB hxb5
        go_upto_region 6 with fail
        try rw [hw6]
        have hxb5 := HX5.out
        clear hw6 hxb o4
        have x0 := (cells_of X6.out).1 0
        have x1 := (cells_of X6.out).1 1
        have x2 := (cells_of X6.out).1 2
        have x3 := (cells_of X6.out).1 3
        have x4 := (cells_of X6.out).1 4
        simp at x0 x1 x2 x3 x4
        rcases hj3 with hj | hj | hj
        · subst hj
          have ht := hj0 (Or.inl rfl)
          obtain ⟨zt, rfl⟩ : ∃ zt : Nat, t0 = (zt : Int) := ⟨t0.toNat, by have := ht.1; omega⟩
          have C1 := hideP (CA.out hok.out zt (by have := ht.2; omega))
          obtain ⟨Tt, hTt⟩ : ∃ z, aimT blocks (zt : Int) = z := ⟨_, rfl⟩
          rw [hTt] at C1
          clear hj0 hj1 ht
          have P7 := hideP (T5.out.stays BB6.out)
          have p0 := (cells_of P7.out.bP).1 0
          have p1 := (cells_of P7.out.bP).1 1
          have p2 := (cells_of P7.out.bP).1 2
          have p3 := (cells_of P7.out.bP).1 3
          have p4 := (cells_of P7.out.bP).1 4
          simp at p0 p1 p2 p3 p4
          go_wp2_with fail
          refine (C1.out _ P7.out.bel).mono ?_
          rintro e7 w7 ⟨rfl, b7⟩
          have Y7 := hideP ((b7.block _ (hltH X6.out)).trans X6.out)
          have BB7 := hideP (below_trans BB6.out b7)
          clear b7 p0 p1 p2 p3 p4 x0 x1 x2 x3 x4
          have yc := (cells_of Y7.out).1 3
          have yf := (cells_of Y7.out).2 3
          simp at yc
          have X7s : Hid ((w7.setCell ⟨xb, 3, none⟩ (.int .i64 Tt)).heap[xb]? = some (.cells #[.slice ux code.length kx, .int .i64 0, .int .i64 a, .int .i64 Tt, .int .i64 els] 40 (0, 0))) := by
            have := heap_setCell_same w7 xb 3 _ _ (.int .i64 Tt) Y7.out
            show _ = _
            simpa using this
          have BB7s := hideP (BB7.out.setCell (p := ⟨xb, 3, none⟩) hxb5 (.int .i64 Tt))
          have x0 := (cells_of X7s.out).1 0
          have x1 := (cells_of X7s.out).1 1
          have x2 := (cells_of X7s.out).1 2
          have x3 := (cells_of X7s.out).1 3
          have x4 := (cells_of X7s.out).1 4
          simp at x0 x1 x2 x3 x4
          clear X6 P7
          have RE : Hid ((⟨code, 0, a, Tt, els⟩ : Blk) = tellB (aimT blocks) ⟨code, 0, a, (zt : Int), els⟩) := by show _ = _; rw [tell_0]; rw [hTt]
          go_upto_region 10 with fail
          obtain ⟨W, hW⟩ : ∃ W, w7.setCell ⟨xb, 3, none⟩ (.int .i64 Tt) = W := ⟨_, rfl⟩
          rw [hW] at X7s BB7s x0 x1 x2 x3 x4 ⊢
          have TW := hideP (T5.out.stays BB7s.out)
          clear hW
          have c0 := (BB7s.out.cell (p := ⟨gq, j * 5, none⟩) hgq5).trans q0
          have c1 := (BB7s.out.cell (p := ⟨gq, j * 5 + 1, none⟩) hgq5).trans q1
          have c2 := (BB7s.out.cell (p := ⟨gq, j * 5 + 2, none⟩) hgq5).trans q2
          have c3 := (BB7s.out.cell (p := ⟨gq, j * 5 + 3, none⟩) hgq5).trans q3
          have c4 := (BB7s.out.cell (p := ⟨gq, j * 5 + 4, none⟩) hgq5).trans q4
          obtain ⟨cu, CT, hcu⟩ : ∃ cu CT, W.heap[gq]? = some (.cells cu CT (0, 0)) := by
            obtain ⟨rows', cp', _⟩ := TW.out.cp
            obtain ⟨g', cap', cur, hv, _, hh, _⟩ := cp'.own.parts BlE_ok
            injection hv with e1
            injection e1 with e1
            injection e1 with e1
            subst e1
            exact ⟨cur, _, hh⟩
          have fz := (cells_of hcu).2
          have HC5 := hideP hcu
          have d4 := (cells_of TW.out.bO).1 4
          simp [thrU_len] at d4
          have NEW : Hid (ThAt w wo #[.slice us sizes.length cs, .int .i64 p, .int .i64 q, .int .i64 r, .slice ub blocks.length cb] #[.slice none 0 0, .int .i64 0, .int .i64 0, .int .i64 0, .slice none 0 0] sa kS gq cq ⟨sizes, p, q, r, thrU blocks (j + 1)⟩ (((((W.setCell ⟨gq, j * 5, none⟩ (.slice ux code.length kx)).setCell ⟨gq, j * 5 + 1, none⟩ (.int .i64 0)).setCell ⟨gq, j * 5 + 2, none⟩ (.int .i64 a)).setCell ⟨gq, j * 5 + 3, none⟩ (.int .i64 Tt)).setCell ⟨gq, j * 5 + 4, none⟩ (.int .i64 els))) := by
            have hwf2 : (⟨code, 0, a, Tt, els⟩ : Blk).wf := by rw [RE.out]; exact TWF.out
            have := TW.out.turn (j := j) hjU (HJ2.out.trans HJB.out) c0 hwf2
            rw [RE.out, thrU_step' hlt HJB.out] at this
            exact this
          clear hcu TW X7s BB7s q0 q1 q2 q3 q4
          go_wp2
          go_roundg (blocks.length - (j + 1))
          case rel => exact ⟨j + 1, by omega, by go_num, NEW.out, fun h => by cases h⟩
          case measure => omega
        · subst hj
          have ht := hj0 (Or.inr rfl)
          have he := hj1 rfl
          obtain ⟨zt, rfl⟩ : ∃ zt : Nat, t0 = (zt : Int) := ⟨t0.toNat, by have := ht.1; omega⟩
          obtain ⟨ze, rfl⟩ : ∃ ze : Nat, els = (ze : Int) := ⟨els.toNat, by have := he.1; omega⟩
          have C1 := hideP (CA.out hok.out zt (by have := ht.2; omega))
          have C2 := hideP (CA.out hok.out ze (by have := he.2; omega))
          obtain ⟨Tt, hTt⟩ : ∃ z, aimT blocks (zt : Int) = z := ⟨_, rfl⟩
          obtain ⟨Te, hTe⟩ : ∃ z, aimT blocks (ze : Int) = z := ⟨_, rfl⟩
          rw [hTt] at C1
          rw [hTe] at C2
          clear hj0 hj1 ht he
          have P7 := hideP (T5.out.stays BB6.out)
          have p0 := (cells_of P7.out.bP).1 0
          have p1 := (cells_of P7.out.bP).1 1
          have p2 := (cells_of P7.out.bP).1 2
          have p3 := (cells_of P7.out.bP).1 3
          have p4 := (cells_of P7.out.bP).1 4
          simp at p0 p1 p2 p3 p4
          go_wp2_with fail
          refine (C1.out _ P7.out.bel).mono ?_
          rintro e7 w7 ⟨rfl, b7⟩
          have Y7 := hideP ((b7.block _ (hltH X6.out)).trans X6.out)
          have BB7 := hideP (below_trans BB6.out b7)
          clear b7 p0 p1 p2 p3 p4 x0 x1 x2 x3 x4
          have yc := (cells_of Y7.out).1 3
          have yf := (cells_of Y7.out).2 3
          simp at yc
          have X7s : Hid ((w7.setCell ⟨xb, 3, none⟩ (.int .i64 Tt)).heap[xb]? = some (.cells #[.slice ux code.length kx, .int .i64 1, .int .i64 a, .int .i64 Tt, .int .i64 (ze : Int)] 40 (0, 0))) := by
            have := heap_setCell_same w7 xb 3 _ _ (.int .i64 Tt) Y7.out
            show _ = _
            simpa using this
          have BB7s := hideP (BB7.out.setCell (p := ⟨xb, 3, none⟩) hxb5 (.int .i64 Tt))
          have x0 := (cells_of X7s.out).1 0
          have x1 := (cells_of X7s.out).1 1
          have x2 := (cells_of X7s.out).1 2
          have x3 := (cells_of X7s.out).1 3
          have x4 := (cells_of X7s.out).1 4
          simp at x0 x1 x2 x3 x4
          clear X6 P7
          have P8 := hideP (T5.out.stays BB7s.out)
          have p0 := (cells_of P8.out.bP).1 0
          have p1 := (cells_of P8.out.bP).1 1
          have p2 := (cells_of P8.out.bP).1 2
          have p3 := (cells_of P8.out.bP).1 3
          have p4 := (cells_of P8.out.bP).1 4
          simp at p0 p1 p2 p3 p4
          go_wp2_with fail
          refine (C2.out _ P8.out.bel).mono ?_
          rintro e8 w8 ⟨rfl, b8⟩
          have Y8 := hideP ((b8.block _ (hltH X7s.out)).trans X7s.out)
          have BB8 := hideP (below_trans BB7s.out b8)
          clear b8 p0 p1 p2 p3 p4 x0 x1 x2 x3 x4
          have yc := (cells_of Y8.out).1 4
          have yf := (cells_of Y8.out).2 4
          simp at yc
          have X8s : Hid ((w8.setCell ⟨xb, 4, none⟩ (.int .i64 Te)).heap[xb]? = some (.cells #[.slice ux code.length kx, .int .i64 1, .int .i64 a, .int .i64 Tt, .int .i64 Te] 40 (0, 0))) := by
            have := heap_setCell_same w8 xb 4 _ _ (.int .i64 Te) Y8.out
            show _ = _
            simpa using this
          have BB8s := hideP (BB8.out.setCell (p := ⟨xb, 4, none⟩) hxb5 (.int .i64 Te))
          have x0 := (cells_of X8s.out).1 0
          have x1 := (cells_of X8s.out).1 1
          have x2 := (cells_of X8s.out).1 2
          have x3 := (cells_of X8s.out).1 3
          have x4 := (cells_of X8s.out).1 4
          simp at x0 x1 x2 x3 x4
          clear X7s P8
          have RE : Hid ((⟨code, 1, a, Tt, Te⟩ : Blk) = tellB (aimT blocks) ⟨code, 1, a, (zt : Int), (ze : Int)⟩) := by show _ = _; rw [tell_1]; rw [hTt, hTe]
          go_upto_region 10 with fail
          obtain ⟨W, hW⟩ : ∃ W, w8.setCell ⟨xb, 4, none⟩ (.int .i64 Te) = W := ⟨_, rfl⟩
          rw [hW] at X8s BB8s x0 x1 x2 x3 x4 ⊢
          have TW := hideP (T5.out.stays BB8s.out)
          clear hW
          have c0 := (BB8s.out.cell (p := ⟨gq, j * 5, none⟩) hgq5).trans q0
          have c1 := (BB8s.out.cell (p := ⟨gq, j * 5 + 1, none⟩) hgq5).trans q1
          have c2 := (BB8s.out.cell (p := ⟨gq, j * 5 + 2, none⟩) hgq5).trans q2
          have c3 := (BB8s.out.cell (p := ⟨gq, j * 5 + 3, none⟩) hgq5).trans q3
          have c4 := (BB8s.out.cell (p := ⟨gq, j * 5 + 4, none⟩) hgq5).trans q4
          obtain ⟨cu, CT, hcu⟩ : ∃ cu CT, W.heap[gq]? = some (.cells cu CT (0, 0)) := by
            obtain ⟨rows', cp', _⟩ := TW.out.cp
            obtain ⟨g', cap', cur, hv, _, hh, _⟩ := cp'.own.parts BlE_ok
            injection hv with e1
            injection e1 with e1
            injection e1 with e1
            subst e1
            exact ⟨cur, _, hh⟩
          have fz := (cells_of hcu).2
          have HC5 := hideP hcu
          have d4 := (cells_of TW.out.bO).1 4
          simp [thrU_len] at d4
          have NEW : Hid (ThAt w wo #[.slice us sizes.length cs, .int .i64 p, .int .i64 q, .int .i64 r, .slice ub blocks.length cb] #[.slice none 0 0, .int .i64 0, .int .i64 0, .int .i64 0, .slice none 0 0] sa kS gq cq ⟨sizes, p, q, r, thrU blocks (j + 1)⟩ (((((W.setCell ⟨gq, j * 5, none⟩ (.slice ux code.length kx)).setCell ⟨gq, j * 5 + 1, none⟩ (.int .i64 1)).setCell ⟨gq, j * 5 + 2, none⟩ (.int .i64 a)).setCell ⟨gq, j * 5 + 3, none⟩ (.int .i64 Tt)).setCell ⟨gq, j * 5 + 4, none⟩ (.int .i64 Te))) := by
            have hwf2 : (⟨code, 1, a, Tt, Te⟩ : Blk).wf := by rw [RE.out]; exact TWF.out
            have := TW.out.turn (j := j) hjU (HJ2.out.trans HJB.out) c0 hwf2
            rw [RE.out, thrU_step' hlt HJB.out] at this
            exact this
          clear hcu TW X8s BB8s q0 q1 q2 q3 q4
          go_wp2
          go_roundg (blocks.length - (j + 1))
          case rel => exact ⟨j + 1, by omega, by go_num, NEW.out, fun h => by cases h⟩
          case measure => omega
        · subst hj
          clear hj0 hj1
          have RE : Hid ((⟨code, 2, a, t0, els⟩ : Blk) = tellB (aimT blocks) ⟨code, 2, a, t0, els⟩) := by show _ = _; rw [tell_2 _ _ _ _ _ (by decide) (by decide)]
          go_upto_region 10 with fail
          obtain ⟨W, hW⟩ : ∃ W, w6 = W := ⟨_, rfl⟩
          rw [hW] at X6 BB6 x0 x1 x2 x3 x4 ⊢
          have TW := hideP (T5.out.stays BB6.out)
          clear hW
          have c0 := (BB6.out.cell (p := ⟨gq, j * 5, none⟩) hgq5).trans q0
          have c1 := (BB6.out.cell (p := ⟨gq, j * 5 + 1, none⟩) hgq5).trans q1
          have c2 := (BB6.out.cell (p := ⟨gq, j * 5 + 2, none⟩) hgq5).trans q2
          have c3 := (BB6.out.cell (p := ⟨gq, j * 5 + 3, none⟩) hgq5).trans q3
          have c4 := (BB6.out.cell (p := ⟨gq, j * 5 + 4, none⟩) hgq5).trans q4
          obtain ⟨cu, CT, hcu⟩ : ∃ cu CT, W.heap[gq]? = some (.cells cu CT (0, 0)) := by
            obtain ⟨rows', cp', _⟩ := TW.out.cp
            obtain ⟨g', cap', cur, hv, _, hh, _⟩ := cp'.own.parts BlE_ok
            injection hv with e1
            injection e1 with e1
            injection e1 with e1
            subst e1
            exact ⟨cur, _, hh⟩
          have fz := (cells_of hcu).2
          have HC5 := hideP hcu
          have d4 := (cells_of TW.out.bO).1 4
          simp [thrU_len] at d4
          have NEW : Hid (ThAt w wo #[.slice us sizes.length cs, .int .i64 p, .int .i64 q, .int .i64 r, .slice ub blocks.length cb] #[.slice none 0 0, .int .i64 0, .int .i64 0, .int .i64 0, .slice none 0 0] sa kS gq cq ⟨sizes, p, q, r, thrU blocks (j + 1)⟩ (((((W.setCell ⟨gq, j * 5, none⟩ (.slice ux code.length kx)).setCell ⟨gq, j * 5 + 1, none⟩ (.int .i64 2)).setCell ⟨gq, j * 5 + 2, none⟩ (.int .i64 a)).setCell ⟨gq, j * 5 + 3, none⟩ (.int .i64 t0)).setCell ⟨gq, j * 5 + 4, none⟩ (.int .i64 els))) := by
            have hwf2 : (⟨code, 2, a, t0, els⟩ : Blk).wf := by rw [RE.out]; exact TWF.out
            have := TW.out.turn (j := j) hjU (HJ2.out.trans HJB.out) c0 hwf2
            rw [RE.out, thrU_step' hlt HJB.out] at this
            exact this
          clear hcu TW X6 BB6 q0 q1 q2 q3 q4
          go_wp2
          go_roundg (blocks.length - (j + 1))
          case rel => exact ⟨j + 1, by omega, by go_num, NEW.out, fun h => by cases h⟩
          case measure => omega
end Go.Proofs.Ytobpcfelgobedab
