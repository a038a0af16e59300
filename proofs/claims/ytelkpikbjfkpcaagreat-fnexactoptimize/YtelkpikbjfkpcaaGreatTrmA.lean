/- The contract of impl.Trim (written by wip/mktrimi.py). -/
import Derived.Test.YtelkpikbjfkpcaaGreatCpyAll
import Derived.Test.YtelkpikbjfkpcaaGreatBlkIAll
import Derived.Deep.RegionHeld3
namespace Go.Proofs.YtelkpikbjfkpcaaGreat
open Go.ChangeShapes Go.WideShapes Go.ChangeAt Go.RowKit
set_option maxRecDepth 100000 in
set_option maxHeartbeats 4000000 in
theorem impl_trim (x : Gr) (w : World) (B : Nat) (v : Array Value) (h : GrIs w B v x) (GO : OkIs 51 x) (hf : Fits x) :
    Calls Tryz.prog 27 #[.agg v] w fun en w' => MadeGr w (trimP x) en w' := by
  have HG0 := hideP h
  have HF := hideP hf
  have HGO := hideP GO
  obtain ⟨y, hy⟩ : ∃ y, grOk x = y := ⟨_, rfl⟩
  have HY := hideP hy
  have CY : Hid (∀ W, Below w.heap.size w W → Calls Tryz.prog 51 #[.agg v] W fun en w' => en = .returned (.bool y) ∧ Below W.heap.size W w') := fun W hW => by rw [← hy]; exact GO W B v (GrKeeps.stays h hW)
  obtain ⟨X, hX⟩ : ∃ X, trimP x = X := ⟨_, rfl⟩
  have HX := hideP hX
  rw [hX]
  clear hy hX GO hf
  obtain ⟨sizes, p, q, r, blocks⟩ := x
  obtain ⟨us, cs, ub, cb, rfl, _⟩ := h
  simp only at *
  have al := below2 w (.cells #[.slice us sizes.length cs, .int .i64 p, .int .i64 q, .int .i64 r, .slice ub blocks.length cb] 29) (.cells #[.slice none 0 0, .int .i64 0, .int .i64 0, .int .i64 0, .slice none 0 0] 29)
  have AL := hideP al
  have TW := hideP (fun w1 => two (w := w) (w1 := w1) (o1 := .cells #[.slice us sizes.length cs, .int .i64 p, .int .i64 q, .int .i64 r, .slice ub blocks.length cb] 29) (o2 := .cells #[.slice none 0 0, .int .i64 0, .int .i64 0, .int .i64 0, .slice none 0 0] 29))
  clear al
  go_enter Tryz.func27, Tryz.ntmps27
  go_wp2_with fail
  refine (CY.out _ AL.out).mono ?_
  rintro e1 w1 ⟨rfl, bel1⟩
  obtain ⟨P1, RR, L1, hw⟩ := TW.out w1 bel1
  have HW := hideP hw
  have RS := hideP RR
  have PX := hideP P1
  have c0 := (cells_of P1).1 0
  have c1 := (cells_of P1).1 1
  have c2 := (cells_of P1).1 2
  have c3 := (cells_of P1).1 3
  have c4 := (cells_of P1).1 4
  simp at c0 c1 c2 c3 c4
  clear bel1 P1 RR hw TW AL CY
  cases y with
  | false =>
    have E : Hid (X = ⟨sizes, p, q, r, blocks⟩) := by show _ = _; rw [← HX.out]; exact trimP_no (by rw [HY.out]; simp)
    go_wp2_with fail
    refine (graphCopy_any _ _ B _ (GrKeeps.stays HG0.out HW.out) HF.out).mono ?_
    rintro e3 w3 ⟨v3, S, g3, cs3, rfl, gi, ow, lo, n1, n2, n3, bel⟩
    obtain ⟨us3, ks3, ub3, kb3, rfl, _⟩ := id gi
    simp only at gi ow n1 n2 n3 ⊢
    have z := (bel.block _ (hltH RS.out)).trans RS.out
    have r0 := (cells_of z).1 0
    have r1 := (cells_of z).1 1
    have r2 := (cells_of z).1 2
    have r3 := (cells_of z).1 3
    have r4 := (cells_of z).1 4
    have rf := (cells_of z).2
    simp at r0 r1 r2 r3 r4
    have z0 := heap_setCell_same w3 _ 0 _ _ (.slice us3 sizes.length ks3) z
    have z1 := heap_setCell_same _ _ 1 _ _ (.int .i64 p) z0
    have z2 := heap_setCell_same _ _ 2 _ _ (.int .i64 q) z1
    have z3 := heap_setCell_same _ _ 3 _ _ (.int .i64 r) z2
    have z4 : (((((w3.setCell ⟨w.heap.size + 1, 0, none⟩ (.slice us3 sizes.length ks3)).setCell ⟨w.heap.size + 1, 1, none⟩ (.int .i64 p)).setCell ⟨w.heap.size + 1, 2, none⟩ (.int .i64 q)).setCell ⟨w.heap.size + 1, 3, none⟩ (.int .i64 r)).setCell ⟨w.heap.size + 1, 4, none⟩ (.slice ub3 blocks.length kb3)).heap[w.heap.size + 1]? = some (.cells #[.slice us3 sizes.length ks3, .int .i64 p, .int .i64 q, .int .i64 r, .slice ub3 blocks.length kb3] 29 (0, 0)) := heap_setCell_same _ _ 4 _ _ (.slice ub3 blocks.length kb3) z3
    have ZF := hideP z4
    have BU : Hid (But (w.heap.size + 1) w3 (((((w3.setCell ⟨w.heap.size + 1, 0, none⟩ (.slice us3 sizes.length ks3)).setCell ⟨w.heap.size + 1, 1, none⟩ (.int .i64 p)).setCell ⟨w.heap.size + 1, 2, none⟩ (.int .i64 q)).setCell ⟨w.heap.size + 1, 3, none⟩ (.int .i64 r)).setCell ⟨w.heap.size + 1, 4, none⟩ (.slice ub3 blocks.length kb3))) := (((((But.refl (w.heap.size + 1) w3).set 0 (.slice us3 sizes.length ks3)).set 1 (.int .i64 p)).set 2 (.int .i64 q)).set 3 (.int .i64 r)).set 4 (.slice ub3 blocks.length kb3)
    have HG := hideP gi
    have HO := hideP ow
    have LO := hideP lo
    have NN := hideP (And.intro n1 (And.intro n2 n3))
    have BB := hideP bel
    clear z z0 z1 z2 z3 z4 gi ow lo n1 n2 n3 bel
    clear c0 c1 c2 c3 c4
    go_wp2
    refine bodyPost_ret (results_cell_row rfl _ _ (w.heap.size + 1) 29 #[.slice us3 sizes.length ks3, .int .i64 p, .int .i64 q, .int .i64 r, .slice ub3 blocks.length kb3] (0, 0) _ rfl ZF.out Tryz.underlying29 rfl (by kernel_rfl)) rfl ?_
    have hb3 := BB.out.size
    rw [E.out]
    refine ⟨_, S, g3, cs3, rfl, GrKeeps.mono (GrKeeps.but HG.out (by omega) BU.out) (by omega), HO.out.above (B := w1.heap.size) (fun c hc => (LO.out c hc).1) (fun k hk hkl => BU.out.block k hkl (by omega)), fun c hc => ?_, NN.out.1, NN.out.2.1, NN.out.2.2, (below_trans HW.out BB.out).trans (BU.out.below (by omega) (by omega))⟩
    have := LO.out c hc
    have := BU.out.size
    omega
  | true =>
    have hok : Hid (grOk ⟨sizes, p, q, r, blocks⟩ = true) := HY.out
    obtain ⟨L, hL⟩ : ∃ L, blocksP ⟨sizes, p, q, r, blocks⟩ = L := ⟨_, rfl⟩
    obtain ⟨R, hR⟩ : ∃ R, rowB blocks L = R := ⟨_, rfl⟩
    have E : Hid (X = ⟨sizes, p, q, r, R⟩) := by show _ = _; rw [← HX.out, ← hR, ← hL]; exact trimP_ok hok.out
    have CB : Hid (∀ W, Below w1.heap.size w1 W → Calls Tryz.prog 60 #[.agg #[.slice us sizes.length cs, .int .i64 p, .int .i64 q, .int .i64 r, .slice ub blocks.length cb]] W fun en w' => ∃ g2 c2, en = .returned (.slice (some ⟨g2, 0, none⟩) L.length c2) ∧ IntsIs w' 0 (some ⟨g2, 0, none⟩) L ∧ Below W.heap.size W w') := fun W hW => by
      refine (impl_blocks _ W B _ (GrKeeps.stays HG0.out (below_trans HW.out hW)) HGO.out).mono ?_
      rintro en w' ⟨v', rfl, o1, b1⟩
      rw [hL] at o1
      obtain ⟨g2, c2, rfl, _⟩ := id o1
      exact ⟨g2, c2, rfl, o1.is.2.mono (Nat.zero_le _), b1⟩
    have CW : Hid (∀ W g2 k2, Below w1.heap.size w1 W → IntsIs W 0 (some ⟨g2, 0, none⟩) L → Calls Tryz.prog 59 #[.agg #[.slice us sizes.length cs, .int .i64 p, .int .i64 q, .int .i64 r, .slice ub blocks.length cb], .slice (some ⟨g2, 0, none⟩) L.length k2] W fun en w' => MadeGr W ⟨sizes, p, q, r, R⟩ en w') := fun W g2 k2 hW hI => by
      rw [← hR]
      exact withBlocks_any _ L W B 0 _ _ _ (GrKeeps.stays HG0.out (below_trans HW.out hW)) hI hok.out (by rw [← hL]; exact blocksP_in hok.out) (by rw [← hL]; exact blocksP_few _) HF.out
    have SK : Hid (∀ W', Below w1.heap.size w1 W' → W'.cell? ⟨w.heap.size, 0, none⟩ = some (.slice us sizes.length cs) ∧ W'.cell? ⟨w.heap.size, 1, none⟩ = some (.int .i64 p) ∧ W'.cell? ⟨w.heap.size, 2, none⟩ = some (.int .i64 q) ∧ W'.cell? ⟨w.heap.size, 3, none⟩ = some (.int .i64 r) ∧ W'.cell? ⟨w.heap.size, 4, none⟩ = some (.slice ub blocks.length cb)) := fun W' hW => by
      have e := (cells_of ((hW.block _ (hltH PX.out)).trans PX.out)).1
      exact ⟨e 0, e 1, e 2, e 3, e 4⟩
    have SK2 : Hid (∀ W' W'', Below w1.heap.size w1 W' → But (w.heap.size + 1) W' W'' → W''.cell? ⟨w.heap.size, 0, none⟩ = some (.slice us sizes.length cs) ∧ W''.cell? ⟨w.heap.size, 1, none⟩ = some (.int .i64 p) ∧ W''.cell? ⟨w.heap.size, 2, none⟩ = some (.int .i64 q) ∧ W''.cell? ⟨w.heap.size, 3, none⟩ = some (.int .i64 r) ∧ W''.cell? ⟨w.heap.size, 4, none⟩ = some (.slice ub blocks.length cb)) := fun W' W'' hW hb => by
      have e1 := (hW.block _ (hltH PX.out)).trans PX.out
      have e := (cells_of ((hb.block _ (hltH e1) (by omega)).trans e1)).1
      exact ⟨e 0, e 1, e 2, e 3, e 4⟩
    clear hL hR
    go_upto_region 3 with fail
    go_region_held3 (fun W' => W'.cell? ⟨w.heap.size, 0, none⟩ = some (.slice us sizes.length cs) ∧ W'.cell? ⟨w.heap.size, 1, none⟩ = some (.int .i64 p) ∧ W'.cell? ⟨w.heap.size, 2, none⟩ = some (.int .i64 q) ∧ W'.cell? ⟨w.heap.size, 3, none⟩ = some (.int .i64 r) ∧ W'.cell? ⟨w.heap.size, 4, none⟩ = some (.slice ub blocks.length cb)) (first | exact SK.out _ (Below.refl _ _).drew | exact SK2.out _ _ (below_trans F2.out BB.out) BU.out | exact SK.out _ (below_trans F2.out BB.out) | exact SK.out _ F2.out) (first
      | (go_at_call 60; refine (CB.out _ (Below.refl _ _).drew).mono ?_; rintro yy w2 ⟨g2, k2, rfl, on, fn⟩; have ON := hideP on; have F2 : Hid (Below w1.heap.size w1 w2) := (Below.refl _ _).drew.trans (fn.mono (Nat.le_refl _)); replace RS := hideP ((F2.out.block _ (hltH RS.out)).trans RS.out); clear on fn)
      | (go_at_call 59; refine (CW.out _ g2 k2 F2.out ON.out).mono ?_; rintro e3 w3 ⟨v3, S, g3, cs3, rfl, gi, ow, lo, n1, n2, n3, bel⟩; obtain ⟨us3, ks3, ub3, kb3, rfl, _⟩ := id gi; simp only at gi ow n1 n2 n3 ⊢; have z := (bel.block _ (hltH RS.out)).trans RS.out; have r0 := (cells_of z).1 0; have r1 := (cells_of z).1 1; have r2 := (cells_of z).1 2; have r3 := (cells_of z).1 3; have r4 := (cells_of z).1 4; have rf := (cells_of z).2; simp at r0 r1 r2 r3 r4; have z0 := heap_setCell_same w3 _ 0 _ _ (.slice us3 sizes.length ks3) z; have z1 := heap_setCell_same _ _ 1 _ _ (.int .i64 p) z0; have z2 := heap_setCell_same _ _ 2 _ _ (.int .i64 q) z1; have z3 := heap_setCell_same _ _ 3 _ _ (.int .i64 r) z2; have z4 : (((((w3.setCell ⟨w.heap.size + 1, 0, none⟩ (.slice us3 sizes.length ks3)).setCell ⟨w.heap.size + 1, 1, none⟩ (.int .i64 p)).setCell ⟨w.heap.size + 1, 2, none⟩ (.int .i64 q)).setCell ⟨w.heap.size + 1, 3, none⟩ (.int .i64 r)).setCell ⟨w.heap.size + 1, 4, none⟩ (.slice ub3 R.length kb3)).heap[w.heap.size + 1]? = some (.cells #[.slice us3 sizes.length ks3, .int .i64 p, .int .i64 q, .int .i64 r, .slice ub3 R.length kb3] 29 (0, 0)) := heap_setCell_same _ _ 4 _ _ (.slice ub3 R.length kb3) z3; have ZF := hideP z4; have BU : Hid (But (w.heap.size + 1) w3 (((((w3.setCell ⟨w.heap.size + 1, 0, none⟩ (.slice us3 sizes.length ks3)).setCell ⟨w.heap.size + 1, 1, none⟩ (.int .i64 p)).setCell ⟨w.heap.size + 1, 2, none⟩ (.int .i64 q)).setCell ⟨w.heap.size + 1, 3, none⟩ (.int .i64 r)).setCell ⟨w.heap.size + 1, 4, none⟩ (.slice ub3 R.length kb3))) := (((((But.refl (w.heap.size + 1) w3).set 0 (.slice us3 sizes.length ks3)).set 1 (.int .i64 p)).set 2 (.int .i64 q)).set 3 (.int .i64 r)).set 4 (.slice ub3 R.length kb3); have HG := hideP gi; have HO := hideP ow; have LO := hideP lo; have NN := hideP (And.intro n1 (And.intro n2 n3)); have BB := hideP bel; clear z z0 z1 z2 z3 z4 gi ow lo n1 n2 n3 bel))
    replace HW := hideP (below_trans HW.out F2.out)
    have hb2 := F2.out.size
    clear SK SK2 CB CW c0 c1 c2 c3 c4
    go_wp2
    refine bodyPost_ret (results_cell_row rfl _ _ (w.heap.size + 1) 29 #[.slice us3 sizes.length ks3, .int .i64 p, .int .i64 q, .int .i64 r, .slice ub3 R.length kb3] (0, 0) _ rfl ZF.out Tryz.underlying29 rfl (by kernel_rfl)) rfl ?_
    have hb3 := BB.out.size
    rw [E.out]
    refine ⟨_, S, g3, cs3, rfl, GrKeeps.mono (GrKeeps.but HG.out (by omega) BU.out) (by omega), HO.out.above (B := w2.heap.size) (fun c hc => (LO.out c hc).1) (fun k hk hkl => BU.out.block k hkl (by omega)), fun c hc => ?_, NN.out.1, NN.out.2.1, NN.out.2.2, (below_trans HW.out BB.out).trans (BU.out.below (by omega) (by omega))⟩
    have := LO.out c hc
    have := BU.out.size
    omega
end Go.Proofs.YtelkpikbjfkpcaaGreat

/- How great the graph is that impl.Trim makes. -/
namespace Go.Proofs.YtelkpikbjfkpcaaGreat
open Go.ChangeShapes Go.WideShapes Go.ChangeAt Go.RowKit
theorem trimP_few {x : Gr} (h : x.sz ≤ 1048576) : (trimP x).sizes.length + celS (trimP x).blocks ≤ 50000000 := by
  by_cases hok : grOk x = true
  · rw [trimP_ok hok]
    simp only
    have hs : x.sizes.length ≤ 1048576 := by simp only [Gr.sz, slSz] at h; omega
    have hc : ∀ b ∈ x.blocks, b.code.length ≤ 1000 := fun b hb => by
      simp only [grOk, Bool.and_eq_true, decide_eq_true_eq] at hok
      have h1 : (codeAll x.blocks).length ≤ 1000 := hok.1.1.2
      obtain ⟨l1, l2, e⟩ := List.append_of_mem hb
      rw [e] at h1
      simp only [codeAll, List.flatMap_append, List.flatMap_cons, List.length_append] at h1
      omega
    have hl : (rowB x.blocks (blocksP x)).length ≤ 300 := by have := blocksP_few x; simpa [rowB] using this
    have h1 : ∀ b ∈ rowB x.blocks (blocksP x), celN b ≤ 7004 := fun b hb => by
      simp only [rowB, List.mem_map] at hb
      obtain ⟨y, hy, rfl⟩ := hb
      have hz := blocksP_in hok y hy
      have hzb : y.toNat < x.blocks.length := by have := hz.1; have := hz.2; omega
      have := hc _ (List.getElem_mem hzb)
      rw [celN, reB_code, getElem!_pos x.blocks y.toNat hzb]
      omega
    have h2 := celS_le _ h1
    have h3 : (rowB x.blocks (blocksP x)).length * 7004 ≤ 300 * 7004 := Nat.mul_le_mul_right _ hl
    omega
  · rw [trimP_no hok]
    have h1 := celS_sz x.blocks
    simp only [Gr.sz, slSz] at h
    omega
end Go.Proofs.YtelkpikbjfkpcaaGreat
