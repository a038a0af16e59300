/- The contract of impl.Optimize (written by wip/mkopt.py). -/
import Derived.Test.YtelkpikbjfkpcaaGreatOptP
import Derived.Test.YtelkpikbjfkpcaaGreatFldFF
import Derived.Test.YtelkpikbjfkpcaaGreatCpyC
import Derived.Test.YtelkpikbjfkpcaaGreatClnAll
import Derived.Test.YtelkpikbjfkpcaaGreatDsIF
import Derived.Test.YtelkpikbjfkpcaaGreatTrmA
import Derived.Test.YtelkpikbjfkpcaaGreatGrIAll
namespace Go.Proofs.YtelkpikbjfkpcaaGreat
open Go.ChangeShapes Go.WideShapes Go.ChangeAt Go.RowKit
/-- A pass: of every graph that is not too great it tells its own, in memory of its own. -/
def PassI (f : Nat) (P : Gr → Gr) : Prop := ∀ (x : Gr) (W : World) (B : Nat) (v : Array Value), GrIs W B v x → x.sz ≤ 1048576 → Calls Tryz.prog f #[.agg v] W fun en w' => MadeGrW W (P x) en w'
theorem okI (x : Gr) : OkIs 51 x := fun W A v h => impl_graphOk x W A v h
theorem passFold : PassI 26 foldP := fun x W B v h hz => impl_fold x W B v h (okI x) (fits_of hz)
theorem passCopies : PassI 25 copP := fun x W B v h hz => impl_copies x W B v h (okI x) (fits_of hz)
theorem passClean : PassI 24 clP := fun x W B v h hz => (impl_clean x W B v h (okI x) (fits_of hz)).mono (fun _ _ k => k.weak)
theorem passForward : PassI 29 fwdP := fun x W B v h hz => (impl_forward x W B v h (okI x) (fits_of hz)).mono (fun _ _ k => k.weak)
theorem passDead : PassI 28 dsP := fun x W B v h hz => (impl_deadStores x W B v h (okI x) (fits_of hz)).mono (fun _ _ k => k.weak)
theorem passTrim : PassI 27 trimP := fun x W B v h hz => (impl_trim x W B v h (okI x) (fits_of hz)).mono (fun _ _ k => k.weak)
theorem passCopy : PassI 30 id := fun x W B v h hz => (graphCopy_any x W B v h (fits_of hz)).mono (fun _ _ k => MadeGr.weak k)
set_option maxRecDepth 100000 in
set_option maxHeartbeats 8000000 in
theorem impl_opt1 (x : Gr) (w : World) (B : Nat) (v : Array Value) (h : GrIs w B v x) (hz : x.sz ≤ 1048576) :
    Calls Tryz.prog 7 #[.agg v, .int .i64 1] w fun en w' => MadeGrW w (opt1 x) en w' := by
  obtain ⟨Y1, hY1⟩ : ∃ Y1, foldP x = Y1 := ⟨_, rfl⟩
  have hz0 := hz
  have C1 : Hid (∀ W B v, GrIs W B v x → Calls Tryz.prog 26 #[.agg v] W fun en w' => MadeGrW W Y1 en w') := fun W B v hW => by rw [← hY1]; exact passFold x W B v hW hz0
  have hz1 : Y1.sz ≤ 1048576 := by have := foldP_sz x; rw [hY1] at this; omega
  obtain ⟨Y2, hY2⟩ : ∃ Y2, copP Y1 = Y2 := ⟨_, rfl⟩
  have C2 : Hid (∀ W B v, GrIs W B v Y1 → Calls Tryz.prog 25 #[.agg v] W fun en w' => MadeGrW W Y2 en w') := fun W B v hW => by rw [← hY2]; exact passCopies Y1 W B v hW hz1
  have hz2 : Y2.sz ≤ 1048576 := by have := copP_sz Y1; rw [hY2] at this; omega
  obtain ⟨Y3, hY3⟩ : ∃ Y3, clP Y2 = Y3 := ⟨_, rfl⟩
  have C3 : Hid (∀ W B v, GrIs W B v Y2 → Calls Tryz.prog 24 #[.agg v] W fun en w' => MadeGrW W Y3 en w') := fun W B v hW => by rw [← hY3]; exact passClean Y2 W B v hW hz2
  have EQ : Hid (opt1 x = Y3) := by show _ = _; unfold opt1; rw [← hY3]; rw [← hY2]; rw [← hY1]
  rw [EQ.out]
  clear EQ hz hY1 hY2 hY3 hz0 hz1 hz2
  obtain ⟨sizes, p, q, r, blocks⟩ := x
  have HG := hideP h
  obtain ⟨us, cs, ub, cb, rfl, _⟩ := h
  simp only at HG
  have AL := hideP (below2 w (.cells #[.slice us sizes.length cs, .int .i64 p, .int .i64 q, .int .i64 r, .slice ub blocks.length cb] 29) (.cells #[.slice none 0 0, .int .i64 0, .int .i64 0, .int .i64 0, .slice none 0 0] 29))
  have TW := hideP (fun w1 => two (w := w) (w1 := w1) (o1 := .cells #[.slice us sizes.length cs, .int .i64 p, .int .i64 q, .int .i64 r, .slice ub blocks.length cb] 29) (o2 := .cells #[.slice none 0 0, .int .i64 0, .int .i64 0, .int .i64 0, .slice none 0 0] 29))
  obtain ⟨W0, hW0⟩ : ∃ W0, (w.alloc (.cells #[.slice us sizes.length cs, .int .i64 p, .int .i64 q, .int .i64 r, .slice ub blocks.length cb] 29)).alloc (.cells #[.slice none 0 0, .int .i64 0, .int .i64 0, .int .i64 0, .slice none 0 0] 29) = W0 := ⟨_, rfl⟩
  have HZ2 : Hid (W0.heap.size = w.heap.size + 2) := by show _ = _; rw [← hW0]; simp
  have TW0 := hideP (TW.out W0 (by rw [hW0]; exact Below.refl _ _))
  simp only [hW0] at AL TW
  have HW0 := hideP hW0
  clear hW0
  simp only
  go_enter Tryz.func7, Tryz.ntmps7
  go_upto_region 1 with fail
  rw [HW0.out]
  clear HW0
  have fc := (cells_of TW0.out.1).1
  have c0 := fc 0
  have c1 := fc 1
  have c2 := fc 2
  have c3 := fc 3
  have c4 := fc 4
  simp at c0 c1 c2 c3 c4
  clear fc
  have G0 := hideP (GrKeeps.stays HG.out AL.out)
  have BB := hideP (Below.refl W0.heap.size W0)
  go_wp2_with fail
  refine (C1.out _ _ _ G0.out).mono ?_
  rintro e1 w1 ⟨v1, _, _, _, rfl, g1, _, _, _, _, _, b1⟩
  have G1 := hideP g1
  replace BB := hideP (below_trans BB.out b1)
  obtain ⟨us1, ks1, ub1, kb1, rfl, _⟩ := id g1
  clear g1 b1
  clear c0 c1 c2 c3 c4
  go_wp2_with fail
  refine (C2.out _ _ _ G1.out).mono ?_
  rintro e2 w2 ⟨v2, _, _, _, rfl, g2, _, _, _, _, _, b2⟩
  have G2 := hideP g2
  replace BB := hideP (below_trans BB.out b2)
  obtain ⟨us2, ks2, ub2, kb2, rfl, _⟩ := id g2
  clear g2 b2
  have BP : Hid (W0.heap.size ≤ w2.heap.size) := BB.out.size
  go_wp2_with fail
  refine (C3.out _ _ _ G2.out).mono ?_
  rintro e3 w3 ⟨v3, S, g1, cs1, rfl, gi, ow, lo, n1, n2, n3, b3⟩
  have BL := hideP b3
  replace BB := hideP (below_trans BB.out b3)
  obtain ⟨P1, RR, L1, hw⟩ := TW.out w3 BB.out
  obtain ⟨us9, ks9, ub9, kb9, rfl, _⟩ := id gi
  have hlow : w.heap.size + 2 ≤ w2.heap.size := by have := HZ2.out; have := BP.out; omega
  have GI := hideP gi
  have OW := hideP ow
  have LO := hideP lo
  have NN : Hid (S.n = Y3.sizes.length ∧ cs1.length = Y3.blocks.length ∧ ∀ i (h : i < cs1.length), cs1[i].n = (Y3.blocks[i]!).code.length) := ⟨n1, n2, n3⟩
  have HWW := hideP hw
  have hlt := hltP RR
  have fc := (cells_of RR).1
  have r0 := fc 0
  have r1 := fc 1
  have r2 := fc 2
  have r3 := fc 3
  have r4 := fc 4
  simp at r0 r1 r2 r3 r4
  clear fc
  have rf := (cells_of RR).2
  obtain ⟨z4, bu⟩ := put5n RR rfl (.slice us9 Y3.sizes.length ks9) (.int .i64 Y3.params) (.int .i64 Y3.vars) (.int .i64 Y3.slots) (.slice ub9 Y3.blocks.length kb9)
  have ZF := hideP z4
  have BU := hideP bu
  clear z4 bu P1 RR L1 hw gi ow lo n1 n2 n3 TW AL HZ2
  go_wp2
  refine bodyPost_ret (results_cell_row rfl _ _ (w.heap.size + 1) 29 #[.slice us9 Y3.sizes.length ks9, .int .i64 Y3.params, .int .i64 Y3.vars, .int .i64 Y3.slots, .slice ub9 Y3.blocks.length kb9] (0, 0) _ rfl ZF.out Tryz.underlying29 rfl (by kernel_rfl)) rfl ?_
  have hsb := BU.out.size
  refine ⟨_, S, g1, cs1, rfl, GrKeeps.mono (GrKeeps.but GI.out (by omega) BU.out) (by omega), OW.out.above (B := w.heap.size + 2) (fun c hc => by have := (LO.out c hc).1; omega) (fun k hk hkl => BU.out.block k hkl (by omega)), fun c hc => ?_, NN.out.1, NN.out.2.1, NN.out.2.2, HWW.out.trans (BU.out.below (by omega) (by omega))⟩
  have := LO.out c hc
  omega
theorem opt1_sz (x : Gr) : (opt1 x).sz ≤ x.sz := by
  have a1 := foldP_sz x
  have a2 := copP_sz (foldP x)
  have a3 := clP_sz (copP (foldP x))
  unfold opt1
  omega
set_option maxRecDepth 100000 in
set_option maxHeartbeats 8000000 in
theorem impl_opt2 (x : Gr) (w : World) (B : Nat) (v : Array Value) (h : GrIs w B v x) (hz : x.sz ≤ 1048576) :
    Calls Tryz.prog 7 #[.agg v, .int .i64 2] w fun en w' => MadeGrW w (trimP (opt1 (dsP (fwdP (foldP x))))) en w' := by
  obtain ⟨Y1, hY1⟩ : ∃ Y1, foldP x = Y1 := ⟨_, rfl⟩
  have hz0 := hz
  have C1 : Hid (∀ W B v, GrIs W B v x → Calls Tryz.prog 26 #[.agg v] W fun en w' => MadeGrW W Y1 en w') := fun W B v hW => by rw [← hY1]; exact passFold x W B v hW hz0
  have hz1 : Y1.sz ≤ 1048576 := by have := foldP_sz x; rw [hY1] at this; omega
  obtain ⟨Y2, hY2⟩ : ∃ Y2, fwdP Y1 = Y2 := ⟨_, rfl⟩
  have C2 : Hid (∀ W B v, GrIs W B v Y1 → Calls Tryz.prog 29 #[.agg v] W fun en w' => MadeGrW W Y2 en w') := fun W B v hW => by rw [← hY2]; exact passForward Y1 W B v hW hz1
  have hz2 : Y2.sz ≤ 1048576 := by have := fwdP_sz Y1; rw [hY2] at this; omega
  obtain ⟨Y3, hY3⟩ : ∃ Y3, dsP Y2 = Y3 := ⟨_, rfl⟩
  have C3 : Hid (∀ W B v, GrIs W B v Y2 → Calls Tryz.prog 28 #[.agg v] W fun en w' => MadeGrW W Y3 en w') := fun W B v hW => by rw [← hY3]; exact passDead Y2 W B v hW hz2
  have hz3 : Y3.sz ≤ 1048576 := by have := dsP_sz Y2; rw [hY3] at this; omega
  obtain ⟨Y4, hY4⟩ : ∃ Y4, opt1 Y3 = Y4 := ⟨_, rfl⟩
  have C4 : Hid (∀ W B v, GrIs W B v Y3 → Calls Tryz.prog 7 #[.agg v, .int .i64 1] W fun en w' => MadeGrW W Y4 en w') := fun W B v hW => by rw [← hY4]; exact impl_opt1 Y3 W B v hW hz3
  have hz4 : Y4.sz ≤ 1048576 := by have := opt1_sz Y3; rw [hY4] at this; omega
  obtain ⟨Y5, hY5⟩ : ∃ Y5, trimP Y4 = Y5 := ⟨_, rfl⟩
  have C5 : Hid (∀ W B v, GrIs W B v Y4 → Calls Tryz.prog 27 #[.agg v] W fun en w' => MadeGrW W Y5 en w') := fun W B v hW => by rw [← hY5]; exact passTrim Y4 W B v hW hz4
  have EQ : Hid (trimP (opt1 (dsP (fwdP (foldP x)))) = Y5) := by show _ = _; rw [← hY5]; rw [← hY4]; rw [← hY3]; rw [← hY2]; rw [← hY1]
  rw [EQ.out]
  clear EQ hz hY1 hY2 hY3 hY4 hY5 hz0 hz1 hz2 hz3 hz4
  obtain ⟨sizes, p, q, r, blocks⟩ := x
  have HG := hideP h
  obtain ⟨us, cs, ub, cb, rfl, _⟩ := h
  simp only at HG
  have AL := hideP (below2 w (.cells #[.slice us sizes.length cs, .int .i64 p, .int .i64 q, .int .i64 r, .slice ub blocks.length cb] 29) (.cells #[.slice none 0 0, .int .i64 0, .int .i64 0, .int .i64 0, .slice none 0 0] 29))
  have TW := hideP (fun w1 => two (w := w) (w1 := w1) (o1 := .cells #[.slice us sizes.length cs, .int .i64 p, .int .i64 q, .int .i64 r, .slice ub blocks.length cb] 29) (o2 := .cells #[.slice none 0 0, .int .i64 0, .int .i64 0, .int .i64 0, .slice none 0 0] 29))
  obtain ⟨W0, hW0⟩ : ∃ W0, (w.alloc (.cells #[.slice us sizes.length cs, .int .i64 p, .int .i64 q, .int .i64 r, .slice ub blocks.length cb] 29)).alloc (.cells #[.slice none 0 0, .int .i64 0, .int .i64 0, .int .i64 0, .slice none 0 0] 29) = W0 := ⟨_, rfl⟩
  have HZ2 : Hid (W0.heap.size = w.heap.size + 2) := by show _ = _; rw [← hW0]; simp
  have TW0 := hideP (TW.out W0 (by rw [hW0]; exact Below.refl _ _))
  simp only [hW0] at AL TW
  have HW0 := hideP hW0
  clear hW0
  simp only
  go_enter Tryz.func7, Tryz.ntmps7
  go_upto_region 1 with fail
  rw [HW0.out]
  clear HW0
  have fc := (cells_of TW0.out.1).1
  have c0 := fc 0
  have c1 := fc 1
  have c2 := fc 2
  have c3 := fc 3
  have c4 := fc 4
  simp at c0 c1 c2 c3 c4
  clear fc
  have G0 := hideP (GrKeeps.stays HG.out AL.out)
  have BB := hideP (Below.refl W0.heap.size W0)
  go_wp2_with fail
  refine (C1.out _ _ _ G0.out).mono ?_
  rintro e1 w1 ⟨v1, _, _, _, rfl, g1, _, _, _, _, _, b1⟩
  have G1 := hideP g1
  replace BB := hideP (below_trans BB.out b1)
  obtain ⟨us1, ks1, ub1, kb1, rfl, _⟩ := id g1
  clear g1 b1
  clear c0 c1 c2 c3 c4
  go_wp2_with fail
  refine (C2.out _ _ _ G1.out).mono ?_
  rintro e2 w2 ⟨v2, _, _, _, rfl, g2, _, _, _, _, _, b2⟩
  have G2 := hideP g2
  replace BB := hideP (below_trans BB.out b2)
  obtain ⟨us2, ks2, ub2, kb2, rfl, _⟩ := id g2
  clear g2 b2
  go_wp2_with fail
  refine (C3.out _ _ _ G2.out).mono ?_
  rintro e3 w3 ⟨v3, _, _, _, rfl, g3, _, _, _, _, _, b3⟩
  have G3 := hideP g3
  replace BB := hideP (below_trans BB.out b3)
  obtain ⟨us3, ks3, ub3, kb3, rfl, _⟩ := id g3
  clear g3 b3
  go_wp2_with fail
  refine (C4.out _ _ _ G3.out).mono ?_
  rintro e4 w4 ⟨v4, _, _, _, rfl, g4, _, _, _, _, _, b4⟩
  have G4 := hideP g4
  replace BB := hideP (below_trans BB.out b4)
  obtain ⟨us4, ks4, ub4, kb4, rfl, _⟩ := id g4
  clear g4 b4
  have BP : Hid (W0.heap.size ≤ w4.heap.size) := BB.out.size
  go_wp2_with fail
  refine (C5.out _ _ _ G4.out).mono ?_
  rintro e5 w5 ⟨v5, S, g1, cs1, rfl, gi, ow, lo, n1, n2, n3, b5⟩
  have BL := hideP b5
  replace BB := hideP (below_trans BB.out b5)
  obtain ⟨P1, RR, L1, hw⟩ := TW.out w5 BB.out
  obtain ⟨us9, ks9, ub9, kb9, rfl, _⟩ := id gi
  have hlow : w.heap.size + 2 ≤ w4.heap.size := by have := HZ2.out; have := BP.out; omega
  have GI := hideP gi
  have OW := hideP ow
  have LO := hideP lo
  have NN : Hid (S.n = Y5.sizes.length ∧ cs1.length = Y5.blocks.length ∧ ∀ i (h : i < cs1.length), cs1[i].n = (Y5.blocks[i]!).code.length) := ⟨n1, n2, n3⟩
  have HWW := hideP hw
  have hlt := hltP RR
  have fc := (cells_of RR).1
  have r0 := fc 0
  have r1 := fc 1
  have r2 := fc 2
  have r3 := fc 3
  have r4 := fc 4
  simp at r0 r1 r2 r3 r4
  clear fc
  have rf := (cells_of RR).2
  obtain ⟨z4, bu⟩ := put5n RR rfl (.slice us9 Y5.sizes.length ks9) (.int .i64 Y5.params) (.int .i64 Y5.vars) (.int .i64 Y5.slots) (.slice ub9 Y5.blocks.length kb9)
  have ZF := hideP z4
  have BU := hideP bu
  clear z4 bu P1 RR L1 hw gi ow lo n1 n2 n3 TW AL HZ2
  go_wp2
  refine bodyPost_ret (results_cell_row rfl _ _ (w.heap.size + 1) 29 #[.slice us9 Y5.sizes.length ks9, .int .i64 Y5.params, .int .i64 Y5.vars, .int .i64 Y5.slots, .slice ub9 Y5.blocks.length kb9] (0, 0) _ rfl ZF.out Tryz.underlying29 rfl (by kernel_rfl)) rfl ?_
  have hsb := BU.out.size
  refine ⟨_, S, g1, cs1, rfl, GrKeeps.mono (GrKeeps.but GI.out (by omega) BU.out) (by omega), OW.out.above (B := w.heap.size + 2) (fun c hc => by have := (LO.out c hc).1; omega) (fun k hk hkl => BU.out.block k hkl (by omega)), fun c hc => ?_, NN.out.1, NN.out.2.1, NN.out.2.2, HWW.out.trans (BU.out.below (by omega) (by omega))⟩
  have := LO.out c hc
  omega
set_option maxRecDepth 100000 in
set_option maxHeartbeats 8000000 in
theorem impl_opt0 (x : Gr) (l : Int) (w : World) (B : Nat) (v : Array Value) (h : GrIs w B v x) (hz : x.sz ≤ 1048576) (h1 : (l == 1) = false) (h2 : (l == 2) = false) :
    Calls Tryz.prog 7 #[.agg v, .int .i64 l] w fun en w' => MadeGrW w (id x) en w' := by
  obtain ⟨Y1, hY1⟩ : ∃ Y1, id x = Y1 := ⟨_, rfl⟩
  have hz0 := hz
  have C1 : Hid (∀ W B v, GrIs W B v x → Calls Tryz.prog 30 #[.agg v] W fun en w' => MadeGrW W Y1 en w') := fun W B v hW => by rw [← hY1]; exact passCopy x W B v hW hz0
  have EQ : Hid (id x = Y1) := by show _ = _; rw [← hY1]
  rw [EQ.out]
  clear EQ hz hY1 hz0
  obtain ⟨sizes, p, q, r, blocks⟩ := x
  have HG := hideP h
  obtain ⟨us, cs, ub, cb, rfl, _⟩ := h
  simp only at HG
  have AL := hideP (below2 w (.cells #[.slice us sizes.length cs, .int .i64 p, .int .i64 q, .int .i64 r, .slice ub blocks.length cb] 29) (.cells #[.slice none 0 0, .int .i64 0, .int .i64 0, .int .i64 0, .slice none 0 0] 29))
  have TW := hideP (fun w1 => two (w := w) (w1 := w1) (o1 := .cells #[.slice us sizes.length cs, .int .i64 p, .int .i64 q, .int .i64 r, .slice ub blocks.length cb] 29) (o2 := .cells #[.slice none 0 0, .int .i64 0, .int .i64 0, .int .i64 0, .slice none 0 0] 29))
  obtain ⟨W0, hW0⟩ : ∃ W0, (w.alloc (.cells #[.slice us sizes.length cs, .int .i64 p, .int .i64 q, .int .i64 r, .slice ub blocks.length cb] 29)).alloc (.cells #[.slice none 0 0, .int .i64 0, .int .i64 0, .int .i64 0, .slice none 0 0] 29) = W0 := ⟨_, rfl⟩
  have HZ2 : Hid (W0.heap.size = w.heap.size + 2) := by show _ = _; rw [← hW0]; simp
  have TW0 := hideP (TW.out W0 (by rw [hW0]; exact Below.refl _ _))
  simp only [hW0] at AL TW
  have HW0 := hideP hW0
  clear hW0
  simp only
  go_enter Tryz.func7, Tryz.ntmps7
  go_upto_region 1 with fail
  rw [HW0.out]
  clear HW0
  have fc := (cells_of TW0.out.1).1
  have c0 := fc 0
  have c1 := fc 1
  have c2 := fc 2
  have c3 := fc 3
  have c4 := fc 4
  simp at c0 c1 c2 c3 c4
  clear fc
  have G0 := hideP (GrKeeps.stays HG.out AL.out)
  have BB := hideP (Below.refl W0.heap.size W0)
  go_wp2_with fail
  refine (C1.out _ _ _ G0.out).mono ?_
  rintro e1 w1 ⟨v1, S, g1, cs1, rfl, gi, ow, lo, n1, n2, n3, b1⟩
  have BL := hideP b1
  replace BB := hideP (below_trans BB.out b1)
  clear c0 c1 c2 c3 c4
  obtain ⟨P1, RR, L1, hw⟩ := TW.out w1 BB.out
  obtain ⟨us9, ks9, ub9, kb9, rfl, _⟩ := id gi
  have hlow : w.heap.size + 2 ≤ W0.heap.size := by have := HZ2.out; omega
  have GI := hideP gi
  have OW := hideP ow
  have LO := hideP lo
  have NN : Hid (S.n = Y1.sizes.length ∧ cs1.length = Y1.blocks.length ∧ ∀ i (h : i < cs1.length), cs1[i].n = (Y1.blocks[i]!).code.length) := ⟨n1, n2, n3⟩
  have HWW := hideP hw
  have hlt := hltP RR
  have fc := (cells_of RR).1
  have r0 := fc 0
  have r1 := fc 1
  have r2 := fc 2
  have r3 := fc 3
  have r4 := fc 4
  simp at r0 r1 r2 r3 r4
  clear fc
  have rf := (cells_of RR).2
  obtain ⟨z4, bu⟩ := put5n RR rfl (.slice us9 Y1.sizes.length ks9) (.int .i64 Y1.params) (.int .i64 Y1.vars) (.int .i64 Y1.slots) (.slice ub9 Y1.blocks.length kb9)
  have ZF := hideP z4
  have BU := hideP bu
  clear z4 bu P1 RR L1 hw gi ow lo n1 n2 n3 TW AL HZ2
  go_wp2
  refine bodyPost_ret (results_cell_row rfl _ _ (w.heap.size + 1) 29 #[.slice us9 Y1.sizes.length ks9, .int .i64 Y1.params, .int .i64 Y1.vars, .int .i64 Y1.slots, .slice ub9 Y1.blocks.length kb9] (0, 0) _ rfl ZF.out Tryz.underlying29 rfl (by kernel_rfl)) rfl ?_
  have hsb := BU.out.size
  refine ⟨_, S, g1, cs1, rfl, GrKeeps.mono (GrKeeps.but GI.out (by omega) BU.out) (by omega), OW.out.above (B := w.heap.size + 2) (fun c hc => by have := (LO.out c hc).1; omega) (fun k hk hkl => BU.out.block k hkl (by omega)), fun c hc => ?_, NN.out.1, NN.out.2.1, NN.out.2.2, HWW.out.trans (BU.out.below (by omega) (by omega))⟩
  have := LO.out c hc
  omega
theorem impl_optimize (x : Gr) (l : Int) (w : World) (B : Nat) (v : Array Value) (h : GrIs w B v x) (hz : x.sz ≤ 1048576) :
    Calls Tryz.prog 7 #[.agg v, .int .i64 l] w fun en w' => MadeGrW w (optP x l) en w' := by
  unfold optP
  by_cases h1 : l = 1
  · rw [if_pos h1]
    subst h1
    exact impl_opt1 x w B v h hz
  · rw [if_neg h1]
    by_cases h2 : l = 2
    · rw [if_pos h2]
      subst h2
      exact impl_opt2 x w B v h hz
    · rw [if_neg h2]
      exact impl_opt0 x l w B v h hz (by simpa using h1) (by simpa using h2)
end Go.Proofs.YtelkpikbjfkpcaaGreat
