/- The contract of spec.Optimize (written by wip/mkopts.py). -/
import Derived.Test.YtelkpikbjfkpcaaGreatOptP
import Derived.Test.YtelkpikbjfkpcaaGreatFldST
import Derived.Test.YtelkpikbjfkpcaaGreatUseCop
import Derived.Test.YtelkpikbjfkpcaaGreatLivAll
import Derived.Test.YtelkpikbjfkpcaaGreatDsSAll
import Derived.Test.YtelkpikbjfkpcaaGreatBlkS
import Derived.Test.YtelkpikbjfkpcaaGreatGrOkS
namespace Go.Proofs.YtelkpikbjfkpcaaGreat
open Go.ChangeShapes Go.WideShapes Go.ChangeAt Go.RowKit
/-- A pass of the specification. -/
def PassS (f : Nat) (P : Gr → Gr) : Prop := ∀ (x : Gr) (W : World) (B : Nat) (v : Array Value), GrIs W B v x → x.sz ≤ 1048576 → Calls Tryz.prog f #[.agg v] W fun en w' => ∃ v', en = .returned (.agg v') ∧ GrIs w' W.heap.size v' (P x) ∧ Below W.heap.size W w'
theorem okS {x : Gr} (hz : x.sz ≤ 1048576) : OkIs 14 x := fun W A v h => spec_graphOk x W A v h hz
theorem passFoldS : PassS 16 foldP := fun x W B v h hz => spec_fold x W B v h (okS hz) (fits_of hz)
theorem passCopiesS : PassS 20 copP := fun x W B v h hz => spec_copies x W B v h (okS hz) (fits_of hz)
theorem passCleanS : PassS 19 clP := fun x W B v h hz => spec_clean x W B v h (okS hz) (fits_of hz)
theorem passForwardS : PassS 18 fwdP := fun x W B v h hz => spec_forward x W B v h (okS hz) (fits_of hz)
theorem passDeadS : PassS 17 dsP := fun x W B v h hz => spec_deadStores x W B v h (okS hz) (fits_of hz)
theorem passTrimS : PassS 21 trimP := fun x W B v h hz => spec_trim x W B v h (okS hz) (fits_of hz)
/-- Between two passes: what is told so far stands in block o. -/
structure OsAt (w : World) (o : Nat) (v : Array Value) (Y : Gr) (W : World) : Prop where
  bR : W.heap[w.heap.size + 1]? = some (.cells #[.slice none 0 0, .int .i64 0, .int .i64 0, .int .i64 0, .slice none 0 0] 29 (0, 0))
  bO : W.heap[o]? = some (.cells v 29 (0, 0))
  gr : GrIs W (w.heap.size + 2) v Y
  bel : Below w.heap.size w W
theorem OsAt.stays {w W W' : World} {o : Nat} {v : Array Value} {Y : Gr} (h : OsAt w o v Y W) (b : Below W.heap.size W W') : OsAt w o v Y W' :=
  ⟨(b.block _ (hltP h.bR)).trans h.bR, (b.block _ (hltP h.bO)).trans h.bO, GrKeeps.stays h.gr b, below_trans h.bel b⟩
theorem OsAt.told {w W W1 W' W2 : World} {o : Nat} {v v' : Array Value} {Y Y' : Gr} (h : OsAt w o v Y W) (ho : w.heap.size + 2 ≤ o) (b1 : Below W.heap.size W W1) (b : Below W1.heap.size W1 W') (g : GrIs W' W1.heap.size v' Y') (bu : But o W' W2) (hb : W2.heap[o]? = some (.cells v' 29 (0, 0))) : OsAt w o v' Y' W2 := by
  have h2 := h.stays (below_trans b1 b)
  have hol := hltP h.bO
  have hs1 := b1.size
  have hr := hltP h.bR
  exact ⟨keepQ bu h2.bR (by omega), hb, GrKeeps.mono (GrKeeps.but g (by omega) bu) (by omega), h2.bel.trans (bu.below (by omega) h2.bel.size)⟩
set_option maxRecDepth 100000 in
set_option maxHeartbeats 8000000 in
theorem spec_opt1 (x : Gr) (w : World) (B : Nat) (v : Array Value) (h : GrIs w B v x) (hz : x.sz ≤ 1048576) :
    Calls Tryz.prog 5 #[.agg v, .int .i64 1] w fun en w' => SpGr9 w (opt1 x) en w' := by
  obtain ⟨y, hy⟩ : ∃ y, grOk x = y := ⟨_, rfl⟩
  have HY := hideP hy
  have CY : Hid (∀ W, Below w.heap.size w W → Calls Tryz.prog 14 #[.agg v] W fun en w' => en = .returned (.bool y) ∧ Below W.heap.size W w') := fun W hW => by rw [← hy]; exact okS hz W B v (GrKeeps.stays h hW)
  have CC : Hid (∀ W, Below w.heap.size w W → Calls Tryz.prog 13 #[.agg v] W fun en w' => ∃ v', en = .returned (.agg v') ∧ GrIs w' W.heap.size v' x ∧ Below W.heap.size W w') := fun W hW => by
    refine (spec_copyD x W B v (GrKeeps.stays h hW) (fits_of hz)).mono ?_
    rintro en w' ⟨v', h1, h2, h3, _⟩
    exact ⟨v', h1, h2, h3⟩
  have hz0 := hz
  obtain ⟨Y1, hY1⟩ : ∃ Y1, foldP x = Y1 := ⟨_, rfl⟩
  have C1 : Hid (∀ W B v, GrIs W B v x → Calls Tryz.prog 16 #[.agg v] W fun en w' => ∃ v', en = .returned (.agg v') ∧ GrIs w' W.heap.size v' Y1 ∧ Below W.heap.size W w') := fun W B v hW => by rw [← hY1]; exact passFoldS x W B v hW hz0
  have hz1 : Y1.sz ≤ 1048576 := by have := foldP_sz x; rw [hY1] at this; omega
  obtain ⟨Y2, hY2⟩ : ∃ Y2, copP Y1 = Y2 := ⟨_, rfl⟩
  have C2 : Hid (∀ W B v, GrIs W B v Y1 → Calls Tryz.prog 20 #[.agg v] W fun en w' => ∃ v', en = .returned (.agg v') ∧ GrIs w' W.heap.size v' Y2 ∧ Below W.heap.size W w') := fun W B v hW => by rw [← hY2]; exact passCopiesS Y1 W B v hW hz1
  have hz2 : Y2.sz ≤ 1048576 := by have := copP_sz Y1; rw [hY2] at this; omega
  obtain ⟨Y3, hY3⟩ : ∃ Y3, clP Y2 = Y3 := ⟨_, rfl⟩
  have C3 : Hid (∀ W B v, GrIs W B v Y2 → Calls Tryz.prog 19 #[.agg v] W fun en w' => ∃ v', en = .returned (.agg v') ∧ GrIs w' W.heap.size v' Y3 ∧ Below W.heap.size W w') := fun W B v hW => by rw [← hY3]; exact passCleanS Y2 W B v hW hz2
  have hz3 : Y3.sz ≤ 1048576 := by have := clP_sz Y2; rw [hY3] at this; omega
  have EQ : Hid (opt1 x = Y3) := by show _ = _; unfold opt1; rw [← hY3]; rw [← hY2]; rw [← hY1]
  have EN : Hid (y = false → Y3 = x) := fun hf => by rw [← EQ.out]; exact opt1_no (by rw [HY.out, hf]; simp)
  rw [EQ.out]
  clear EQ hY1 hY2 hY3
  clear hy hz hz0
  clear hz1
  clear hz2
  clear hz3
  have HG := hideP h
  obtain ⟨us, cs, ub, cb, rfl, _⟩ := h
  obtain ⟨sizes, p, q, r, blocks⟩ := x
  simp only at HG CY CC ⊢
  have AL := hideP (below2 w (.cells #[.slice us sizes.length cs, .int .i64 p, .int .i64 q, .int .i64 r, .slice ub blocks.length cb] 29) (.cells #[.slice none 0 0, .int .i64 0, .int .i64 0, .int .i64 0, .slice none 0 0] 29))
  have TW := hideP (fun w1 => two (w := w) (w1 := w1) (o1 := .cells #[.slice us sizes.length cs, .int .i64 p, .int .i64 q, .int .i64 r, .slice ub blocks.length cb] 29) (o2 := .cells #[.slice none 0 0, .int .i64 0, .int .i64 0, .int .i64 0, .slice none 0 0] 29))
  have HZ2 : Hid (((w.alloc (.cells #[.slice us sizes.length cs, .int .i64 p, .int .i64 q, .int .i64 r, .slice ub blocks.length cb] 29)).alloc (.cells #[.slice none 0 0, .int .i64 0, .int .i64 0, .int .i64 0, .slice none 0 0] 29)).heap.size = w.heap.size + 2) := by show _ = _; simp
  go_enter Tryz.func5, Tryz.ntmps5
  go_wp2_with fail
  refine (CC.out _ AL.out).mono ?_
  rintro e0 w1 ⟨v1, rfl, gi, bel1⟩
  obtain ⟨P1, RR, L1, hw⟩ := TW.out w1 bel1
  rw [HZ2.out] at gi
  have hlow : w.heap.size + 2 ≤ w1.heap.size := by have := bel1.size; rw [HZ2.out] at this; exact this
  obtain ⟨us0, ks0, ub0, kb0, rfl, _⟩ := id gi
  simp only at gi ⊢
  have al2 := (Below.refl w1.heap.size w1).alloc (Nat.le_refl _) (.cells #[.slice us0 sizes.length ks0, .int .i64 p, .int .i64 q, .int .i64 r, .slice ub0 blocks.length kb0] 29)
  have S0 : Hid (OsAt w w1.heap.size #[.slice us0 sizes.length ks0, .int .i64 p, .int .i64 q, .int .i64 r, .slice ub0 blocks.length kb0] ⟨sizes, p, q, r, blocks⟩ (w1.alloc (.cells #[.slice us0 sizes.length ks0, .int .i64 p, .int .i64 q, .int .i64 r, .slice ub0 blocks.length kb0] 29))) := ⟨(al2.block _ (hltP RR)).trans RR, newB1 w1 _, GrKeeps.stays gi al2, below_trans hw al2⟩
  have BP := hideP ((al2.block _ (hltP P1)).trans P1)
  clear bel1 P1 RR hw TW AL CC al2 gi HZ2 L1
  go_upto_region 2 with fail
  obtain ⟨ob, hob⟩ : ∃ ob, w1.heap.size = ob := ⟨_, rfl⟩
  obtain ⟨W0, hW0⟩ : ∃ W0, w1.alloc (.cells #[.slice us0 sizes.length ks0, .int .i64 p, .int .i64 q, .int .i64 r, .slice ub0 blocks.length kb0] 29) = W0 := ⟨_, rfl⟩
  rw [hW0] at S0 BP ⊢
  rw [hob] at S0 hlow ⊢
  clear hW0 hob
  have fc := (cells_of BP.out).1
  have c0 := fc 0
  have c1 := fc 1
  have c2 := fc 2
  have c3 := fc 3
  have c4 := fc 4
  simp at c0 c1 c2 c3 c4
  clear fc
  go_wp2_with fail
  refine (CY.out _ S0.out.bel).mono ?_
  rintro e2 w2 ⟨rfl, bel2⟩
  replace S0 := hideP (S0.out.stays bel2)
  clear CY c0 c1 c2 c3 c4 bel2 BP
  cases y with
  | false =>
    have z := S0.out.bR
    have fc := (cells_of S0.out.bO).1
    have d0 := fc 0
    have d1 := fc 1
    have d2 := fc 2
    have d3 := fc 3
    have d4 := fc 4
    simp at d0 d1 d2 d3 d4
    clear fc
    have fc := (cells_of z).1
    have r0 := fc 0
    have r1 := fc 1
    have r2 := fc 2
    have r3 := fc 3
    have r4 := fc 4
    simp at r0 r1 r2 r3 r4
    clear fc
    have rf := (cells_of z).2
    obtain ⟨z4, bu⟩ := put5n z rfl (.slice us0 sizes.length ks0) (.int .i64 p) (.int .i64 q) (.int .i64 r) (.slice ub0 blocks.length kb0)
    have ZF := hideP z4
    have BU := hideP bu
    clear z z4 bu
    go_wp2
    refine bodyPost_ret (results_cell_row rfl _ _ (w.heap.size + 1) 29 #[.slice us0 sizes.length ks0, .int .i64 p, .int .i64 q, .int .i64 r, .slice ub0 blocks.length kb0] (0, 0) _ rfl ZF.out Tryz.underlying29 rfl (by kernel_rfl)) rfl ?_
    rw [EN.out trivial]
    have hlt9 := hltP S0.out.bR
    exact ⟨_, rfl, GrKeeps.mono (GrKeeps.but S0.out.gr (by omega) BU.out) (by omega), S0.out.bel.trans (BU.out.below (by omega) (by omega))⟩
  | true =>
    have IN := hideP (fun W => l01In_yes 1 1 2 W (by omega) (by omega))
    go_wp2_with fail
    refine (IN.out _).mono ?_
    rintro e3 w3 ⟨rfl, hw3⟩
    obtain rfl : w3 = w2 := hw3
    clear IN EN
    have fc := (cells_of S0.out.bO).1
    have d0 := fc 0
    have d1 := fc 1
    have d2 := fc 2
    have d3 := fc 3
    have d4 := fc 4
    simp at d0 d1 d2 d3 d4
    clear fc
    have df := (cells_of S0.out.bO).2
    have BB := hideP (Below.refl w3.heap.size w3)
    go_wp2_with fail
    refine (C1.out _ _ _ S0.out.gr).mono ?_
    rintro ea1 wa1 ⟨va1, rfl, ga1, ba1⟩
    obtain ⟨us1, ks1, ub1, kb1, rfl, _⟩ := id ga1
    have GA1 := hideP ga1
    have BA1 := hideP ba1
    clear ga1 ba1
    have S8 := hideP (S0.out.stays (below_trans BB.out BA1.out))
    clear d0 d1 d2 d3 d4 df
    have fc := (cells_of S8.out.bO).1
    have d0 := fc 0
    have d1 := fc 1
    have d2 := fc 2
    have d3 := fc 3
    have d4 := fc 4
    simp at d0 d1 d2 d3 d4
    clear fc
    have df := (cells_of S8.out.bO).2
    obtain ⟨z4, bu⟩ := put5n S8.out.bO rfl (.slice us1 Y1.sizes.length ks1) (.int .i64 Y1.params) (.int .i64 Y1.vars) (.int .i64 Y1.slots) (.slice ub1 Y1.blocks.length kb1)
    go_upto_region 5 with fail
    obtain ⟨X0, hX0⟩ : ∃ X, (((((wa1.setCell ⟨ob, 0, none⟩ (.slice us1 Y1.sizes.length ks1)).setCell ⟨ob, 1, none⟩ (.int .i64 Y1.params)).setCell ⟨ob, 2, none⟩ (.int .i64 Y1.vars)).setCell ⟨ob, 3, none⟩ (.int .i64 Y1.slots)).setCell ⟨ob, 4, none⟩ (.slice ub1 Y1.blocks.length kb1)) = X := ⟨_, rfl⟩
    rw [hX0] at z4 bu ⊢
    have T0 : Hid (OsAt w ob #[.slice us1 Y1.sizes.length ks1, .int .i64 Y1.params, .int .i64 Y1.vars, .int .i64 Y1.slots, .slice ub1 Y1.blocks.length kb1] Y1 X0) := S0.out.told hlow BB.out BA1.out GA1.out bu z4
    clear hX0 z4 bu S8 BB d0 d1 d2 d3 d4 df
    have fc := (cells_of T0.out.bO).1
    have d0 := fc 0
    have d1 := fc 1
    have d2 := fc 2
    have d3 := fc 3
    have d4 := fc 4
    simp at d0 d1 d2 d3 d4
    clear fc
    have df := (cells_of T0.out.bO).2
    have BB := hideP (Below.refl X0.heap.size X0)
    go_wp2_with fail
    refine (C2.out _ _ _ T0.out.gr).mono ?_
    rintro ea2 wa2 ⟨va2, rfl, ga2, ba2⟩
    obtain ⟨us2, ks2, ub2, kb2, rfl, _⟩ := id ga2
    have GA2 := hideP ga2
    have BA2 := hideP ba2
    replace BB := hideP (below_trans BB.out ba2)
    clear ga2 ba2
    go_wp2_with fail
    refine (C3.out _ _ _ GA2.out).mono ?_
    rintro ea3 wa3 ⟨va3, rfl, ga3, ba3⟩
    obtain ⟨us3, ks3, ub3, kb3, rfl, _⟩ := id ga3
    have GA3 := hideP ga3
    have BA3 := hideP ba3
    clear ga3 ba3
    have S8 := hideP (T0.out.stays (below_trans BB.out BA3.out))
    clear d0 d1 d2 d3 d4 df
    have fc := (cells_of S8.out.bO).1
    have d0 := fc 0
    have d1 := fc 1
    have d2 := fc 2
    have d3 := fc 3
    have d4 := fc 4
    simp at d0 d1 d2 d3 d4
    clear fc
    have df := (cells_of S8.out.bO).2
    obtain ⟨z4, bu⟩ := put5n S8.out.bO rfl (.slice us3 Y3.sizes.length ks3) (.int .i64 Y3.params) (.int .i64 Y3.vars) (.int .i64 Y3.slots) (.slice ub3 Y3.blocks.length kb3)
    go_upto_region 8 with fail
    obtain ⟨X1, hX1⟩ : ∃ X, (((((wa3.setCell ⟨ob, 0, none⟩ (.slice us3 Y3.sizes.length ks3)).setCell ⟨ob, 1, none⟩ (.int .i64 Y3.params)).setCell ⟨ob, 2, none⟩ (.int .i64 Y3.vars)).setCell ⟨ob, 3, none⟩ (.int .i64 Y3.slots)).setCell ⟨ob, 4, none⟩ (.slice ub3 Y3.blocks.length kb3)) = X := ⟨_, rfl⟩
    rw [hX1] at z4 bu ⊢
    have T1 : Hid (OsAt w ob #[.slice us3 Y3.sizes.length ks3, .int .i64 Y3.params, .int .i64 Y3.vars, .int .i64 Y3.slots, .slice ub3 Y3.blocks.length kb3] Y3 X1) := T0.out.told hlow BB.out BA3.out GA3.out bu z4
    clear hX1 z4 bu S8 BB d0 d1 d2 d3 d4 df
    have z := T1.out.bR
    have fc := (cells_of T1.out.bO).1
    have d0 := fc 0
    have d1 := fc 1
    have d2 := fc 2
    have d3 := fc 3
    have d4 := fc 4
    simp at d0 d1 d2 d3 d4
    clear fc
    have fc := (cells_of z).1
    have r0 := fc 0
    have r1 := fc 1
    have r2 := fc 2
    have r3 := fc 3
    have r4 := fc 4
    simp at r0 r1 r2 r3 r4
    clear fc
    have rf := (cells_of z).2
    obtain ⟨z4, bu⟩ := put5n z rfl (.slice us3 Y3.sizes.length ks3) (.int .i64 Y3.params) (.int .i64 Y3.vars) (.int .i64 Y3.slots) (.slice ub3 Y3.blocks.length kb3)
    have ZF := hideP z4
    have BU := hideP bu
    clear z z4 bu
    go_wp2
    refine bodyPost_ret (results_cell_row rfl _ _ (w.heap.size + 1) 29 #[.slice us3 Y3.sizes.length ks3, .int .i64 Y3.params, .int .i64 Y3.vars, .int .i64 Y3.slots, .slice ub3 Y3.blocks.length kb3] (0, 0) _ rfl ZF.out Tryz.underlying29 rfl (by kernel_rfl)) rfl ?_
    have hlt9 := hltP T1.out.bR
    exact ⟨_, rfl, GrKeeps.mono (GrKeeps.but T1.out.gr (by omega) BU.out) (by omega), T1.out.bel.trans (BU.out.below (by omega) (by omega))⟩
set_option maxRecDepth 100000 in
set_option maxHeartbeats 8000000 in
theorem spec_opt2 (x : Gr) (w : World) (B : Nat) (v : Array Value) (h : GrIs w B v x) (hz : x.sz ≤ 1048576) :
    Calls Tryz.prog 5 #[.agg v, .int .i64 2] w fun en w' => SpGr9 w (trimP (opt1 (dsP (fwdP (foldP x))))) en w' := by
  obtain ⟨y, hy⟩ : ∃ y, grOk x = y := ⟨_, rfl⟩
  have HY := hideP hy
  have CY : Hid (∀ W, Below w.heap.size w W → Calls Tryz.prog 14 #[.agg v] W fun en w' => en = .returned (.bool y) ∧ Below W.heap.size W w') := fun W hW => by rw [← hy]; exact okS hz W B v (GrKeeps.stays h hW)
  have CC : Hid (∀ W, Below w.heap.size w W → Calls Tryz.prog 13 #[.agg v] W fun en w' => ∃ v', en = .returned (.agg v') ∧ GrIs w' W.heap.size v' x ∧ Below W.heap.size W w') := fun W hW => by
    refine (spec_copyD x W B v (GrKeeps.stays h hW) (fits_of hz)).mono ?_
    rintro en w' ⟨v', h1, h2, h3, _⟩
    exact ⟨v', h1, h2, h3⟩
  have hz0 := hz
  obtain ⟨Y1, hY1⟩ : ∃ Y1, foldP x = Y1 := ⟨_, rfl⟩
  have C1 : Hid (∀ W B v, GrIs W B v x → Calls Tryz.prog 16 #[.agg v] W fun en w' => ∃ v', en = .returned (.agg v') ∧ GrIs w' W.heap.size v' Y1 ∧ Below W.heap.size W w') := fun W B v hW => by rw [← hY1]; exact passFoldS x W B v hW hz0
  have hz1 : Y1.sz ≤ 1048576 := by have := foldP_sz x; rw [hY1] at this; omega
  obtain ⟨Y2, hY2⟩ : ∃ Y2, fwdP Y1 = Y2 := ⟨_, rfl⟩
  have C2 : Hid (∀ W B v, GrIs W B v Y1 → Calls Tryz.prog 18 #[.agg v] W fun en w' => ∃ v', en = .returned (.agg v') ∧ GrIs w' W.heap.size v' Y2 ∧ Below W.heap.size W w') := fun W B v hW => by rw [← hY2]; exact passForwardS Y1 W B v hW hz1
  have hz2 : Y2.sz ≤ 1048576 := by have := fwdP_sz Y1; rw [hY2] at this; omega
  obtain ⟨Y3, hY3⟩ : ∃ Y3, dsP Y2 = Y3 := ⟨_, rfl⟩
  have C3 : Hid (∀ W B v, GrIs W B v Y2 → Calls Tryz.prog 17 #[.agg v] W fun en w' => ∃ v', en = .returned (.agg v') ∧ GrIs w' W.heap.size v' Y3 ∧ Below W.heap.size W w') := fun W B v hW => by rw [← hY3]; exact passDeadS Y2 W B v hW hz2
  have hz3 : Y3.sz ≤ 1048576 := by have := dsP_sz Y2; rw [hY3] at this; omega
  obtain ⟨Y4, hY4⟩ : ∃ Y4, foldP Y3 = Y4 := ⟨_, rfl⟩
  have C4 : Hid (∀ W B v, GrIs W B v Y3 → Calls Tryz.prog 16 #[.agg v] W fun en w' => ∃ v', en = .returned (.agg v') ∧ GrIs w' W.heap.size v' Y4 ∧ Below W.heap.size W w') := fun W B v hW => by rw [← hY4]; exact passFoldS Y3 W B v hW hz3
  have hz4 : Y4.sz ≤ 1048576 := by have := foldP_sz Y3; rw [hY4] at this; omega
  obtain ⟨Y5, hY5⟩ : ∃ Y5, copP Y4 = Y5 := ⟨_, rfl⟩
  have C5 : Hid (∀ W B v, GrIs W B v Y4 → Calls Tryz.prog 20 #[.agg v] W fun en w' => ∃ v', en = .returned (.agg v') ∧ GrIs w' W.heap.size v' Y5 ∧ Below W.heap.size W w') := fun W B v hW => by rw [← hY5]; exact passCopiesS Y4 W B v hW hz4
  have hz5 : Y5.sz ≤ 1048576 := by have := copP_sz Y4; rw [hY5] at this; omega
  obtain ⟨Y6, hY6⟩ : ∃ Y6, clP Y5 = Y6 := ⟨_, rfl⟩
  have C6 : Hid (∀ W B v, GrIs W B v Y5 → Calls Tryz.prog 19 #[.agg v] W fun en w' => ∃ v', en = .returned (.agg v') ∧ GrIs w' W.heap.size v' Y6 ∧ Below W.heap.size W w') := fun W B v hW => by rw [← hY6]; exact passCleanS Y5 W B v hW hz5
  have hz6 : Y6.sz ≤ 1048576 := by have := clP_sz Y5; rw [hY6] at this; omega
  obtain ⟨Y7, hY7⟩ : ∃ Y7, trimP Y6 = Y7 := ⟨_, rfl⟩
  have C7 : Hid (∀ W B v, GrIs W B v Y6 → Calls Tryz.prog 21 #[.agg v] W fun en w' => ∃ v', en = .returned (.agg v') ∧ GrIs w' W.heap.size v' Y7 ∧ Below W.heap.size W w') := fun W B v hW => by rw [← hY7]; exact passTrimS Y6 W B v hW hz6
  have EQ : Hid (trimP (opt1 (dsP (fwdP (foldP x)))) = Y7) := by show _ = _; unfold opt1; rw [← hY7]; rw [← hY6]; rw [← hY5]; rw [← hY4]; rw [← hY3]; rw [← hY2]; rw [← hY1]
  have EN : Hid (y = false → Y7 = x) := fun hf => by
    have hn : ¬ grOk x = true := by rw [HY.out, hf]; simp
    rw [← EQ.out, foldP_no hn, fwdP_no hn, dsP_no hn, opt1_no hn, trimP_no hn]
  rw [EQ.out]
  clear EQ hY1 hY2 hY3 hY4 hY5 hY6 hY7
  clear hy hz hz0
  clear hz1
  clear hz2
  clear hz3
  clear hz4
  clear hz5
  clear hz6
  have HG := hideP h
  obtain ⟨us, cs, ub, cb, rfl, _⟩ := h
  obtain ⟨sizes, p, q, r, blocks⟩ := x
  simp only at HG CY CC ⊢
  have AL := hideP (below2 w (.cells #[.slice us sizes.length cs, .int .i64 p, .int .i64 q, .int .i64 r, .slice ub blocks.length cb] 29) (.cells #[.slice none 0 0, .int .i64 0, .int .i64 0, .int .i64 0, .slice none 0 0] 29))
  have TW := hideP (fun w1 => two (w := w) (w1 := w1) (o1 := .cells #[.slice us sizes.length cs, .int .i64 p, .int .i64 q, .int .i64 r, .slice ub blocks.length cb] 29) (o2 := .cells #[.slice none 0 0, .int .i64 0, .int .i64 0, .int .i64 0, .slice none 0 0] 29))
  have HZ2 : Hid (((w.alloc (.cells #[.slice us sizes.length cs, .int .i64 p, .int .i64 q, .int .i64 r, .slice ub blocks.length cb] 29)).alloc (.cells #[.slice none 0 0, .int .i64 0, .int .i64 0, .int .i64 0, .slice none 0 0] 29)).heap.size = w.heap.size + 2) := by show _ = _; simp
  go_enter Tryz.func5, Tryz.ntmps5
  go_wp2_with fail
  refine (CC.out _ AL.out).mono ?_
  rintro e0 w1 ⟨v1, rfl, gi, bel1⟩
  obtain ⟨P1, RR, L1, hw⟩ := TW.out w1 bel1
  rw [HZ2.out] at gi
  have hlow : w.heap.size + 2 ≤ w1.heap.size := by have := bel1.size; rw [HZ2.out] at this; exact this
  obtain ⟨us0, ks0, ub0, kb0, rfl, _⟩ := id gi
  simp only at gi ⊢
  have al2 := (Below.refl w1.heap.size w1).alloc (Nat.le_refl _) (.cells #[.slice us0 sizes.length ks0, .int .i64 p, .int .i64 q, .int .i64 r, .slice ub0 blocks.length kb0] 29)
  have S0 : Hid (OsAt w w1.heap.size #[.slice us0 sizes.length ks0, .int .i64 p, .int .i64 q, .int .i64 r, .slice ub0 blocks.length kb0] ⟨sizes, p, q, r, blocks⟩ (w1.alloc (.cells #[.slice us0 sizes.length ks0, .int .i64 p, .int .i64 q, .int .i64 r, .slice ub0 blocks.length kb0] 29))) := ⟨(al2.block _ (hltP RR)).trans RR, newB1 w1 _, GrKeeps.stays gi al2, below_trans hw al2⟩
  have BP := hideP ((al2.block _ (hltP P1)).trans P1)
  clear bel1 P1 RR hw TW AL CC al2 gi HZ2 L1
  go_upto_region 2 with fail
  obtain ⟨ob, hob⟩ : ∃ ob, w1.heap.size = ob := ⟨_, rfl⟩
  obtain ⟨W0, hW0⟩ : ∃ W0, w1.alloc (.cells #[.slice us0 sizes.length ks0, .int .i64 p, .int .i64 q, .int .i64 r, .slice ub0 blocks.length kb0] 29) = W0 := ⟨_, rfl⟩
  rw [hW0] at S0 BP ⊢
  rw [hob] at S0 hlow ⊢
  clear hW0 hob
  have fc := (cells_of BP.out).1
  have c0 := fc 0
  have c1 := fc 1
  have c2 := fc 2
  have c3 := fc 3
  have c4 := fc 4
  simp at c0 c1 c2 c3 c4
  clear fc
  go_wp2_with fail
  refine (CY.out _ S0.out.bel).mono ?_
  rintro e2 w2 ⟨rfl, bel2⟩
  replace S0 := hideP (S0.out.stays bel2)
  clear CY c0 c1 c2 c3 c4 bel2 BP
  cases y with
  | false =>
    have z := S0.out.bR
    have fc := (cells_of S0.out.bO).1
    have d0 := fc 0
    have d1 := fc 1
    have d2 := fc 2
    have d3 := fc 3
    have d4 := fc 4
    simp at d0 d1 d2 d3 d4
    clear fc
    have fc := (cells_of z).1
    have r0 := fc 0
    have r1 := fc 1
    have r2 := fc 2
    have r3 := fc 3
    have r4 := fc 4
    simp at r0 r1 r2 r3 r4
    clear fc
    have rf := (cells_of z).2
    obtain ⟨z4, bu⟩ := put5n z rfl (.slice us0 sizes.length ks0) (.int .i64 p) (.int .i64 q) (.int .i64 r) (.slice ub0 blocks.length kb0)
    have ZF := hideP z4
    have BU := hideP bu
    clear z z4 bu
    go_wp2
    refine bodyPost_ret (results_cell_row rfl _ _ (w.heap.size + 1) 29 #[.slice us0 sizes.length ks0, .int .i64 p, .int .i64 q, .int .i64 r, .slice ub0 blocks.length kb0] (0, 0) _ rfl ZF.out Tryz.underlying29 rfl (by kernel_rfl)) rfl ?_
    rw [EN.out trivial]
    have hlt9 := hltP S0.out.bR
    exact ⟨_, rfl, GrKeeps.mono (GrKeeps.but S0.out.gr (by omega) BU.out) (by omega), S0.out.bel.trans (BU.out.below (by omega) (by omega))⟩
  | true =>
    have IN := hideP (fun W => l01In_yes 2 1 2 W (by omega) (by omega))
    go_wp2_with fail
    refine (IN.out _).mono ?_
    rintro e3 w3 ⟨rfl, hw3⟩
    obtain rfl : w3 = w2 := hw3
    clear IN EN
    have fc := (cells_of S0.out.bO).1
    have d0 := fc 0
    have d1 := fc 1
    have d2 := fc 2
    have d3 := fc 3
    have d4 := fc 4
    simp at d0 d1 d2 d3 d4
    clear fc
    have df := (cells_of S0.out.bO).2
    have BB := hideP (Below.refl w3.heap.size w3)
    go_wp2_with fail
    refine (C1.out _ _ _ S0.out.gr).mono ?_
    rintro ea1 wa1 ⟨va1, rfl, ga1, ba1⟩
    obtain ⟨us1, ks1, ub1, kb1, rfl, _⟩ := id ga1
    have GA1 := hideP ga1
    have BA1 := hideP ba1
    clear ga1 ba1
    have S8 := hideP (S0.out.stays (below_trans BB.out BA1.out))
    clear d0 d1 d2 d3 d4 df
    have fc := (cells_of S8.out.bO).1
    have d0 := fc 0
    have d1 := fc 1
    have d2 := fc 2
    have d3 := fc 3
    have d4 := fc 4
    simp at d0 d1 d2 d3 d4
    clear fc
    have df := (cells_of S8.out.bO).2
    obtain ⟨z4, bu⟩ := put5n S8.out.bO rfl (.slice us1 Y1.sizes.length ks1) (.int .i64 Y1.params) (.int .i64 Y1.vars) (.int .i64 Y1.slots) (.slice ub1 Y1.blocks.length kb1)
    go_upto_region 5 with fail
    obtain ⟨X0, hX0⟩ : ∃ X, (((((wa1.setCell ⟨ob, 0, none⟩ (.slice us1 Y1.sizes.length ks1)).setCell ⟨ob, 1, none⟩ (.int .i64 Y1.params)).setCell ⟨ob, 2, none⟩ (.int .i64 Y1.vars)).setCell ⟨ob, 3, none⟩ (.int .i64 Y1.slots)).setCell ⟨ob, 4, none⟩ (.slice ub1 Y1.blocks.length kb1)) = X := ⟨_, rfl⟩
    rw [hX0] at z4 bu ⊢
    have T0 : Hid (OsAt w ob #[.slice us1 Y1.sizes.length ks1, .int .i64 Y1.params, .int .i64 Y1.vars, .int .i64 Y1.slots, .slice ub1 Y1.blocks.length kb1] Y1 X0) := S0.out.told hlow BB.out BA1.out GA1.out bu z4
    clear hX0 z4 bu S8 BB d0 d1 d2 d3 d4 df
    have fc := (cells_of T0.out.bO).1
    have d0 := fc 0
    have d1 := fc 1
    have d2 := fc 2
    have d3 := fc 3
    have d4 := fc 4
    simp at d0 d1 d2 d3 d4
    clear fc
    have df := (cells_of T0.out.bO).2
    have BB := hideP (Below.refl X0.heap.size X0)
    go_wp2_with fail
    refine (C2.out _ _ _ T0.out.gr).mono ?_
    rintro ea2 wa2 ⟨va2, rfl, ga2, ba2⟩
    obtain ⟨us2, ks2, ub2, kb2, rfl, _⟩ := id ga2
    have GA2 := hideP ga2
    have BA2 := hideP ba2
    replace BB := hideP (below_trans BB.out ba2)
    clear ga2 ba2
    go_wp2_with fail
    refine (C3.out _ _ _ GA2.out).mono ?_
    rintro ea3 wa3 ⟨va3, rfl, ga3, ba3⟩
    obtain ⟨us3, ks3, ub3, kb3, rfl, _⟩ := id ga3
    have GA3 := hideP ga3
    have BA3 := hideP ba3
    replace BB := hideP (below_trans BB.out ba3)
    clear ga3 ba3
    go_wp2_with fail
    refine (C4.out _ _ _ GA3.out).mono ?_
    rintro ea4 wa4 ⟨va4, rfl, ga4, ba4⟩
    obtain ⟨us4, ks4, ub4, kb4, rfl, _⟩ := id ga4
    have GA4 := hideP ga4
    have BA4 := hideP ba4
    clear ga4 ba4
    have S8 := hideP (T0.out.stays (below_trans BB.out BA4.out))
    clear d0 d1 d2 d3 d4 df
    have fc := (cells_of S8.out.bO).1
    have d0 := fc 0
    have d1 := fc 1
    have d2 := fc 2
    have d3 := fc 3
    have d4 := fc 4
    simp at d0 d1 d2 d3 d4
    clear fc
    have df := (cells_of S8.out.bO).2
    obtain ⟨z4, bu⟩ := put5n S8.out.bO rfl (.slice us4 Y4.sizes.length ks4) (.int .i64 Y4.params) (.int .i64 Y4.vars) (.int .i64 Y4.slots) (.slice ub4 Y4.blocks.length kb4)
    go_upto_region 7 with fail
    obtain ⟨X1, hX1⟩ : ∃ X, (((((wa4.setCell ⟨ob, 0, none⟩ (.slice us4 Y4.sizes.length ks4)).setCell ⟨ob, 1, none⟩ (.int .i64 Y4.params)).setCell ⟨ob, 2, none⟩ (.int .i64 Y4.vars)).setCell ⟨ob, 3, none⟩ (.int .i64 Y4.slots)).setCell ⟨ob, 4, none⟩ (.slice ub4 Y4.blocks.length kb4)) = X := ⟨_, rfl⟩
    rw [hX1] at z4 bu ⊢
    have T1 : Hid (OsAt w ob #[.slice us4 Y4.sizes.length ks4, .int .i64 Y4.params, .int .i64 Y4.vars, .int .i64 Y4.slots, .slice ub4 Y4.blocks.length kb4] Y4 X1) := T0.out.told hlow BB.out BA4.out GA4.out bu z4
    clear hX1 z4 bu S8 BB d0 d1 d2 d3 d4 df
    have fc := (cells_of T1.out.bO).1
    have d0 := fc 0
    have d1 := fc 1
    have d2 := fc 2
    have d3 := fc 3
    have d4 := fc 4
    simp at d0 d1 d2 d3 d4
    clear fc
    have df := (cells_of T1.out.bO).2
    have BB := hideP (Below.refl X1.heap.size X1)
    go_wp2_with fail
    refine (C5.out _ _ _ T1.out.gr).mono ?_
    rintro ea5 wa5 ⟨va5, rfl, ga5, ba5⟩
    obtain ⟨us5, ks5, ub5, kb5, rfl, _⟩ := id ga5
    have GA5 := hideP ga5
    have BA5 := hideP ba5
    replace BB := hideP (below_trans BB.out ba5)
    clear ga5 ba5
    go_wp2_with fail
    refine (C6.out _ _ _ GA5.out).mono ?_
    rintro ea6 wa6 ⟨va6, rfl, ga6, ba6⟩
    obtain ⟨us6, ks6, ub6, kb6, rfl, _⟩ := id ga6
    have GA6 := hideP ga6
    have BA6 := hideP ba6
    clear ga6 ba6
    have S8 := hideP (T1.out.stays (below_trans BB.out BA6.out))
    clear d0 d1 d2 d3 d4 df
    have fc := (cells_of S8.out.bO).1
    have d0 := fc 0
    have d1 := fc 1
    have d2 := fc 2
    have d3 := fc 3
    have d4 := fc 4
    simp at d0 d1 d2 d3 d4
    clear fc
    have df := (cells_of S8.out.bO).2
    obtain ⟨z4, bu⟩ := put5n S8.out.bO rfl (.slice us6 Y6.sizes.length ks6) (.int .i64 Y6.params) (.int .i64 Y6.vars) (.int .i64 Y6.slots) (.slice ub6 Y6.blocks.length kb6)
    go_upto_region 8 with fail
    obtain ⟨X2, hX2⟩ : ∃ X, (((((wa6.setCell ⟨ob, 0, none⟩ (.slice us6 Y6.sizes.length ks6)).setCell ⟨ob, 1, none⟩ (.int .i64 Y6.params)).setCell ⟨ob, 2, none⟩ (.int .i64 Y6.vars)).setCell ⟨ob, 3, none⟩ (.int .i64 Y6.slots)).setCell ⟨ob, 4, none⟩ (.slice ub6 Y6.blocks.length kb6)) = X := ⟨_, rfl⟩
    rw [hX2] at z4 bu ⊢
    have T2 : Hid (OsAt w ob #[.slice us6 Y6.sizes.length ks6, .int .i64 Y6.params, .int .i64 Y6.vars, .int .i64 Y6.slots, .slice ub6 Y6.blocks.length kb6] Y6 X2) := T1.out.told hlow BB.out BA6.out GA6.out bu z4
    clear hX2 z4 bu S8 BB d0 d1 d2 d3 d4 df
    have fc := (cells_of T2.out.bO).1
    have d0 := fc 0
    have d1 := fc 1
    have d2 := fc 2
    have d3 := fc 3
    have d4 := fc 4
    simp at d0 d1 d2 d3 d4
    clear fc
    have df := (cells_of T2.out.bO).2
    have BB := hideP (Below.refl X2.heap.size X2)
    go_wp2_with fail
    refine (C7.out _ _ _ T2.out.gr).mono ?_
    rintro ea7 wa7 ⟨va7, rfl, ga7, ba7⟩
    obtain ⟨us7, ks7, ub7, kb7, rfl, _⟩ := id ga7
    have GA7 := hideP ga7
    have BA7 := hideP ba7
    clear ga7 ba7
    have S8 := hideP (T2.out.stays (below_trans BB.out BA7.out))
    clear d0 d1 d2 d3 d4 df
    have fc := (cells_of S8.out.bO).1
    have d0 := fc 0
    have d1 := fc 1
    have d2 := fc 2
    have d3 := fc 3
    have d4 := fc 4
    simp at d0 d1 d2 d3 d4
    clear fc
    have df := (cells_of S8.out.bO).2
    obtain ⟨z4, bu⟩ := put5n S8.out.bO rfl (.slice us7 Y7.sizes.length ks7) (.int .i64 Y7.params) (.int .i64 Y7.vars) (.int .i64 Y7.slots) (.slice ub7 Y7.blocks.length kb7)
    go_upto_region 10 with fail
    obtain ⟨X3, hX3⟩ : ∃ X, (((((wa7.setCell ⟨ob, 0, none⟩ (.slice us7 Y7.sizes.length ks7)).setCell ⟨ob, 1, none⟩ (.int .i64 Y7.params)).setCell ⟨ob, 2, none⟩ (.int .i64 Y7.vars)).setCell ⟨ob, 3, none⟩ (.int .i64 Y7.slots)).setCell ⟨ob, 4, none⟩ (.slice ub7 Y7.blocks.length kb7)) = X := ⟨_, rfl⟩
    rw [hX3] at z4 bu ⊢
    have T3 : Hid (OsAt w ob #[.slice us7 Y7.sizes.length ks7, .int .i64 Y7.params, .int .i64 Y7.vars, .int .i64 Y7.slots, .slice ub7 Y7.blocks.length kb7] Y7 X3) := T2.out.told hlow BB.out BA7.out GA7.out bu z4
    clear hX3 z4 bu S8 BB d0 d1 d2 d3 d4 df
    have z := T3.out.bR
    have fc := (cells_of T3.out.bO).1
    have d0 := fc 0
    have d1 := fc 1
    have d2 := fc 2
    have d3 := fc 3
    have d4 := fc 4
    simp at d0 d1 d2 d3 d4
    clear fc
    have fc := (cells_of z).1
    have r0 := fc 0
    have r1 := fc 1
    have r2 := fc 2
    have r3 := fc 3
    have r4 := fc 4
    simp at r0 r1 r2 r3 r4
    clear fc
    have rf := (cells_of z).2
    obtain ⟨z4, bu⟩ := put5n z rfl (.slice us7 Y7.sizes.length ks7) (.int .i64 Y7.params) (.int .i64 Y7.vars) (.int .i64 Y7.slots) (.slice ub7 Y7.blocks.length kb7)
    have ZF := hideP z4
    have BU := hideP bu
    clear z z4 bu
    go_wp2
    refine bodyPost_ret (results_cell_row rfl _ _ (w.heap.size + 1) 29 #[.slice us7 Y7.sizes.length ks7, .int .i64 Y7.params, .int .i64 Y7.vars, .int .i64 Y7.slots, .slice ub7 Y7.blocks.length kb7] (0, 0) _ rfl ZF.out Tryz.underlying29 rfl (by kernel_rfl)) rfl ?_
    have hlt9 := hltP T3.out.bR
    exact ⟨_, rfl, GrKeeps.mono (GrKeeps.but T3.out.gr (by omega) BU.out) (by omega), T3.out.bel.trans (BU.out.below (by omega) (by omega))⟩
theorem l01In_no (l : Int) (w : World) (h : ¬ (1 ≤ l ∧ l ≤ 2)) :
    Calls Tryz.prog 15 #[.int .i64 l, .int .i64 1, .int .i64 2] w fun e w' => e = .returned (.bool false) ∧ w' = w := by
  refine (l01In_or l 1 2 w).mono ?_
  rintro e w' (⟨_, h1, h2, _⟩ | ⟨rfl, _, rfl⟩)
  · exact absurd ⟨h1, h2⟩ h
  · exact ⟨rfl, rfl⟩
set_option maxRecDepth 100000 in
set_option maxHeartbeats 8000000 in
theorem spec_opt0 (x : Gr) (l : Int) (w : World) (B : Nat) (v : Array Value) (h : GrIs w B v x) (hz : x.sz ≤ 1048576) (hl12 : ¬ (1 ≤ l ∧ l ≤ 2)) :
    Calls Tryz.prog 5 #[.agg v, .int .i64 l] w fun en w' => SpGr9 w (x) en w' := by
  obtain ⟨y, hy⟩ : ∃ y, grOk x = y := ⟨_, rfl⟩
  have HY := hideP hy
  have CY : Hid (∀ W, Below w.heap.size w W → Calls Tryz.prog 14 #[.agg v] W fun en w' => en = .returned (.bool y) ∧ Below W.heap.size W w') := fun W hW => by rw [← hy]; exact okS hz W B v (GrKeeps.stays h hW)
  have CC : Hid (∀ W, Below w.heap.size w W → Calls Tryz.prog 13 #[.agg v] W fun en w' => ∃ v', en = .returned (.agg v') ∧ GrIs w' W.heap.size v' x ∧ Below W.heap.size W w') := fun W hW => by
    refine (spec_copyD x W B v (GrKeeps.stays h hW) (fits_of hz)).mono ?_
    rintro en w' ⟨v', h1, h2, h3, _⟩
    exact ⟨v', h1, h2, h3⟩
  have hz0 := hz
  clear hy hz hz0
  have HG := hideP h
  obtain ⟨us, cs, ub, cb, rfl, _⟩ := h
  obtain ⟨sizes, p, q, r, blocks⟩ := x
  simp only at HG CY CC ⊢
  have AL := hideP (below2 w (.cells #[.slice us sizes.length cs, .int .i64 p, .int .i64 q, .int .i64 r, .slice ub blocks.length cb] 29) (.cells #[.slice none 0 0, .int .i64 0, .int .i64 0, .int .i64 0, .slice none 0 0] 29))
  have TW := hideP (fun w1 => two (w := w) (w1 := w1) (o1 := .cells #[.slice us sizes.length cs, .int .i64 p, .int .i64 q, .int .i64 r, .slice ub blocks.length cb] 29) (o2 := .cells #[.slice none 0 0, .int .i64 0, .int .i64 0, .int .i64 0, .slice none 0 0] 29))
  have HZ2 : Hid (((w.alloc (.cells #[.slice us sizes.length cs, .int .i64 p, .int .i64 q, .int .i64 r, .slice ub blocks.length cb] 29)).alloc (.cells #[.slice none 0 0, .int .i64 0, .int .i64 0, .int .i64 0, .slice none 0 0] 29)).heap.size = w.heap.size + 2) := by show _ = _; simp
  go_enter Tryz.func5, Tryz.ntmps5
  go_wp2_with fail
  refine (CC.out _ AL.out).mono ?_
  rintro e0 w1 ⟨v1, rfl, gi, bel1⟩
  obtain ⟨P1, RR, L1, hw⟩ := TW.out w1 bel1
  rw [HZ2.out] at gi
  have hlow : w.heap.size + 2 ≤ w1.heap.size := by have := bel1.size; rw [HZ2.out] at this; exact this
  obtain ⟨us0, ks0, ub0, kb0, rfl, _⟩ := id gi
  simp only at gi ⊢
  have al2 := (Below.refl w1.heap.size w1).alloc (Nat.le_refl _) (.cells #[.slice us0 sizes.length ks0, .int .i64 p, .int .i64 q, .int .i64 r, .slice ub0 blocks.length kb0] 29)
  have S0 : Hid (OsAt w w1.heap.size #[.slice us0 sizes.length ks0, .int .i64 p, .int .i64 q, .int .i64 r, .slice ub0 blocks.length kb0] ⟨sizes, p, q, r, blocks⟩ (w1.alloc (.cells #[.slice us0 sizes.length ks0, .int .i64 p, .int .i64 q, .int .i64 r, .slice ub0 blocks.length kb0] 29))) := ⟨(al2.block _ (hltP RR)).trans RR, newB1 w1 _, GrKeeps.stays gi al2, below_trans hw al2⟩
  have BP := hideP ((al2.block _ (hltP P1)).trans P1)
  clear bel1 P1 RR hw TW AL CC al2 gi HZ2 L1
  go_upto_region 2 with fail
  obtain ⟨ob, hob⟩ : ∃ ob, w1.heap.size = ob := ⟨_, rfl⟩
  obtain ⟨W0, hW0⟩ : ∃ W0, w1.alloc (.cells #[.slice us0 sizes.length ks0, .int .i64 p, .int .i64 q, .int .i64 r, .slice ub0 blocks.length kb0] 29) = W0 := ⟨_, rfl⟩
  rw [hW0] at S0 BP ⊢
  rw [hob] at S0 hlow ⊢
  clear hW0 hob
  have fc := (cells_of BP.out).1
  have c0 := fc 0
  have c1 := fc 1
  have c2 := fc 2
  have c3 := fc 3
  have c4 := fc 4
  simp at c0 c1 c2 c3 c4
  clear fc
  go_wp2_with fail
  refine (CY.out _ S0.out.bel).mono ?_
  rintro e2 w2 ⟨rfl, bel2⟩
  replace S0 := hideP (S0.out.stays bel2)
  clear CY c0 c1 c2 c3 c4 bel2 BP
  cases y with
  | false =>
    have z := S0.out.bR
    have fc := (cells_of S0.out.bO).1
    have d0 := fc 0
    have d1 := fc 1
    have d2 := fc 2
    have d3 := fc 3
    have d4 := fc 4
    simp at d0 d1 d2 d3 d4
    clear fc
    have fc := (cells_of z).1
    have r0 := fc 0
    have r1 := fc 1
    have r2 := fc 2
    have r3 := fc 3
    have r4 := fc 4
    simp at r0 r1 r2 r3 r4
    clear fc
    have rf := (cells_of z).2
    obtain ⟨z4, bu⟩ := put5n z rfl (.slice us0 sizes.length ks0) (.int .i64 p) (.int .i64 q) (.int .i64 r) (.slice ub0 blocks.length kb0)
    have ZF := hideP z4
    have BU := hideP bu
    clear z z4 bu
    go_wp2
    refine bodyPost_ret (results_cell_row rfl _ _ (w.heap.size + 1) 29 #[.slice us0 sizes.length ks0, .int .i64 p, .int .i64 q, .int .i64 r, .slice ub0 blocks.length kb0] (0, 0) _ rfl ZF.out Tryz.underlying29 rfl (by kernel_rfl)) rfl ?_
    have hlt9 := hltP S0.out.bR
    exact ⟨_, rfl, GrKeeps.mono (GrKeeps.but S0.out.gr (by omega) BU.out) (by omega), S0.out.bel.trans (BU.out.below (by omega) (by omega))⟩
  | true =>
    have IN := hideP (fun W => l01In_no l W hl12)
    go_wp2_with fail
    refine (IN.out _).mono ?_
    rintro e3 w3 ⟨rfl, rfl⟩
    have z := S0.out.bR
    have fc := (cells_of S0.out.bO).1
    have d0 := fc 0
    have d1 := fc 1
    have d2 := fc 2
    have d3 := fc 3
    have d4 := fc 4
    simp at d0 d1 d2 d3 d4
    clear fc
    have fc := (cells_of z).1
    have r0 := fc 0
    have r1 := fc 1
    have r2 := fc 2
    have r3 := fc 3
    have r4 := fc 4
    simp at r0 r1 r2 r3 r4
    clear fc
    have rf := (cells_of z).2
    obtain ⟨z4, bu⟩ := put5n z rfl (.slice us0 sizes.length ks0) (.int .i64 p) (.int .i64 q) (.int .i64 r) (.slice ub0 blocks.length kb0)
    have ZF := hideP z4
    have BU := hideP bu
    clear z z4 bu
    go_wp2
    refine bodyPost_ret (results_cell_row rfl _ _ (w.heap.size + 1) 29 #[.slice us0 sizes.length ks0, .int .i64 p, .int .i64 q, .int .i64 r, .slice ub0 blocks.length kb0] (0, 0) _ rfl ZF.out Tryz.underlying29 rfl (by kernel_rfl)) rfl ?_
    have hlt9 := hltP S0.out.bR
    exact ⟨_, rfl, GrKeeps.mono (GrKeeps.but S0.out.gr (by omega) BU.out) (by omega), S0.out.bel.trans (BU.out.below (by omega) (by omega))⟩
theorem spec_optimize (x : Gr) (l : Int) (w : World) (B : Nat) (v : Array Value) (h : GrIs w B v x) (hz : x.sz ≤ 1048576) :
    Calls Tryz.prog 5 #[.agg v, .int .i64 l] w fun en w' => ∃ v', en = .returned (.agg v') ∧ GrIs w' w.heap.size v' (optP x l) ∧ Below w.heap.size w w' := by
  unfold optP
  by_cases h1 : l = 1
  · rw [if_pos h1]
    subst h1
    exact spec_opt1 x w B v h hz
  · rw [if_neg h1]
    by_cases h2 : l = 2
    · rw [if_pos h2]
      subst h2
      exact spec_opt2 x w B v h hz
    · rw [if_neg h2]
      exact spec_opt0 x l w B v h hz (by omega)
end Go.Proofs.YtelkpikbjfkpcaaGreat
