/- The contract of spec.Twice (written by wip/mktwsc.py). -/
import Derived.Test.YtjmclmbepnbeoaaSfG
import Derived.Test.YtjmclmbepnbeoaaTwcSB
import Derived.Test.YtjmclmbepnbeoaaPut5
import Derived.Test.YtjmclmbepnbeoaaShD
import Derived.Test.YtjmclmbepnbeoaaCpyB
import Derived.Test.YtjmclmbepnbeoaaTwcQ
import Derived.Deep.RegionHeld3
import Derived.Deep.LoopGhost
namespace Go.Proofs.Ytjmclmbepnbeoaa
open Go.ChangeShapes Go.WideShapes Go.ChangeAt Go.RowKit
theorem ok_len {g : Gr} (h : grOk g = true) : g.blocks.length ≤ 300 ∧ ∀ b ∈ g.blocks, b.code.length ≤ 1000 := by
  simp only [grOk, frOk, Bool.and_eq_true, decide_eq_true_eq] at h
  refine ⟨by omega, fun b hb => ?_⟩
  have : b.code.length ≤ (codeAll g.blocks).length := by
    unfold codeAll
    obtain ⟨l1, l2, e⟩ := List.append_of_mem hb
    rw [e, List.flatMap_append, List.flatMap_cons, List.length_append, List.length_append]
    omega
  omega
theorem twUp_len (code : List Ins) : (twUp code).2.length = code.length := scanUp_len _ (Nat.le_refl _)
set_option maxRecDepth 100000 in
set_option maxHeartbeats 8000000 in
theorem spec_twice0 (x : Gr) (w : World) (B : Nat) (v : Array Value) (h : GrIs w B v x) (GO : OkIs 26 x) (hf : Fits x) :
    Calls Try.prog 21 #[.agg v] w fun en w' => SpGrF w (twP x) en w' := by
  have HG0 := hideP h
  have HGO := hideP GO
  obtain ⟨y, hy⟩ : ∃ y, grOk x = y := ⟨_, rfl⟩
  have HY := hideP hy
  have CY : Hid (∀ W, Below w.heap.size w W → Calls Try.prog 26 #[.agg v] W fun en w' => en = .returned (.bool y) ∧ Below W.heap.size W w') := fun W hW => by rw [← hy]; exact GO W B v (GrKeeps.stays h hW)
  have CC : Hid (∀ W, Below w.heap.size w W → Calls Try.prog 25 #[.agg v] W fun en w' => ∃ v', en = .returned (.agg v') ∧ GrIs w' W.heap.size v' x ∧ Below W.heap.size W w' ∧ CpGr W.heap.size x v' w') := fun W hW => spec_copyX x W B v (GrKeeps.stays h hW) hf
  obtain ⟨X, hX⟩ : ∃ X, twP x = X := ⟨_, rfl⟩
  have HX := hideP hX
  rw [hX]
  clear hy hX GO hf
  obtain ⟨sizes, p, q, r, blocks⟩ := x
  obtain ⟨us, cs, ub, cb, rfl, _, _, hbb⟩ := h
  simp only at *
  have hbm := hbb.1
  have hbm2 : blocks.length ≤ 9223372036854775807 := hbm
  have HBB := hideP hbb
  have AL := hideP (below2 w (.cells #[.slice us sizes.length cs, .int .i64 p, .int .i64 q, .int .i64 r, .slice ub blocks.length cb] 29) (.cells #[.slice none 0 0, .int .i64 0, .int .i64 0, .int .i64 0, .slice none 0 0] 29))
  have TW := hideP (fun w1 => two (w := w) (w1 := w1) (o1 := .cells #[.slice us sizes.length cs, .int .i64 p, .int .i64 q, .int .i64 r, .slice ub blocks.length cb] 29) (o2 := .cells #[.slice none 0 0, .int .i64 0, .int .i64 0, .int .i64 0, .slice none 0 0] 29))
  have HZ2 : Hid (((w.alloc (.cells #[.slice us sizes.length cs, .int .i64 p, .int .i64 q, .int .i64 r, .slice ub blocks.length cb] 29)).alloc (.cells #[.slice none 0 0, .int .i64 0, .int .i64 0, .int .i64 0, .slice none 0 0] 29)).heap.size = w.heap.size + 2) := by show _ = _; simp
  clear hbb
  go_enter Try.func21, Try.ntmps21
  go_wp2_with fail
  refine (CC.out _ AL.out).mono ?_
  rintro e1 w1 ⟨v1, rfl, _, bel1, sa, kS, gq, cq, rows1, rfl, cp1⟩
  obtain ⟨P1, RR, L1, hw⟩ := TW.out w1 bel1
  rw [HZ2.out] at cp1
  simp only at cp1 ⊢
  have al2 := (Below.refl w1.heap.size w1).alloc (Nat.le_refl _) (.cells #[.slice sa sizes.length kS, .int .i64 p, .int .i64 q, .int .i64 r, .slice (some ⟨gq, 0, none⟩) blocks.length cq] 29)
  have LO : Hid (w.heap.size + 2 ≤ gq ∧ gq < w1.heap.size) := cp1.own.low gq rfl
  have I0 : Hid (SfAt w w1.heap.size #[.slice us sizes.length cs, .int .i64 p, .int .i64 q, .int .i64 r, .slice ub blocks.length cb] #[.slice none 0 0, .int .i64 0, .int .i64 0, .int .i64 0, .slice none 0 0] #[.slice sa sizes.length kS, .int .i64 p, .int .i64 q, .int .i64 r, .slice (some ⟨gq, 0, none⟩) blocks.length cq] ⟨sizes, p, q, r, blocks⟩ sa kS gq cq (w1.alloc (.cells #[.slice sa sizes.length kS, .int .i64 p, .int .i64 q, .int .i64 r, .slice (some ⟨gq, 0, none⟩) blocks.length cq] 29))) := ⟨⟨rows1, cp1.stays al2⟩, (al2.block _ (hltP P1)).trans P1, (al2.block _ (hltP RR)).trans RR, blk_newG w1 _, below_trans hw al2⟩
  clear bel1 P1 RR hw TW AL CC al2 cp1 HZ2 L1
  go_upto_region 2 with fail
  obtain ⟨Wb, hWb⟩ : ∃ Wb, w1.alloc (.cells #[.slice sa sizes.length kS, .int .i64 p, .int .i64 q, .int .i64 r, .slice (some ⟨gq, 0, none⟩) blocks.length cq] 29) = Wb := ⟨_, rfl⟩
  rw [hWb] at I0 ⊢
  clear hWb
  cases y with
  | false =>
    have E : Hid (X = ⟨sizes, p, q, r, blocks⟩) := by show _ = _; rw [← HX.out]; exact twP_no (by rw [HY.out]; simp)
    obtain ⟨NB, hNB⟩ : ∃ NB, blocks.length = NB := ⟨_, rfl⟩
    have HNB := hideP hNB
    rw [hNB] at I0 CY ⊢
    rw [hNB] at hbm2
    clear hNB
    go_wp2
    go_loopg [4] 1 (fun gk ix wr => gk = 1 ∧ ix = .int .i64 0 ∧ Hid (SfAt w w1.heap.size #[.slice us sizes.length cs, .int .i64 p, .int .i64 q, .int .i64 r, .slice ub NB cb] #[.slice none 0 0, .int .i64 0, .int .i64 0, .int .i64 0, .slice none 0 0] #[.slice sa sizes.length kS, .int .i64 p, .int .i64 q, .int .i64 r, .slice (some ⟨gq, 0, none⟩) NB cq] ⟨sizes, p, q, r, blocks⟩ sa kS gq cq wr))
    case atStart => exact ⟨rfl, rfl, I0.out⟩
    case round =>
      obtain ⟨rfl, rfl, hI⟩ := hrel
      clear I0
      have fc := (cells_of hI.out.bP).1
      have c0 := fc 0
      have c1 := fc 1
      have c2 := fc 2
      have c3 := fc 3
      have c4 := fc 4
      simp at c0 c1 c2 c3 c4
      clear fc
      by_cases hz : 0 < NB
      · have hzi : (0 : Int) < (NB : Int) := by omega
        go_wp2_with fail
        refine (CY.out _ hI.out.bel).mono ?_
        rintro e2 w2 ⟨rfl, bel2⟩
        have I2 := hideP (hI.out.stays bel2)
        clear CY c0 c1 c2 c3 c4 hI bel2
        have z := I2.out.bR
        have fc := (cells_of I2.out.bO).1
        have d0 := fc 0
        have d1 := fc 1
        have d2 := fc 2
        have d3 := fc 3
        have d4 := fc 4
        simp at d0 d1 d2 d3 d4
        clear fc
        have fc := (cells_of z).1
        have r0 := fc 0
        have r1 := fc 1
        have r2 := fc 2
        have r3 := fc 3
        have r4 := fc 4
        simp at r0 r1 r2 r3 r4
        clear fc
        have rf := (cells_of z).2
        obtain ⟨z4, bu⟩ := put5n z rfl (.slice sa sizes.length kS) (.int .i64 p) (.int .i64 q) (.int .i64 r) (.slice (some ⟨gq, 0, none⟩) NB cq)
        have ZF := hideP z4
        have BU := hideP bu
        clear z z4 bu
        go_wp2
        refine bodyPost_ret (results_cell_row rfl _ _ (w.heap.size + 1) 29 #[.slice sa sizes.length kS, .int .i64 p, .int .i64 q, .int .i64 r, .slice (some ⟨gq, 0, none⟩) NB cq] (0, 0) _ rfl ZF.out Try.underlying29 rfl (by kernel_rfl)) rfl ?_
        rw [E.out]
        have hlt9 := hltP I2.out.bR
        obtain ⟨rows9, hr9⟩ := I2.out.cp
        have gr9 := hr9.gr hbm
        simp only [HNB.out] at gr9
        exact ⟨_, rfl, GrKeeps.mono (GrKeeps.but gr9 (by omega) BU.out) (by omega), I2.out.bel.trans (BU.out.below (by omega) (by omega))⟩
      · obtain rfl : NB = 0 := by omega
        clear hz CY
        have z := hI.out.bR
        have fc := (cells_of hI.out.bO).1
        have d0 := fc 0
        have d1 := fc 1
        have d2 := fc 2
        have d3 := fc 3
        have d4 := fc 4
        simp at d0 d1 d2 d3 d4
        clear fc
        have fc := (cells_of z).1
        have r0 := fc 0
        have r1 := fc 1
        have r2 := fc 2
        have r3 := fc 3
        have r4 := fc 4
        simp at r0 r1 r2 r3 r4
        clear fc
        have rf := (cells_of z).2
        obtain ⟨z4, bu⟩ := put5n z rfl (.slice sa sizes.length kS) (.int .i64 p) (.int .i64 q) (.int .i64 r) (.slice (some ⟨gq, 0, none⟩) 0 cq)
        have ZF := hideP z4
        have BU := hideP bu
        clear z z4 bu
        go_wp2
        refine bodyPost_ret (results_cell_row rfl _ _ (w.heap.size + 1) 29 #[.slice sa sizes.length kS, .int .i64 p, .int .i64 q, .int .i64 r, .slice (some ⟨gq, 0, none⟩) 0 cq] (0, 0) _ rfl ZF.out Try.underlying29 rfl (by kernel_rfl)) rfl ?_
        rw [E.out]
        have hlt9 := hltP hI.out.bR
        obtain ⟨rows9, hr9⟩ := hI.out.cp
        have gr9 := hr9.gr hbm
        simp only [HNB.out] at gr9
        exact ⟨_, rfl, GrKeeps.mono (GrKeeps.but gr9 (by omega) BU.out) (by omega), hI.out.bel.trans (BU.out.below (by omega) (by omega))⟩
  | true =>
    have hok : Hid (grOk ⟨sizes, p, q, r, blocks⟩ = true) := HY.out
    have hbl : blocks.length ≤ 300 := (ok_len hok.out).1
    have E : Hid (X = ⟨sizes, p, q, r, blocks.map twB⟩) := by show _ = _; rw [← HX.out]; exact twP_ok hok.out
    have HAS : Hid (∀ j (hj : j < blocks.length), (blocks[j]).code.length ≤ 1000) := fun j hj => (ok_len hok.out).2 _ (List.getElem_mem hj)
    clear HX HY
    go_wp2
    go_loopg [4] blocks.length (fun gk ix wr => ∃ j : Nat, gk + j = blocks.length ∧ ix = .int .i64 j ∧ Hid (SfAt w w1.heap.size #[.slice us sizes.length cs, .int .i64 p, .int .i64 q, .int .i64 r, .slice ub blocks.length cb] #[.slice none 0 0, .int .i64 0, .int .i64 0, .int .i64 0, .slice none 0 0] #[.slice sa sizes.length kS, .int .i64 p, .int .i64 q, .int .i64 r, .slice (some ⟨gq, 0, none⟩) blocks.length cq] ⟨sizes, p, q, r, midH twB blocks j⟩ sa kS gq cq wr))
    case atStart => exact ⟨0, by simp, rfl, I0.out⟩
    case round =>
      obtain ⟨j, hj, rfl, hI⟩ := hrel
      clear I0
      have fc := (cells_of hI.out.bP).1
      have c0 := fc 0
      have c1 := fc 1
      have c2 := fc 2
      have c3 := fc 3
      have c4 := fc 4
      simp at c0 c1 c2 c3 c4
      clear fc
      by_cases hlt : j < blocks.length
      · go_wp2_with fail
        refine (CY.out _ hI.out.bel).mono ?_
        rintro e2 w2 ⟨rfl, bel2⟩
        have I2 := hideP (hI.out.stays bel2)
        clear c0 c1 c2 c3 c4 hI bel2
        obtain ⟨bb, oo, uc, kc, rfl, hbbw, hcell, hcode⟩ := code_of HBB.out j hlt
        have hcl := HAS.out j hlt
        obtain ⟨BK, hBK⟩ : ∃ BK, blocks[j] = BK := ⟨_, rfl⟩
        have HBK := hideP hBK
        rw [hBK] at hcell hcode hcl
        obtain ⟨code, jump, a, t0, els⟩ := BK
        simp only at hcell hcode hcl
        have hw := ins_all hcode
        have HWF := hideP hw
        have HC := hideP hcode
        obtain ⟨dc, hdc⟩ : ∃ dc, (twUp code).2 = dc := ⟨_, rfl⟩
        have hdl : dc.length = code.length := by rw [← hdc]; exact twUp_len code
        have HDL := hideP hdl
        have HWD : Hid (dc.length ≤ maxLen ∧ ∀ z ∈ dc, z.wf ∧ z.t.size ≤ maxLen) := ⟨by unfold maxLen; omega, fun z hz => by
          rw [← hdc] at hz
          exact twUp_wf hw z hz⟩
        have BL : Hid (∀ W, Below w2.heap.size w2 W → Calls Try.prog 51 #[.slice uc code.length kc] W fun en w' => ∃ gn kn, en = .returned (.slice (some ⟨gn, 0, none⟩) code.length kn) ∧ w2.heap.size ≤ gn ∧ SlIs InsIs 7 w' (w.heap.size + 2) (some ⟨gn, 0, none⟩) dc ∧ Below w2.heap.size w2 w') := fun W hW => by
          refine (block11_any code W B uc kc (HC.out.stays InsKeeps (below_trans I2.out.bel hW)) hcl).mono ?_
          rintro en w' ⟨v', he, ho', hb'⟩
          rw [hdc] at ho'
          obtain ⟨gn, kn, hv', _⟩ := id ho'
          rw [hdl] at hv'
          subst hv'
          have hlow := (ho'.low gn rfl).1
          have hsz := hW.size
          have hwz := hltP I2.out.bR
          exact ⟨gn, kn, he, by omega, (ho'.mono (show w.heap.size + 2 ≤ W.heap.size by omega)).sl HWD.out.2 HWD.out.1, below_trans hW hb'⟩
        have SK : Hid (∀ (W' : World), KpG w2 gq W' → W'.cell? ⟨w1.heap.size, 4, none⟩ = some (.slice (some ⟨gq, 0, none⟩) blocks.length cq) ∧ W'.cell? ⟨w.heap.size, 4, none⟩ = some (.slice (some ⟨bb, oo, none⟩) blocks.length cb) ∧ W'.cell? ⟨bb, oo + j * 5, none⟩ = some (.slice uc code.length kc)) := fun W' hk => by
          have lo := LO.out
          have hP := (hk w.heap.size (hltP I2.out.bP) (by omega)).trans I2.out.bP
          have hO := (hk w1.heap.size (hltP I2.out.bO) (by omega)).trans I2.out.bO
          have hcw : w2.cell? ⟨bb, oo + j * 5, none⟩ = some (.slice uc code.length kc) := (I2.out.bel.cell (p := ⟨bb, _, none⟩) hbbw).trans hcell
          have c := (cells_of hP).1
          exact ⟨(cells_of hO).1 4, c 4, (World.cell?_of_block (a := ⟨bb, oo + j * 5, none⟩) (hk bb (Nat.lt_of_lt_of_le hbbw I2.out.bel.size) (by omega))).trans hcw⟩
        have ROW : Hid (∀ W, Below w2.heap.size w2 W → ∃ u0, W.cell? ⟨gq, j * 5, none⟩ = some u0 ∧ W.frozen? ⟨gq, j * 5, none⟩ = false) := fun W hW => by
          obtain ⟨rows, hr⟩ := (I2.out.stays hW).cp
          have hjr : j < rows.length := by rw [hr.len]; simp only [midH_len]; exact hlt
          obtain ⟨g', cap', cur, hv, _, hh, _⟩ := hr.own.parts BlE_ok
          have h0 := hr.own.at BlE_ok j hjr 0 (by decide)
          injection hv with e1
          injection e1 with e1
          injection e1 with e1
          subst e1
          exact ⟨_, by simpa [BlE] using h0, (cells_of hh).2 _⟩
        have NX : Hid (∀ W gn kn, Below w2.heap.size w2 W → w2.heap.size ≤ gn → SlIs InsIs 7 W (w.heap.size + 2) (some ⟨gn, 0, none⟩) dc → SfAt w w1.heap.size #[.slice us sizes.length cs, .int .i64 p, .int .i64 q, .int .i64 r, .slice (some ⟨bb, oo, none⟩) blocks.length cb] #[.slice none 0 0, .int .i64 0, .int .i64 0, .int .i64 0, .slice none 0 0] #[.slice sa sizes.length kS, .int .i64 p, .int .i64 q, .int .i64 r, .slice (some ⟨gq, 0, none⟩) blocks.length cq] ⟨sizes, p, q, r, midH twB blocks (j + 1)⟩ sa kS gq cq (W.setCell ⟨gq, j * 5, none⟩ (.slice (some ⟨gn, 0, none⟩) code.length kn))) := fun W gn kn hW hgn hs => by
          have hmj : (midH twB blocks j)[j]'(by rw [midH_len]; exact hlt) = ⟨code, jump, a, t0, els⟩ := (midH_ge twB blocks j j (Nat.le_refl _) hlt).trans HBK.out
          have lo := LO.out
          have hwo := hltP I2.out.bO
          have hr := (I2.out.stays hW).put (j := j) (by simp only [midH_len]; exact hlt) hs (kn := kn) (by omega) HDL.out.symm lo
          simp only [hmj] at hr
          have e9 : midH twB blocks (j + 1) = (midH twB blocks j).set j ⟨dc, jump, a, t0, els⟩ := by
            show (midH twB blocks j).set j (twB (blocks[j]!)) = _
            rw [getElem!_pos blocks j hlt, HBK.out, ← hdc]; rfl
          rw [e9]
          exact hr
        clear hcl hw hcode hcell hdc hdl hBK HWD
        have hI2P := I2.out.bP
        go_upto_region 5 with fail
        go_region_held3 (fun W' => W'.cell? ⟨w1.heap.size, 4, none⟩ = some (.slice (some ⟨gq, 0, none⟩) blocks.length cq) ∧ W'.cell? ⟨w.heap.size, 4, none⟩ = some (.slice (some ⟨bb, oo, none⟩) blocks.length cb) ∧ W'.cell? ⟨bb, oo + j * 5, none⟩ = some (.slice uc code.length kc)) (first | with_reducible exact SK.out _ (KpG.set F6.out _ _) | with_reducible exact SK.out _ (KpG.of F6.out) | with_reducible exact SK.out _ (KpG.drew _ _)) (first
          | (go_at_call 51; refine (BL.out _ (Below.refl _ _).drew).mono ?_; rintro e6 w6 ⟨gn, kn, rfl, hgn, hs6, b6⟩; have F6 := hideP b6; have N6 := hideP (NX.out w6 gn kn b6 hgn hs6); obtain ⟨u0, q0, qf⟩ := ROW.out w6 b6; clear b6 hs6))
        clear SK BL ROW NX F6 q0 qf hI2P
        go_wp2
        go_roundg (blocks.length - (j + 1))
        case rel => exact ⟨j + 1, by omega, by go_num, N6.out⟩
        case measure => omega
      · have hjn : j = blocks.length := by omega
        subst hjn
        have MA : Hid (midH twB blocks blocks.length = blocks.map twB) := midH_all twB blocks
        rw [MA.out] at hI
        have z := hI.out.bR
        have fc := (cells_of hI.out.bO).1
        have d0 := fc 0
        have d1 := fc 1
        have d2 := fc 2
        have d3 := fc 3
        have d4 := fc 4
        simp at d0 d1 d2 d3 d4
        clear fc
        have fc := (cells_of z).1
        have r0 := fc 0
        have r1 := fc 1
        have r2 := fc 2
        have r3 := fc 3
        have r4 := fc 4
        simp at r0 r1 r2 r3 r4
        clear fc
        have rf := (cells_of z).2
        obtain ⟨z4, bu⟩ := put5n z rfl (.slice sa sizes.length kS) (.int .i64 p) (.int .i64 q) (.int .i64 r) (.slice (some ⟨gq, 0, none⟩) blocks.length cq)
        have ZF := hideP z4
        have BU := hideP bu
        clear z z4 bu
        go_wp2
        refine bodyPost_ret (results_cell_row rfl _ _ (w.heap.size + 1) 29 #[.slice sa sizes.length kS, .int .i64 p, .int .i64 q, .int .i64 r, .slice (some ⟨gq, 0, none⟩) blocks.length cq] (0, 0) _ rfl ZF.out Try.underlying29 rfl (by kernel_rfl)) rfl ?_
        rw [E.out]
        have hlt9 := hltP hI.out.bR
        obtain ⟨rows9, hr9⟩ := hI.out.cp
        have gr9 := hr9.gr (by simp only [List.length_map]; exact hbm)
        simp only [List.length_map] at gr9
        exact ⟨_, rfl, GrKeeps.mono (GrKeeps.but gr9 (by omega) BU.out) (by omega), hI.out.bel.trans (BU.out.below (by omega) (by omega))⟩
theorem spec_twice (x : Gr) (w : World) (B : Nat) (v : Array Value) (h : GrIs w B v x) (GO : OkIs 26 x) (hf : Fits x) :
    Calls Try.prog 21 #[.agg v] w fun en w' => ∃ v', en = .returned (.agg v') ∧ GrIs w' w.heap.size v' (twP x) ∧ Below w.heap.size w w' := spec_twice0 x w B v h GO hf
end Go.Proofs.Ytjmclmbepnbeoaa
