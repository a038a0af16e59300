/- The contract of impl.Forward (written by wip/mkfwdi.py). -/
import Derived.Test.YtelkpikbjfkpcaaGreatFwdPQ
import Derived.Test.YtelkpikbjfkpcaaGreatCpyAll
import Derived.Test.YtelkpikbjfkpcaaGreatGrIAll
import Derived.Deep.RegionHeld3
import Derived.Deep.LoopGhost
import Derived.Test.YtelkpikbjfkpcaaGreatKepAll
namespace Go.Proofs.YtelkpikbjfkpcaaGreat
open Go.ChangeShapes Go.WideShapes Go.ChangeAt Go.RowKit
/-- Between two rounds: the box of the graph, the result, the box of the copy, and the copy so far. -/
structure IfAt (w : World) (o : Nat) (bv zv ov : Array Value) (S : CRow) (gb : Nat) (cs : List CRow) (y : Gr) (wr : World) : Prop where
  gr : GrIs wr (w.heap.size + 2) ov y
  ow : GOwn wr ov S gb 0 cs
  bP : wr.heap[w.heap.size]? = some (.cells bv 29 (0, 0))
  bR : wr.heap[w.heap.size + 1]? = some (.cells zv 29 (0, 0))
  bO : wr.heap[o]? = some (.cells ov 29 (0, 0))
  bel : Below w.heap.size w wr
theorem IfAt.stays {w wr wr' : World} {o : Nat} {bv zv ov : Array Value} {S : CRow} {gb : Nat} {cs : List CRow} {y : Gr} (h : IfAt w o bv zv ov S gb cs y wr) (b : Below wr.heap.size wr wr') : IfAt w o bv zv ov S gb cs y wr' :=
  ⟨GrKeeps.stays h.gr b, h.ow.stays b, (b.block _ (hltP h.bP)).trans h.bP, (b.block _ (hltP h.bR)).trans h.bR, (b.block _ (hltP h.bO)).trans h.bO, below_trans h.bel b⟩
theorem IfAt.code {w wr wr' : World} {o : Nat} {bv zv ov : Array Value} {S : CRow} {gb : Nat} {cs : List CRow} {y : Gr} (h : IfAt w o bv zv ov S gb cs y wr) (hl : cs.length = y.blocks.length) {i : Nat} (hi : i < y.blocks.length) (hic : i < cs.length) (hpos : 0 < (y.blocks[i]).code.length)
    {code' : List Ins} (hl' : code'.length = (y.blocks[i]).code.length) (hw : ∀ z ∈ code', z.wf ∧ z.t.size ≤ maxLen) (hb : But cs[i].b wr wr') (hc : CodeF wr' cs[i].b cs[i].o code') (lo : w.heap.size + 2 ≤ cs[i].b ∧ cs[i].b < o) : IfAt w o bv zv ov S gb cs { y with blocks := y.blocks.set i { y.blocks[i] with code := code' } } wr' :=
  have rc := GrIs.recode h.gr h.ow hl hi hic hpos hl' hw hb hc
  ⟨rc.1, rc.2, hb.keepB h.bP (by omega), hb.keepB h.bR (by omega), hb.keepB h.bO (by omega), h.bel.trans (hb.below (by omega) h.bel.size)⟩
theorem grL_code {S : CRow} {b : Nat} {cs : List CRow} {lo up : Nat} (h : ∀ c ∈ grL S b 0 cs, lo ≤ c.1 ∧ c.1 < up) {W : World} {v : Array Value} (ow : GOwn W v S b 0 cs) {i : Nat} (hi : i < cs.length) (hn : 0 < cs[i].n) : lo ≤ cs[i].b ∧ cs[i].b < up := by
  obtain ⟨_, _, h3⟩ := ow.mem
  obtain ⟨p, t, hm⟩ := h3 i hi hn
  exact h _ hm
set_option maxRecDepth 100000 in
set_option maxHeartbeats 8000000 in
theorem impl_forward (x : Gr) (w : World) (B : Nat) (v : Array Value) (h : GrIs w B v x) (GO : OkIs 51 x) (hf : Fits x) :
    Calls Tryz.prog 29 #[.agg v] w fun en w' => MadeGr w (fwdP x) en w' := by
  have HG0 := hideP h
  have HF := hideP hf
  obtain ⟨y, hy⟩ : ∃ y, grOk x = y := ⟨_, rfl⟩
  have HY := hideP hy
  have CY : Hid (∀ W, Below w.heap.size w W → Calls Tryz.prog 51 #[.agg v] W fun en w' => en = .returned (.bool y) ∧ Below W.heap.size W w') := fun W hW => by rw [← hy]; exact GO W B v (GrKeeps.stays h hW)
  have CC : Hid (∀ W, Below w.heap.size w W → Calls Tryz.prog 30 #[.agg v] W fun en w' => MadeGr W x en w') := fun W hW => graphCopy_any x W B v (GrKeeps.stays h hW) hf
  obtain ⟨X, hX⟩ : ∃ X, fwdP x = X := ⟨_, rfl⟩
  have HX := hideP hX
  rw [hX]
  clear hy hX GO hf
  obtain ⟨sizes, p, q, r, blocks⟩ := x
  obtain ⟨us, cs, ub, cb, rfl, _⟩ := h
  simp only at *
  have AL := hideP (below2 w (.cells #[.slice us sizes.length cs, .int .i64 p, .int .i64 q, .int .i64 r, .slice ub blocks.length cb] 29) (.cells #[.slice none 0 0, .int .i64 0, .int .i64 0, .int .i64 0, .slice none 0 0] 29))
  have TW := hideP (fun w1 => two (w := w) (w1 := w1) (o1 := .cells #[.slice us sizes.length cs, .int .i64 p, .int .i64 q, .int .i64 r, .slice ub blocks.length cb] 29) (o2 := .cells #[.slice none 0 0, .int .i64 0, .int .i64 0, .int .i64 0, .slice none 0 0] 29))
  have HZ2 : Hid (((w.alloc (.cells #[.slice us sizes.length cs, .int .i64 p, .int .i64 q, .int .i64 r, .slice ub blocks.length cb] 29)).alloc (.cells #[.slice none 0 0, .int .i64 0, .int .i64 0, .int .i64 0, .slice none 0 0] 29)).heap.size = w.heap.size + 2) := by show _ = _; simp
  go_enter Tryz.func29, Tryz.ntmps29
  go_wp2_with fail
  refine (CC.out _ AL.out).mono ?_
  rintro e1 w1 ⟨v1, S, g1, cs1, rfl, gi, ow, lo, n1, n2, n3, bel1⟩
  obtain ⟨P1, RR, L1, hw⟩ := TW.out w1 bel1
  rw [HZ2.out] at gi lo
  obtain ⟨us1, ks1, ub1, kb1, rfl, _⟩ := id gi
  simp only at gi ow n1 n2 n3 ⊢
  have al2 := (Below.refl w1.heap.size w1).alloc (Nat.le_refl _) (.cells #[.slice us1 sizes.length ks1, .int .i64 p, .int .i64 q, .int .i64 r, .slice ub1 blocks.length kb1] 29)
  have I0 : Hid (IfAt w w1.heap.size #[.slice us sizes.length cs, .int .i64 p, .int .i64 q, .int .i64 r, .slice ub blocks.length cb] #[.slice none 0 0, .int .i64 0, .int .i64 0, .int .i64 0, .slice none 0 0] #[.slice us1 sizes.length ks1, .int .i64 p, .int .i64 q, .int .i64 r, .slice ub1 blocks.length kb1] S g1 cs1 ⟨sizes, p, q, r, blocks⟩ (w1.alloc (.cells #[.slice us1 sizes.length ks1, .int .i64 p, .int .i64 q, .int .i64 r, .slice ub1 blocks.length kb1] 29))) := ⟨GrKeeps.stays gi al2, ow.stays al2, (al2.block _ (hltP P1)).trans P1, (al2.block _ (hltP RR)).trans RR, blk_newG w1 _, below_trans hw al2⟩
  have LO := hideP lo
  have NN : Hid (S.n = sizes.length ∧ cs1.length = blocks.length ∧ ∀ i (h : i < cs1.length), cs1[i].n = (blocks[i]!).code.length) := ⟨n1, n2, n3⟩
  clear bel1 P1 RR hw TW AL CC al2 gi ow lo n1 n2 n3 HZ2 L1
  go_upto_region 2 with fail
  obtain ⟨Wb, hWb⟩ : ∃ Wb, w1.alloc (.cells #[.slice us1 sizes.length ks1, .int .i64 p, .int .i64 q, .int .i64 r, .slice ub1 blocks.length kb1] 29) = Wb := ⟨_, rfl⟩
  rw [hWb] at I0 ⊢
  clear hWb
  have c0 := (cells_of I0.out.bP).1 0
  have c1 := (cells_of I0.out.bP).1 1
  have c2 := (cells_of I0.out.bP).1 2
  have c3 := (cells_of I0.out.bP).1 3
  have c4 := (cells_of I0.out.bP).1 4
  simp at c0 c1 c2 c3 c4
  go_wp2_with fail
  refine (CY.out _ I0.out.bel).mono ?_
  rintro e2 w2 ⟨rfl, bel2⟩
  have I2 := hideP (I0.out.stays bel2)
  clear CY c0 c1 c2 c3 c4 I0 bel2
  cases y with
  | false =>
    have E : Hid (X = ⟨sizes, p, q, r, blocks⟩) := by show _ = _; rw [← HX.out]; exact fwdP_no (by rw [HY.out]; simp)
    have z := I2.out.bR
    have d0 := (cells_of I2.out.bO).1 0
    have d1 := (cells_of I2.out.bO).1 1
    have d2 := (cells_of I2.out.bO).1 2
    have d3 := (cells_of I2.out.bO).1 3
    have d4 := (cells_of I2.out.bO).1 4
    have r0 := (cells_of z).1 0
    have r1 := (cells_of z).1 1
    have r2 := (cells_of z).1 2
    have r3 := (cells_of z).1 3
    have r4 := (cells_of z).1 4
    have rf := (cells_of z).2
    simp at d0 d1 d2 d3 d4 r0 r1 r2 r3 r4
    have z0 := heap_setCell_same w2 _ 0 _ _ (.slice us1 sizes.length ks1) z
    have z1 := heap_setCell_same _ _ 1 _ _ (.int .i64 p) z0
    have z2 := heap_setCell_same _ _ 2 _ _ (.int .i64 q) z1
    have z3 := heap_setCell_same _ _ 3 _ _ (.int .i64 r) z2
    have z4 : (((((w2.setCell ⟨w.heap.size + 1, 0, none⟩ (.slice us1 sizes.length ks1)).setCell ⟨w.heap.size + 1, 1, none⟩ (.int .i64 p)).setCell ⟨w.heap.size + 1, 2, none⟩ (.int .i64 q)).setCell ⟨w.heap.size + 1, 3, none⟩ (.int .i64 r)).setCell ⟨w.heap.size + 1, 4, none⟩ (.slice ub1 blocks.length kb1)).heap[w.heap.size + 1]? = some (.cells #[.slice us1 sizes.length ks1, .int .i64 p, .int .i64 q, .int .i64 r, .slice ub1 blocks.length kb1] 29 (0, 0)) := heap_setCell_same _ _ 4 _ _ (.slice ub1 blocks.length kb1) z3
    have ZF := hideP z4
    have BU : Hid (But (w.heap.size + 1) w2 (((((w2.setCell ⟨w.heap.size + 1, 0, none⟩ (.slice us1 sizes.length ks1)).setCell ⟨w.heap.size + 1, 1, none⟩ (.int .i64 p)).setCell ⟨w.heap.size + 1, 2, none⟩ (.int .i64 q)).setCell ⟨w.heap.size + 1, 3, none⟩ (.int .i64 r)).setCell ⟨w.heap.size + 1, 4, none⟩ (.slice ub1 blocks.length kb1))) := ((((((But.refl (w.heap.size + 1) w2).set 0 (.slice us1 sizes.length ks1)).set 1 (.int .i64 p)).set 2 (.int .i64 q)).set 3 (.int .i64 r)).set 4 (.slice ub1 blocks.length kb1))
    clear z z0 z1 z2 z3 z4
    go_wp2
    refine bodyPost_ret (results_cell_row rfl _ _ (w.heap.size + 1) 29 #[.slice us1 sizes.length ks1, .int .i64 p, .int .i64 q, .int .i64 r, .slice ub1 blocks.length kb1] (0, 0) _ rfl ZF.out Tryz.underlying29 rfl (by kernel_rfl)) rfl ?_
    rw [E.out]
    have hlt := hltP I2.out.bR
    have hsb := BU.out.size
    refine ⟨_, S, g1, cs1, rfl, GrKeeps.mono (GrKeeps.but I2.out.gr (by omega) BU.out) (by omega), I2.out.ow.above (B := w.heap.size + 2) (fun c hc => (LO.out c hc).1) (fun k hk hkl => BU.out.block k hkl (by omega)), fun c hc => ?_, NN.out.1, NN.out.2.1, NN.out.2.2, I2.out.bel.trans (BU.out.below (by omega) (by omega))⟩
    have := LO.out c hc
    have := hltP I2.out.bO
    omega
  | true =>
    have hok : Hid (grOk ⟨sizes, p, q, r, blocks⟩ = true) := HY.out
    have hbl : blocks.length ≤ 300 := by have := hok.out; simp only [grOk, Bool.and_eq_true, decide_eq_true_eq] at this; omega
    obtain ⟨V, hV⟩ : ∃ V : Nat, r = (V : Int) := by
      have := hok.out
      simp only [grOk, frOk, Bool.and_eq_true, decide_eq_true_eq] at this
      exact ⟨r.toNat, by omega⟩
    subst hV
    have E : Hid (X = ⟨sizes, p, q, (V : Int), blocks.map (fwdB V)⟩) := by show _ = _; rw [← HX.out]; exact fwdP_ok hok.out
    have HAS : Hid (∀ j (hj : j < blocks.length), (blocks[j]).code.length ≤ 1000 ∧ V ≤ 1000 ∧ ∀ z ∈ (blocks[j]).code, insOk (sizes.length : Nat) (V : Nat) z = true) := fun j hj => by
      obtain ⟨i, V', e1, e2, e3, hi, e4, e5, e6⟩ := hasB6_ok (g := ⟨sizes, p, q, (V : Int), blocks⟩) (n := (j : Int)) ⟨hok.out, by omega, by simp only; omega⟩
      obtain rfl : i = j := by omega
      have e2' : (V : Int) = (V' : Int) := e2
      obtain rfl : V = V' := by omega
      exact ⟨e5, e3, e6⟩
    have d4 := (cells_of I2.out.bO).1 4
    simp at d4
    clear HX HY
    go_wp2
    clear d4
    go_loopg [15] blocks.length (fun gk ix wr => ∃ j : Nat, gk + j = blocks.length ∧ ix = .int .i64 j ∧ Hid (IfAt w w1.heap.size #[.slice us sizes.length cs, .int .i64 p, .int .i64 q, .int .i64 (V : Int), .slice ub blocks.length cb] #[.slice none 0 0, .int .i64 0, .int .i64 0, .int .i64 0, .slice none 0 0] #[.slice us1 sizes.length ks1, .int .i64 p, .int .i64 q, .int .i64 (V : Int), .slice ub1 blocks.length kb1] S g1 cs1 ⟨sizes, p, q, (V : Int), midB V blocks j⟩ wr))
    case atStart => exact ⟨0, by simp, rfl, I2.out⟩
    case round =>
      obtain ⟨j, hj, rfl, hI⟩ := hrel
      clear I2
      by_cases hlt : j < blocks.length
      · have hjc : j < cs1.length := by rw [NN.out.2.1]; exact hlt
        have hjm : j < (midB V blocks j).length := by rw [midB_len]; exact hlt
        obtain ⟨us2, kS2, ub2, kB2, vs, hv, hub, _, _, hrow, _, _, hall⟩ := hI.out.ow.codeAt hI.out.gr hjc
        obtain ⟨_, e4⟩ := five_inj hv
        have e5 := (slice_inj e4).1
        subst e5
        obtain ⟨uc, kc, hvj, _, hcode, hcn, huc⟩ := hall j hjm hjc
        have hmj : (midB V blocks j)[j] = blocks[j] := midB_ge V blocks j j (Nat.le_refl _) hlt
        have hrc : ∀ i, i < 5 → wr.cell? ⟨g1, j * 5 + i, none⟩ = (vs j)[i]? := by
          rcases hrow with h0 | ⟨b', o', ha, _, _, _, hcc⟩
          · exact absurd h0 (by rw [midB_len]; omega)
          · rw [hub] at ha
            cases ha
            intro i hi
            have := (hcc j hjm).2 i hi
            simpa using this
        simp only at hmj hvj hcode hcn huc
        rw [hmj] at hvj hcode hcn huc
        rw [hvj] at hrc
        obtain ⟨BK, hBK⟩ : ∃ BK, blocks[j] = BK := ⟨_, rfl⟩
        have HBK := hideP hBK
        obtain ⟨hcl, hV1, hins⟩ := HAS.out j hlt
        rw [hBK] at hvj hcode hcn huc hrc hcl hins
        obtain ⟨code, jump, a, t0, els⟩ := BK
        simp only at hvj hcode hcn huc hrc hcl hins
        have q0 : wr.cell? ⟨g1, j * 5, none⟩ = some (.slice uc code.length kc) := hrc 0 (by omega)
        have q1 : wr.cell? ⟨g1, j * 5 + 1, none⟩ = some (.int .i64 jump) := hrc 1 (by omega)
        have q2 : wr.cell? ⟨g1, j * 5 + 2, none⟩ = some (.int .i64 a) := hrc 2 (by omega)
        have q3 : wr.cell? ⟨g1, j * 5 + 3, none⟩ = some (.int .i64 t0) := hrc 3 (by omega)
        have q4 : wr.cell? ⟨g1, j * 5 + 4, none⟩ = some (.int .i64 els) := hrc 4 (by omega)
        subst hub
        have HWO := hideP (hltP hI.out.bO)
        have al := (Below.refl wr.heap.size wr).alloc (Nat.le_refl _) (.cells #[.slice uc code.length kc, .int .i64 jump, .int .i64 a, .int .i64 t0, .int .i64 els] 51)
        have IB := hideP (hI.out.stays al)
        have BX := hideP (blk_newG wr (.cells #[.slice uc code.length kc, .int .i64 jump, .int .i64 a, .int .i64 t0, .int .i64 els] 51))
        have HC := hideP (hcode.stays InsKeeps al)
        have hw := ins_all hcode
        have CO : Hid (CodeOk (sizes.length : Nat) V code) := ⟨hcl, hV1, fun z hz => ⟨hins z hz, ins_i64 hcode z hz⟩⟩
        have HWF := hideP hw
        have HCN := hideP hcn
        have HUC := hideP huc
        clear hI hv e4 hrow hall hvj hcode hmj hrc hcl hins al hw hcn huc hBK
        go_upto_region 7 with fail
        obtain ⟨wb, hwb⟩ : ∃ wb, wr.alloc (.cells #[.slice uc code.length kc, .int .i64 jump, .int .i64 a, .int .i64 t0, .int .i64 els] 51) = wb := ⟨_, rfl⟩
        rw [hwb] at IB BX HC ⊢
        clear hwb q0 q1 q2 q3 q4
        have hw2 : w.heap.size + 1 < wb.heap.size := hltP IB.out.bR
        have PO : Hid (∀ W, Below wb.heap.size wb W → Calls Tryz.prog 62 #[.int .i64 (V : Int), .slice uc code.length kc] W fun en w' => ∃ gp kp, en = .returned (.slice (some ⟨gp, 0, none⟩) (placesUp V code code.length).length kp) ∧ wb.heap.size ≤ gp ∧ OwnE PlE w' 0 (.slice (some ⟨gp, 0, none⟩) (placesUp V code code.length).length kp) (placesUp V code code.length) ∧ Below wb.heap.size wb w') := fun W hW => by
          refine (placesOf_any code V (sizes.length : Nat) W _ uc kc (HC.out.stays InsKeeps hW) CO.out).mono ?_
          rintro en w' ⟨v', he, ho, hb'⟩
          obtain ⟨gp, kp, hv', _⟩ := id ho
          subst hv'
          exact ⟨gp, kp, he, Nat.le_trans hW.size (ho.low gp rfl).1, ho.mono (Nat.zero_le _), below_trans hW hb'⟩
        have hpl := placesUp_len V code code.length (Nat.le_refl _)
        have HPL := hideP hpl
        rw [hpl] at PO
        obtain ⟨ps, hps⟩ : ∃ ps, placesUp V code code.length = ps := ⟨_, rfl⟩
        have HPS := hideP hps
        rw [hps] at PO
        clear hpl hps
        by_cases hz : code.length = 0
        · have hce : code = [] := List.eq_nil_of_length_eq_zero hz
          subst hce
          simp only [List.length_nil] at BX PO ⊢
          have SK : Hid (∀ (W' : World), Below wb.heap.size wb W' → W'.cell? ⟨wr.heap.size, 0, none⟩ = some (.slice uc 0 kc) ∧ W'.cell? ⟨w.heap.size, 3, none⟩ = some (.int .i64 (V : Int))) := fun W' hk => ⟨(cells_of ((hk.block _ (hltP BX.out)).trans BX.out)).1 0, (cells_of ((hk.block _ (hltP IB.out.bP)).trans IB.out.bP)).1 3⟩
          have FN : Hid (∀ W gp kp, Calls Tryz.prog 63 #[.slice uc 0 kc, .slice (some ⟨gp, 0, none⟩) 0 kp] W fun en w' => en = .returned (.tuple #[]) ∧ Below W.heap.size W w') := fun W gp kp => forwardCode_nil W uc kc _
          go_region_held3 (fun W' => W'.cell? ⟨wr.heap.size, 0, none⟩ = some (.slice uc 0 kc) ∧ W'.cell? ⟨w.heap.size, 3, none⟩ = some (.int .i64 (V : Int))) (first | with_reducible exact SK.out _ F6.out | with_reducible exact SK.out _ F5.out | with_reducible exact SK.out _ (Below.refl _ _).drew) (first
            | (go_at_call 62; refine (PO.out _ (Below.refl _ _).drew).mono ?_; rintro e5 w5 ⟨gp, kp5, rfl, _, _, b5⟩; have F5 := hideP b5; clear b5)
            | (go_at_call 63; refine (FN.out _ gp kp5).mono ?_; rintro e6 w6 ⟨rfl, b6⟩; have F6 := hideP (below_trans F5.out b6); clear b6))
          have I6 := hideP (IB.out.stays F6.out)
          have SKIP : Hid (midB V blocks (j + 1) = midB V blocks j) := midB_skip V hlt (by rw [HBK.out])
          clear SK FN PO IB BX F5 F6
          go_wp2
          go_roundg (blocks.length - (j + 1))
          case rel => exact ⟨j + 1, by omega, by go_num, by show IfAt _ _ _ _ _ _ _ _ _ _; rw [SKIP.out]; exact I6.out⟩
          case measure => omega
        · have hcp : 0 < code.length := by omega
          have hun := HUC.out hcp
          subst hun
          have hlo := grL_code LO.out IB.out.ow hjc (by rw [HCN.out]; exact hcp)
          obtain ⟨gc, hgc⟩ : ∃ gc, cs1[j].b = gc := ⟨_, rfl⟩
          obtain ⟨oc, hoc⟩ : ∃ oc, cs1[j].o = oc := ⟨_, rfl⟩
          rw [hgc] at hlo
          have CF : Hid (CodeF wb gc oc code) := by
            have hr := IB.out.ow.codes.row j hjc (by rw [HCN.out]; exact hcp)
            rw [HCN.out, hgc, hoc] at hr
            have hh := HC.out
            rw [hgc, hoc] at hh
            exact codeF_of hh hr
          have NX : Hid (∀ W', But gc wb W' → CodeF W' gc oc (fwdCode V code) → IfAt w w1.heap.size #[.slice us sizes.length cs, .int .i64 p, .int .i64 q, .int .i64 (V : Int), .slice ub blocks.length cb] #[.slice none 0 0, .int .i64 0, .int .i64 0, .int .i64 0, .slice none 0 0] #[.slice us1 sizes.length ks1, .int .i64 p, .int .i64 q, .int .i64 (V : Int), .slice (some ⟨g1, 0, none⟩) blocks.length kb1] S g1 cs1 ⟨sizes, p, q, (V : Int), midB V blocks (j + 1)⟩ W') := fun W' hb hc => by
            have hmj : (midB V blocks j)[j]'(by rw [midB_len]; exact hlt) = ⟨code, jump, a, t0, els⟩ := (midB_ge V blocks j j (Nat.le_refl _) hlt).trans HBK.out
            have hr := IB.out.code (i := j) (by simp only [midB_len]; exact NN.out.2.1) (by simp only [midB_len]; exact hlt) hjc (by simp only [hmj]; exact hcp) (code' := fwdCode V code) (by simp only [hmj, fwdCode_len]) (fwdCode_wf CO.out HWF.out) (by rw [hgc]; exact hb) (by rw [hgc, hoc]; exact hc) (by rw [hgc]; exact hlo)
            simp only [hmj] at hr
            have e9 : midB V blocks (j + 1) = (midB V blocks j).set j ⟨fwdCode V code, jump, a, t0, els⟩ := by
              show (midB V blocks j).set j (fwdB V (blocks[j]!)) = _
              rw [getElem!_pos blocks j hlt, HBK.out]; rfl
            rw [e9]; exact hr
          rw [hgc, hoc] at PO BX ⊢
          clear hgc hoc
          have FC : Hid (∀ W gp kp, Below wb.heap.size wb W → wb.heap.size ≤ gp → OwnE PlE W 0 (.slice (some ⟨gp, 0, none⟩) code.length kp) ps → Calls Tryz.prog 63 #[.slice (some ⟨gc, oc, none⟩) code.length kc, .slice (some ⟨gp, 0, none⟩) code.length kp] W fun en w' => en = .returned (.tuple #[]) ∧ CodeF w' gc oc (fwdCode V code) ∧ But gc W w') := fun W gp kp hW hgp ho => by
            have hpl := HPL.out
            rw [HPS.out] at hpl
            have st := stOk_all CO.out HWF.out
            have hF : fwdCode V code = (fwdUp code ps code.length).2 := by unfold fwdCode; rw [HPS.out]
            rw [hF]
            rw [HPS.out] at st
            have hl0 := CF.out.lt
            have := forwardCode_any code ps W gc oc kc gp kp (by omega) (RowF.keep CF.out (hW.block _ hl0)) hpl st CO.out.1 (by rw [hpl]; exact ho)
            rw [hpl] at this
            exact this
          have SK : Hid (∀ (W' : World), (∀ k, k < wb.heap.size → k ≠ gc → W'.heap[k]? = wb.heap[k]?) → W'.cell? ⟨wr.heap.size, 0, none⟩ = some (.slice (some ⟨gc, oc, none⟩) code.length kc) ∧ W'.cell? ⟨w.heap.size, 3, none⟩ = some (.int .i64 (V : Int))) := fun W' hk => ⟨(cells_of ((hk _ (hltP BX.out) (by have := HWO.out; omega)).trans BX.out)).1 0, (cells_of ((hk _ (hltP IB.out.bP) (by omega)).trans IB.out.bP)).1 3⟩
          have S0 : Hid (∀ k, k < wb.heap.size → k ≠ gc → wb.drew.heap[k]? = wb.heap[k]?) := fun _ _ _ => rfl
          go_region_held3 (fun W' => W'.cell? ⟨wr.heap.size, 0, none⟩ = some (.slice (some ⟨gc, oc, none⟩) code.length kc) ∧ W'.cell? ⟨w.heap.size, 3, none⟩ = some (.int .i64 (V : Int))) (first | with_reducible exact SK.out _ K6.out | with_reducible exact SK.out _ K5.out | with_reducible exact SK.out _ S0.out) (first
            | (go_at_call 62; refine (PO.out _ (Below.refl _ _).drew).mono ?_; rintro e5 w5 ⟨gp, kp5, rfl, hgp, ho5, b5⟩; have F5 := hideP b5; have O5 := hideP ho5; have K5 : Hid (∀ k, k < wb.heap.size → k ≠ gc → w5.heap[k]? = wb.heap[k]?) := (fun k hk _ => F5.out.block k hk); clear b5 ho5)
            | (go_at_call 63; refine (FC.out _ gp kp5 F5.out hgp O5.out).mono ?_; rintro e6 w6 ⟨rfl, c6, b6⟩; have N6 := hideP (NX.out w6 (But.thenB F5.out b6) c6); have K6 : Hid (∀ k, k < wb.heap.size → k ≠ gc → w6.heap[k]? = wb.heap[k]?) := (But.thenB F5.out b6).block; clear b6 c6))
          clear SK S0 FC PO IB BX F5 K5 K6 O5 NX CF
          go_wp2
          go_roundg (blocks.length - (j + 1))
          case rel => exact ⟨j + 1, by omega, by go_num, N6.out⟩
          case measure => omega
      · have hjn : j = blocks.length := by omega
        subst hjn
        have MA : Hid (midB V blocks blocks.length = blocks.map (fwdB V)) := midB_all V blocks
        rw [MA.out] at hI
        have z := hI.out.bR
        have d0 := (cells_of hI.out.bO).1 0
        have d1 := (cells_of hI.out.bO).1 1
        have d2 := (cells_of hI.out.bO).1 2
        have d3 := (cells_of hI.out.bO).1 3
        have d4 := (cells_of hI.out.bO).1 4
        have r0 := (cells_of z).1 0
        have r1 := (cells_of z).1 1
        have r2 := (cells_of z).1 2
        have r3 := (cells_of z).1 3
        have r4 := (cells_of z).1 4
        have rf := (cells_of z).2
        simp at d0 d1 d2 d3 d4 r0 r1 r2 r3 r4
        have z0 := heap_setCell_same wr _ 0 _ _ (.slice us1 sizes.length ks1) z
        have z1 := heap_setCell_same _ _ 1 _ _ (.int .i64 p) z0
        have z2 := heap_setCell_same _ _ 2 _ _ (.int .i64 q) z1
        have z3 := heap_setCell_same _ _ 3 _ _ (.int .i64 (V : Int)) z2
        have z4 : (((((wr.setCell ⟨w.heap.size + 1, 0, none⟩ (.slice us1 sizes.length ks1)).setCell ⟨w.heap.size + 1, 1, none⟩ (.int .i64 p)).setCell ⟨w.heap.size + 1, 2, none⟩ (.int .i64 q)).setCell ⟨w.heap.size + 1, 3, none⟩ (.int .i64 (V : Int))).setCell ⟨w.heap.size + 1, 4, none⟩ (.slice ub1 blocks.length kb1)).heap[w.heap.size + 1]? = some (.cells #[.slice us1 sizes.length ks1, .int .i64 p, .int .i64 q, .int .i64 (V : Int), .slice ub1 blocks.length kb1] 29 (0, 0)) := heap_setCell_same _ _ 4 _ _ (.slice ub1 blocks.length kb1) z3
        have ZF := hideP z4
        have BU : Hid (But (w.heap.size + 1) wr (((((wr.setCell ⟨w.heap.size + 1, 0, none⟩ (.slice us1 sizes.length ks1)).setCell ⟨w.heap.size + 1, 1, none⟩ (.int .i64 p)).setCell ⟨w.heap.size + 1, 2, none⟩ (.int .i64 q)).setCell ⟨w.heap.size + 1, 3, none⟩ (.int .i64 (V : Int))).setCell ⟨w.heap.size + 1, 4, none⟩ (.slice ub1 blocks.length kb1))) := ((((((But.refl (w.heap.size + 1) wr).set 0 (.slice us1 sizes.length ks1)).set 1 (.int .i64 p)).set 2 (.int .i64 q)).set 3 (.int .i64 (V : Int))).set 4 (.slice ub1 blocks.length kb1))
        clear z z0 z1 z2 z3 z4
        go_wp2
        refine bodyPost_ret (results_cell_row rfl _ _ (w.heap.size + 1) 29 #[.slice us1 sizes.length ks1, .int .i64 p, .int .i64 q, .int .i64 (V : Int), .slice ub1 blocks.length kb1] (0, 0) _ rfl ZF.out Tryz.underlying29 rfl (by kernel_rfl)) rfl ?_
        rw [E.out]
        have hlt := hltP hI.out.bR
        have hsb := BU.out.size
        refine ⟨_, S, g1, cs1, rfl, GrKeeps.mono (GrKeeps.but hI.out.gr (by omega) BU.out) (by omega), hI.out.ow.above (B := w.heap.size + 2) (fun c hc => (LO.out c hc).1) (fun k hk hkl => BU.out.block k hkl (by omega)), fun c hc => ?_, NN.out.1, by rw [NN.out.2.1]; simp, fun i hi => by rw [NN.out.2.2 i hi, ← MA.out, midB_code], hI.out.bel.trans (BU.out.below (by omega) (by omega))⟩
        have := LO.out c hc
        have := hltP hI.out.bO
        omega
end Go.Proofs.YtelkpikbjfkpcaaGreat

/- The contract of impl.DeadStores (written by wip/mkdsi.py). -/
namespace Go.Proofs.YtelkpikbjfkpcaaGreat
open Go.ChangeShapes Go.WideShapes Go.ChangeAt Go.RowKit
/-- Between two rounds: besides, where all of the copy lies. -/
structure IcAt (w : World) (o : Nat) (bv zv ov : Array Value) (S : CRow) (gb : Nat) (cs : List CRow) (y : Gr) (wr : World) : Prop where
  at' : IfAt w o bv zv ov S gb cs y wr
  li : Lies (w.heap.size + 2) wr.heap.size S gb cs
  gl : cs ≠ [] → w.heap.size + 2 ≤ gb ∧ gb < o
  len : cs.length = y.blocks.length
  num : ∀ i (_ : i < cs.length), cs[i].n = (y.blocks[i]!).code.length
  sn : S.n = y.sizes.length
theorem IcAt.stays {w wr wr' : World} {o : Nat} {bv zv ov : Array Value} {S : CRow} {gb : Nat} {cs : List CRow} {y : Gr} (h : IcAt w o bv zv ov S gb cs y wr) (b : Below wr.heap.size wr wr') : IcAt w o bv zv ov S gb cs y wr' :=
  ⟨h.at'.stays b, h.li.up b.size, h.gl, h.len, h.num, h.sn⟩
theorem IcAt.code {w wr wr' : World} {o : Nat} {bv zv ov : Array Value} {S : CRow} {gb : Nat} {cs : List CRow} {y : Gr} (h : IcAt w o bv zv ov S gb cs y wr) (b : Below wr.heap.size wr wr') {i : Nat} (hi : i < y.blocks.length) {code' : List Ins} {gn kn n' : Nat} (hn : n' = code'.length)
    (ho : OwnE InE wr' wr.heap.size (.slice (some ⟨gn, 0, none⟩) n' kn) code') (hm : code'.length ≤ maxLen) (hw : ∀ z ∈ code', z.wf ∧ z.t.size ≤ maxLen) :
    ∃ cs', IcAt w o bv zv ov S gb cs' { y with blocks := y.blocks.set i { y.blocks[i] with code := code' } } (wr'.setCell ⟨gb, i * 5, none⟩ (.slice (some ⟨gn, 0, none⟩) n' kn)) := by
  subst hn
  have hic : i < cs.length := by rw [h.len]; exact hi
  have hne : cs ≠ [] := fun e => by subst e; simp at hic
  have lo := ho.low gn rfl
  have hgl := h.gl hne
  have hs := h.at'.bel.size
  have hbO := hltP h.at'.bO
  have hbR := hltP h.at'.bR
  have h' := h.at'.stays b
  have hb : But gb wr' (wr'.setCell ⟨gb, i * 5, none⟩ (.slice (some ⟨gn, 0, none⟩) code'.length kn)) := (But.refl gb wr').set _ _
  have nc := GrIs.newcode h'.gr h'.ow h.len hi hic (by omega) ho hm hw h.li lo.1
  refine ⟨_, ⟨nc.1, nc.2, hb.keepB h'.bP (by omega), hb.keepB h'.bR (by omega), hb.keepB h'.bO (by omega), h'.bel.trans (hb.below (by omega) h'.bel.size)⟩, ?_, fun _ => hgl, by simp only [List.length_set]; exact h.len, fun k hk => ?_, h.sn⟩
  · have hz := hb.size
    have hz2 := b.size
    exact (h.li.up (by omega)).set ⟨by omega, by omega⟩
  · rw [List.length_set] at hk
    have hkb : k < y.blocks.length := by rw [← h.len]; exact hk
    simp only
    rw [getElem!_pos _ k (by rw [List.length_set]; exact hkb)]
    by_cases e : i = k
    · subst e
      rw [List.getElem_set_self, List.getElem_set_self]
    · rw [List.getElem_set_ne e, List.getElem_set_ne e]
      have := h.num k hk
      rw [getElem!_pos y.blocks k hkb] at this
      exact this
/-- All blocks but one are as they were. -/
def KpI (wr : World) (g : Nat) (W : World) : Prop := ∀ k, k < wr.heap.size → k ≠ g → W.heap[k]? = wr.heap[k]?
theorem KpI.of {wr W : World} {g : Nat} (h : Below wr.heap.size wr W) : KpI wr g W := fun k hk _ => h.block k hk
theorem KpI.drew (wr : World) (g : Nat) : KpI wr g wr.drew := fun _ _ _ => rfl
theorem KpI.set {wr W : World} {g : Nat} (h : Below wr.heap.size wr W) (i : Nat) (u : Value) : KpI wr g (W.setCell ⟨g, i, none⟩ u) := fun k hk hne => (Below.heap_setCell W ⟨g, i, none⟩ u k hne).trans (h.block k hk)
theorem plaI_all {R : Int} {V : Nat} {code : List Ins} (co : CodeOk R V code) (hw : ∀ x ∈ code, x.wf ∧ x.t.size ≤ maxLen) : ∀ p ∈ placesUp V code code.length, PlaI p := fun p hp => by
  obtain ⟨i, hi, rfl⟩ := List.getElem_of_mem hp
  have hl := placesUp_len V code code.length (Nat.le_refl _)
  exact (stOk_all co hw i (by omega) hi).1
set_option maxRecDepth 100000 in
set_option maxHeartbeats 8000000 in
theorem impl_deadStores (x : Gr) (w : World) (B : Nat) (v : Array Value) (h : GrIs w B v x) (GO : OkIs 51 x) (hf : Fits x) :
    Calls Tryz.prog 28 #[.agg v] w fun en w' => MadeGr w (dsP x) en w' := by
  have HG0 := hideP h
  have HF := hideP hf
  obtain ⟨y, hy⟩ : ∃ y, grOk x = y := ⟨_, rfl⟩
  have HY := hideP hy
  have CY : Hid (∀ W, Below w.heap.size w W → Calls Tryz.prog 51 #[.agg v] W fun en w' => en = .returned (.bool y) ∧ Below W.heap.size W w') := fun W hW => by rw [← hy]; exact GO W B v (GrKeeps.stays h hW)
  have CC : Hid (∀ W, Below w.heap.size w W → Calls Tryz.prog 30 #[.agg v] W fun en w' => MadeGr W x en w') := fun W hW => graphCopy_any x W B v (GrKeeps.stays h hW) hf
  obtain ⟨X, hX⟩ : ∃ X, dsP x = X := ⟨_, rfl⟩
  have HX := hideP hX
  rw [hX]
  clear hy hX GO hf
  obtain ⟨sizes, p, q, r, blocks⟩ := x
  obtain ⟨us, cs, ub, cb, rfl, _⟩ := h
  simp only at *
  have AL := hideP (below2 w (.cells #[.slice us sizes.length cs, .int .i64 p, .int .i64 q, .int .i64 r, .slice ub blocks.length cb] 29) (.cells #[.slice none 0 0, .int .i64 0, .int .i64 0, .int .i64 0, .slice none 0 0] 29))
  have TW := hideP (fun w1 => two (w := w) (w1 := w1) (o1 := .cells #[.slice us sizes.length cs, .int .i64 p, .int .i64 q, .int .i64 r, .slice ub blocks.length cb] 29) (o2 := .cells #[.slice none 0 0, .int .i64 0, .int .i64 0, .int .i64 0, .slice none 0 0] 29))
  have HZ2 : Hid (((w.alloc (.cells #[.slice us sizes.length cs, .int .i64 p, .int .i64 q, .int .i64 r, .slice ub blocks.length cb] 29)).alloc (.cells #[.slice none 0 0, .int .i64 0, .int .i64 0, .int .i64 0, .slice none 0 0] 29)).heap.size = w.heap.size + 2) := by show _ = _; simp
  go_enter Tryz.func28, Tryz.ntmps28
  go_wp2_with fail
  refine (CC.out _ AL.out).mono ?_
  rintro e1 w1 ⟨v1, S, g1, cs1, rfl, gi, ow, lo, n1, n2, n3, bel1⟩
  obtain ⟨P1, RR, L1, hw⟩ := TW.out w1 bel1
  rw [HZ2.out] at gi lo
  obtain ⟨us1, ks1, ub1, kb1, rfl, _⟩ := id gi
  simp only at gi ow n1 n2 n3 ⊢
  have al2 := (Below.refl w1.heap.size w1).alloc (Nat.le_refl _) (.cells #[.slice us1 sizes.length ks1, .int .i64 p, .int .i64 q, .int .i64 r, .slice ub1 blocks.length kb1] 29)
  have I0 : Hid (IfAt w w1.heap.size #[.slice us sizes.length cs, .int .i64 p, .int .i64 q, .int .i64 r, .slice ub blocks.length cb] #[.slice none 0 0, .int .i64 0, .int .i64 0, .int .i64 0, .slice none 0 0] #[.slice us1 sizes.length ks1, .int .i64 p, .int .i64 q, .int .i64 r, .slice ub1 blocks.length kb1] S g1 cs1 ⟨sizes, p, q, r, blocks⟩ (w1.alloc (.cells #[.slice us1 sizes.length ks1, .int .i64 p, .int .i64 q, .int .i64 r, .slice ub1 blocks.length kb1] 29))) := ⟨GrKeeps.stays gi al2, ow.stays al2, (al2.block _ (hltP P1)).trans P1, (al2.block _ (hltP RR)).trans RR, blk_newG w1 _, below_trans hw al2⟩
  have LO := hideP lo
  have NN : Hid (S.n = sizes.length ∧ cs1.length = blocks.length ∧ ∀ i (h : i < cs1.length), cs1[i].n = (blocks[i]!).code.length) := ⟨n1, n2, n3⟩
  clear bel1 P1 RR hw TW AL CC al2 gi ow lo n1 n2 n3 HZ2 L1
  go_upto_region 2 with fail
  obtain ⟨Wb, hWb⟩ : ∃ Wb, w1.alloc (.cells #[.slice us1 sizes.length ks1, .int .i64 p, .int .i64 q, .int .i64 r, .slice ub1 blocks.length kb1] 29) = Wb := ⟨_, rfl⟩
  rw [hWb] at I0 ⊢
  clear hWb
  have c0 := (cells_of I0.out.bP).1 0
  have c1 := (cells_of I0.out.bP).1 1
  have c2 := (cells_of I0.out.bP).1 2
  have c3 := (cells_of I0.out.bP).1 3
  have c4 := (cells_of I0.out.bP).1 4
  simp at c0 c1 c2 c3 c4
  go_wp2_with fail
  refine (CY.out _ I0.out.bel).mono ?_
  rintro e2 w2 ⟨rfl, bel2⟩
  have I2 := hideP (I0.out.stays bel2)
  clear CY c0 c1 c2 c3 c4 I0 bel2
  cases y with
  | false =>
    have E : Hid (X = ⟨sizes, p, q, r, blocks⟩) := by show _ = _; rw [← HX.out]; exact dsP_no (by rw [HY.out]; simp)
    have z := I2.out.bR
    have d0 := (cells_of I2.out.bO).1 0
    have d1 := (cells_of I2.out.bO).1 1
    have d2 := (cells_of I2.out.bO).1 2
    have d3 := (cells_of I2.out.bO).1 3
    have d4 := (cells_of I2.out.bO).1 4
    have r0 := (cells_of z).1 0
    have r1 := (cells_of z).1 1
    have r2 := (cells_of z).1 2
    have r3 := (cells_of z).1 3
    have r4 := (cells_of z).1 4
    have rf := (cells_of z).2
    simp at d0 d1 d2 d3 d4 r0 r1 r2 r3 r4
    have z0 := heap_setCell_same w2 _ 0 _ _ (.slice us1 sizes.length ks1) z
    have z1 := heap_setCell_same _ _ 1 _ _ (.int .i64 p) z0
    have z2 := heap_setCell_same _ _ 2 _ _ (.int .i64 q) z1
    have z3 := heap_setCell_same _ _ 3 _ _ (.int .i64 r) z2
    have z4 : (((((w2.setCell ⟨w.heap.size + 1, 0, none⟩ (.slice us1 sizes.length ks1)).setCell ⟨w.heap.size + 1, 1, none⟩ (.int .i64 p)).setCell ⟨w.heap.size + 1, 2, none⟩ (.int .i64 q)).setCell ⟨w.heap.size + 1, 3, none⟩ (.int .i64 r)).setCell ⟨w.heap.size + 1, 4, none⟩ (.slice ub1 blocks.length kb1)).heap[w.heap.size + 1]? = some (.cells #[.slice us1 sizes.length ks1, .int .i64 p, .int .i64 q, .int .i64 r, .slice ub1 blocks.length kb1] 29 (0, 0)) := heap_setCell_same _ _ 4 _ _ (.slice ub1 blocks.length kb1) z3
    have ZF := hideP z4
    have BU : Hid (But (w.heap.size + 1) w2 (((((w2.setCell ⟨w.heap.size + 1, 0, none⟩ (.slice us1 sizes.length ks1)).setCell ⟨w.heap.size + 1, 1, none⟩ (.int .i64 p)).setCell ⟨w.heap.size + 1, 2, none⟩ (.int .i64 q)).setCell ⟨w.heap.size + 1, 3, none⟩ (.int .i64 r)).setCell ⟨w.heap.size + 1, 4, none⟩ (.slice ub1 blocks.length kb1))) := ((((((But.refl (w.heap.size + 1) w2).set 0 (.slice us1 sizes.length ks1)).set 1 (.int .i64 p)).set 2 (.int .i64 q)).set 3 (.int .i64 r)).set 4 (.slice ub1 blocks.length kb1))
    clear z z0 z1 z2 z3 z4
    go_wp2
    refine bodyPost_ret (results_cell_row rfl _ _ (w.heap.size + 1) 29 #[.slice us1 sizes.length ks1, .int .i64 p, .int .i64 q, .int .i64 r, .slice ub1 blocks.length kb1] (0, 0) _ rfl ZF.out Tryz.underlying29 rfl (by kernel_rfl)) rfl ?_
    rw [E.out]
    have hlt := hltP I2.out.bR
    have hsb := BU.out.size
    refine ⟨_, S, g1, cs1, rfl, GrKeeps.mono (GrKeeps.but I2.out.gr (by omega) BU.out) (by omega), I2.out.ow.above (B := w.heap.size + 2) (fun c hc => (LO.out c hc).1) (fun k hk hkl => BU.out.block k hkl (by omega)), fun c hc => ?_, NN.out.1, NN.out.2.1, NN.out.2.2, I2.out.bel.trans (BU.out.below (by omega) (by omega))⟩
    have := LO.out c hc
    have := hltP I2.out.bO
    omega
  | true =>
    have hok : Hid (grOk ⟨sizes, p, q, r, blocks⟩ = true) := HY.out
    have hbl : blocks.length ≤ 300 := by have := hok.out; simp only [grOk, Bool.and_eq_true, decide_eq_true_eq] at this; omega
    obtain ⟨V, hV⟩ : ∃ V : Nat, r = (V : Int) := by
      have := hok.out
      simp only [grOk, frOk, Bool.and_eq_true, decide_eq_true_eq] at this
      exact ⟨r.toNat, by omega⟩
    subst hV
    have E : Hid (X = ⟨sizes, p, q, (V : Int), blocks.map (dsB V)⟩) := by show _ = _; rw [← HX.out]; exact dsP_ok hok.out
    have HAS : Hid (∀ j (hj : j < blocks.length), (blocks[j]).code.length ≤ 1000 ∧ V ≤ 1000 ∧ ∀ z ∈ (blocks[j]).code, insOk (sizes.length : Nat) (V : Nat) z = true) := fun j hj => by
      obtain ⟨i, V', e1, e2, e3, hi, e4, e5, e6⟩ := hasB6_ok (g := ⟨sizes, p, q, (V : Int), blocks⟩) (n := (j : Int)) ⟨hok.out, by omega, by simp only; omega⟩
      obtain rfl : i = j := by omega
      have e2' : (V : Int) = (V' : Int) := e2
      obtain rfl : V = V' := by omega
      exact ⟨e5, e3, e6⟩
    have d4 := (cells_of I2.out.bO).1 4
    simp at d4
    have J2 : Hid (IcAt w w1.heap.size #[.slice us sizes.length cs, .int .i64 p, .int .i64 q, .int .i64 (V : Int), .slice ub blocks.length cb] #[.slice none 0 0, .int .i64 0, .int .i64 0, .int .i64 0, .slice none 0 0] #[.slice us1 sizes.length ks1, .int .i64 p, .int .i64 q, .int .i64 (V : Int), .slice ub1 blocks.length kb1] S g1 cs1 ⟨sizes, p, q, (V : Int), blocks⟩ w2) := by
      have li := Lies.of I2.out.ow LO.out
      exact ⟨I2.out, li.up (Nat.le_of_lt (hltP I2.out.bO)), li.b, NN.out.2.1, NN.out.2.2, NN.out.1⟩
    clear HX HY I2 LO NN
    go_wp2
    clear d4
    go_loopg [15] blocks.length (fun gk ix wr => ∃ j : Nat, gk + j = blocks.length ∧ ix = .int .i64 j ∧ Hid (∃ cs2, IcAt w w1.heap.size #[.slice us sizes.length cs, .int .i64 p, .int .i64 q, .int .i64 (V : Int), .slice ub blocks.length cb] #[.slice none 0 0, .int .i64 0, .int .i64 0, .int .i64 0, .slice none 0 0] #[.slice us1 sizes.length ks1, .int .i64 p, .int .i64 q, .int .i64 (V : Int), .slice ub1 blocks.length kb1] S g1 cs2 ⟨sizes, p, q, (V : Int), midH (dsB V) blocks j⟩ wr))
    case atStart => exact ⟨0, by simp, rfl, _, J2.out⟩
    case round =>
      obtain ⟨j, hj, rfl, hI0⟩ := hrel
      obtain ⟨cs2, hI1⟩ := hI0.out
      have hI := hideP hI1
      clear J2 hI0 hI1
      by_cases hlt : j < blocks.length
      · have hl2 : cs2.length = blocks.length := by have := hI.out.len; simp only [midH_len] at this; exact this
        have hjc : j < cs2.length := by rw [hl2]; exact hlt
        have hjm : j < (midH (dsB V) blocks j).length := by rw [midH_len]; exact hlt
        obtain ⟨us2, kS2, ub2, kB2, vs, hv, hub, z1, z2, hrow, z3, z4, hall⟩ := hI.out.at'.ow.codeAt hI.out.at'.gr hjc
        obtain ⟨z5, e4⟩ := five_inj hv
        have e5 := (slice_inj e4).1
        subst e5
        obtain ⟨uc, kc, hvj, z6, hcode, z7, z8⟩ := hall j hjm hjc
        have hmj : (midH (dsB V) blocks j)[j] = blocks[j] := midH_ge (dsB V) blocks j j (Nat.le_refl _) hlt
        have hrc : ∀ i, i < 5 → wr.cell? ⟨g1, j * 5 + i, none⟩ = (vs j)[i]? := by
          rcases hrow with h0 | ⟨b', o', ha, _, _, _, hcc⟩
          · exact absurd h0 (by rw [midH_len]; omega)
          · rw [hub] at ha
            cases ha
            intro i hi
            have := (hcc j hjm).2 i hi
            simpa using this
        simp only at hmj hvj hcode
        rw [hmj] at hvj hcode
        rw [hvj] at hrc
        obtain ⟨BK, hBK⟩ : ∃ BK, blocks[j] = BK := ⟨_, rfl⟩
        have HBK := hideP hBK
        obtain ⟨hcl, hV1, hins⟩ := HAS.out j hlt
        rw [hBK] at hvj hcode hrc hcl hins
        obtain ⟨code, jump, a, t0, els⟩ := BK
        simp only at hvj hcode hrc hcl hins
        have q0 : wr.cell? ⟨g1, j * 5, none⟩ = some (.slice uc code.length kc) := hrc 0 (by omega)
        have q1 : wr.cell? ⟨g1, j * 5 + 1, none⟩ = some (.int .i64 jump) := hrc 1 (by omega)
        have q2 : wr.cell? ⟨g1, j * 5 + 2, none⟩ = some (.int .i64 a) := hrc 2 (by omega)
        have q3 : wr.cell? ⟨g1, j * 5 + 3, none⟩ = some (.int .i64 t0) := hrc 3 (by omega)
        have q4 : wr.cell? ⟨g1, j * 5 + 4, none⟩ = some (.int .i64 els) := hrc 4 (by omega)
        subst hub
        have hgl := hI.out.gl (fun e => by rw [e] at hjc; simp at hjc)
        have HWO := hideP (hltP hI.out.at'.bO)
        have al := (Below.refl wr.heap.size wr).alloc (Nat.le_refl _) (.cells #[.slice uc code.length kc, .int .i64 jump, .int .i64 a, .int .i64 t0, .int .i64 els] 51)
        have IB := hideP (hI.out.stays al)
        have BX := hideP (blk_newG wr (.cells #[.slice uc code.length kc, .int .i64 jump, .int .i64 a, .int .i64 t0, .int .i64 els] 51))
        have HC := hideP (hcode.stays InsKeeps al)
        have hw := ins_all hcode
        have CO : Hid (CodeOk (sizes.length : Nat) V code) := ⟨hcl, hV1, fun z hz => ⟨hins z hz, ins_i64 hcode z hz⟩⟩
        have HWF := hideP hw
        have ROW : Hid (∃ c T, wr.heap[g1]? = some (.cells c T (0, 0))) := by
          obtain ⟨c, T, h1, _⟩ := hI.out.at'.ow.brow (fun e => by rw [e] at hjc; simp at hjc)
          exact ⟨c, T, h1⟩
        have Q0 := hideP q0
        clear hI hv e4 hrow hall hvj hcode hmj hrc hcl hins hw hBK z1 z2 z3 z4 z5 z6 z7 z8 hjc hl2 hjm
        go_upto_region 7 with fail
        obtain ⟨wb, hwb⟩ : ∃ wb, wr.alloc (.cells #[.slice uc code.length kc, .int .i64 jump, .int .i64 a, .int .i64 t0, .int .i64 els] 51) = wb := ⟨_, rfl⟩
        rw [hwb] at IB BX HC al ⊢
        have AL := hideP al
        clear hwb q0 q1 q2 q3 q4 al
        have hw2 : w.heap.size + 1 < wb.heap.size := hltP IB.out.at'.bR
        have PO : Hid (∀ W, Below wb.heap.size wb W → Calls Tryz.prog 62 #[.int .i64 (V : Int), .slice uc code.length kc] W fun en w' => ∃ gp kp, en = .returned (.slice (some ⟨gp, 0, none⟩) (placesUp V code code.length).length kp) ∧ OwnE PlE w' 0 (.slice (some ⟨gp, 0, none⟩) (placesUp V code code.length).length kp) (placesUp V code code.length) ∧ Below wb.heap.size wb w') := fun W hW => by
          refine (placesOf_any code V (sizes.length : Nat) W _ uc kc (HC.out.stays InsKeeps hW) CO.out).mono ?_
          rintro en w' ⟨v', he, ho, hb'⟩
          obtain ⟨gp, kp, hv', _⟩ := id ho
          subst hv'
          exact ⟨gp, kp, he, ho.mono (Nat.zero_le _), below_trans hW hb'⟩
        have hpl := placesUp_len V code code.length (Nat.le_refl _)
        have HPL := hideP hpl
        rw [hpl] at PO
        have PI := hideP (plaI_all CO.out HWF.out)
        obtain ⟨ps, hps⟩ : ∃ ps, placesUp V code code.length = ps := ⟨_, rfl⟩
        have DC : Hid (dsCode V code = (backUp (dsF code ps) [] code code.length).2) := by show _ = _; unfold dsCode; rw [hps]
        have HPS := hideP hps
        rw [hps] at PO PI hpl
        have HP2 := hideP hpl
        clear hpl hps
        have WD : Hid (∀ W gp kp, Below wb.heap.size wb W → OwnE PlE W 0 (.slice (some ⟨gp, 0, none⟩) code.length kp) ps → Calls Tryz.prog 61 #[.slice uc code.length kc, .slice (some ⟨gp, 0, none⟩) code.length kp] W fun en w' => ∃ gn kn, en = .returned (.slice (some ⟨gn, 0, none⟩) (dsCode V code).length kn) ∧ OwnE InE w' wb.heap.size (.slice (some ⟨gn, 0, none⟩) (dsCode V code).length kn) (dsCode V code) ∧ Below wb.heap.size wb w') := fun W gp kp hW ho => by
          have hx := withoutDead_any code ps W _ uc kc gp kp (HC.out.stays InsKeeps hW) (by rw [HP2.out]; exact ho) CO.out.1 HP2.out PI.out
          rw [HP2.out, ← DC.out] at hx
          refine hx.mono ?_
          rintro en w' ⟨v', he, ho', hb'⟩
          obtain ⟨gn, kn, hv', _⟩ := id ho'
          subst hv'
          exact ⟨gn, kn, he, ho'.mono hW.size, below_trans hW hb'⟩
        have HWD : Hid ((dsCode V code).length ≤ maxLen ∧ ∀ z ∈ dsCode V code, z.wf ∧ z.t.size ≤ maxLen) := ⟨by have h1 := dsCode_few V code; have h2 := CO.out.1; unfold maxLen; omega, fun z hz => HWF.out z (dsCode_mem z hz)⟩
        obtain ⟨dc, hdc⟩ : ∃ dc, dsCode V code = dc := ⟨_, rfl⟩
        obtain ⟨dn, hdn⟩ : ∃ dn, dc.length = dn := ⟨_, rfl⟩
        rw [hdc] at WD HWD
        rw [hdn] at WD
        have NX : Hid (∀ W' gn kn, Below wb.heap.size wb W' → OwnE InE W' wb.heap.size (.slice (some ⟨gn, 0, none⟩) dn kn) dc → ∃ cs3, IcAt w w1.heap.size #[.slice us sizes.length cs, .int .i64 p, .int .i64 q, .int .i64 (V : Int), .slice ub blocks.length cb] #[.slice none 0 0, .int .i64 0, .int .i64 0, .int .i64 0, .slice none 0 0] #[.slice us1 sizes.length ks1, .int .i64 p, .int .i64 q, .int .i64 (V : Int), .slice (some ⟨g1, 0, none⟩) blocks.length kb1] S g1 cs3 ⟨sizes, p, q, (V : Int), midH (dsB V) blocks (j + 1)⟩ (W'.setCell ⟨g1, j * 5, none⟩ (.slice (some ⟨gn, 0, none⟩) dn kn))) := fun W' gn kn hb ho => by
          have hmj : (midH (dsB V) blocks j)[j]'(by rw [midH_len]; exact hlt) = ⟨code, jump, a, t0, els⟩ := (midH_ge (dsB V) blocks j j (Nat.le_refl _) hlt).trans HBK.out
          have hr := IB.out.code hb (i := j) (by simp only [midH_len]; exact hlt) (code' := dc) hdn.symm ho HWD.out.1 HWD.out.2
          simp only [hmj] at hr
          have e9 : midH (dsB V) blocks (j + 1) = (midH (dsB V) blocks j).set j ⟨dc, jump, a, t0, els⟩ := by
            show (midH (dsB V) blocks j).set j (dsB V (blocks[j]!)) = _
            rw [getElem!_pos blocks j hlt, HBK.out, ← hdc]; rfl
          rw [e9]; exact hr
        have RC : Hid (∀ W', Below wb.heap.size wb W' → W'.cell? ⟨g1, j * 5, none⟩ = some (.slice uc code.length kc) ∧ ∀ i, W'.frozen? ⟨g1, i, none⟩ = false) := fun W' hb => by
          obtain ⟨c, T, h1⟩ := ROW.out
          have h2 := (AL.out.block _ (hltP h1)).trans h1
          have h3 := (hb.block _ (hltP h2)).trans h2
          refine ⟨?_, (cells_of h3).2⟩
          rw [World.cell?_of_block (a := ⟨g1, j * 5, none⟩) (h3.trans h1.symm)]
          exact Q0.out
        have SK : Hid (∀ (W' : World), KpI wb g1 W' → W'.cell? ⟨wr.heap.size, 0, none⟩ = some (.slice uc code.length kc) ∧ W'.cell? ⟨w.heap.size, 3, none⟩ = some (.int .i64 (V : Int)) ∧ W'.cell? ⟨w1.heap.size, 4, none⟩ = some (.slice (some ⟨g1, 0, none⟩) blocks.length kb1)) := fun W' hk => ⟨(cells_of ((hk _ (hltP BX.out) (by have := HWO.out; omega)).trans BX.out)).1 0, (cells_of ((hk _ (hltP IB.out.at'.bP) (by omega)).trans IB.out.at'.bP)).1 3, (cells_of ((hk _ (hltP IB.out.at'.bO) (by omega)).trans IB.out.at'.bO)).1 4⟩
        clear hdc hdn HC HBK ROW Q0 IB BX
        go_region_held3 (fun W' => W'.cell? ⟨wr.heap.size, 0, none⟩ = some (.slice uc code.length kc) ∧ W'.cell? ⟨w.heap.size, 3, none⟩ = some (.int .i64 (V : Int)) ∧ W'.cell? ⟨w1.heap.size, 4, none⟩ = some (.slice (some ⟨g1, 0, none⟩) blocks.length kb1)) (first | with_reducible exact SK.out _ (KpI.set F6.out _ _) | with_reducible exact SK.out _ (KpI.of F6.out) | with_reducible exact SK.out _ (KpI.of F5.out) | with_reducible exact SK.out _ (KpI.drew _ _)) (first
          | (go_at_call 62; refine (PO.out _ (Below.refl _ _).drew).mono ?_; rintro e5 w5 ⟨gp, kp5, rfl, ho5, b5⟩; have F5 := hideP b5; have O5 := hideP ho5; clear b5 ho5)
          | (go_at_call 61; refine (WD.out _ gp kp5 F5.out O5.out).mono ?_; rintro e6 w6 ⟨gn, kn, rfl, o6, b6⟩; have F6 := hideP b6; have N6 := hideP (NX.out w6 gn kn b6 o6); obtain ⟨q0, qf⟩ := RC.out w6 b6; clear b6 o6))
        clear SK PO WD NX RC F5 F6 O5 q0 qf
        go_wp2
        go_roundg (blocks.length - (j + 1))
        case rel => exact ⟨j + 1, by omega, by go_num, N6.out⟩
        case measure => omega
      · have hjn : j = blocks.length := by omega
        subst hjn
        have MA : Hid (midH (dsB V) blocks blocks.length = blocks.map (dsB V)) := midH_all (dsB V) blocks
        rw [MA.out] at hI
        have z := hI.out.at'.bR
        have d0 := (cells_of hI.out.at'.bO).1 0
        have d1 := (cells_of hI.out.at'.bO).1 1
        have d2 := (cells_of hI.out.at'.bO).1 2
        have d3 := (cells_of hI.out.at'.bO).1 3
        have d4 := (cells_of hI.out.at'.bO).1 4
        have r0 := (cells_of z).1 0
        have r1 := (cells_of z).1 1
        have r2 := (cells_of z).1 2
        have r3 := (cells_of z).1 3
        have r4 := (cells_of z).1 4
        have rf := (cells_of z).2
        simp at d0 d1 d2 d3 d4 r0 r1 r2 r3 r4
        have z0 := heap_setCell_same wr _ 0 _ _ (.slice us1 sizes.length ks1) z
        have z1 := heap_setCell_same _ _ 1 _ _ (.int .i64 p) z0
        have z2 := heap_setCell_same _ _ 2 _ _ (.int .i64 q) z1
        have z3 := heap_setCell_same _ _ 3 _ _ (.int .i64 (V : Int)) z2
        have z4 : (((((wr.setCell ⟨w.heap.size + 1, 0, none⟩ (.slice us1 sizes.length ks1)).setCell ⟨w.heap.size + 1, 1, none⟩ (.int .i64 p)).setCell ⟨w.heap.size + 1, 2, none⟩ (.int .i64 q)).setCell ⟨w.heap.size + 1, 3, none⟩ (.int .i64 (V : Int))).setCell ⟨w.heap.size + 1, 4, none⟩ (.slice ub1 blocks.length kb1)).heap[w.heap.size + 1]? = some (.cells #[.slice us1 sizes.length ks1, .int .i64 p, .int .i64 q, .int .i64 (V : Int), .slice ub1 blocks.length kb1] 29 (0, 0)) := heap_setCell_same _ _ 4 _ _ (.slice ub1 blocks.length kb1) z3
        have ZF := hideP z4
        have BU : Hid (But (w.heap.size + 1) wr (((((wr.setCell ⟨w.heap.size + 1, 0, none⟩ (.slice us1 sizes.length ks1)).setCell ⟨w.heap.size + 1, 1, none⟩ (.int .i64 p)).setCell ⟨w.heap.size + 1, 2, none⟩ (.int .i64 q)).setCell ⟨w.heap.size + 1, 3, none⟩ (.int .i64 (V : Int))).setCell ⟨w.heap.size + 1, 4, none⟩ (.slice ub1 blocks.length kb1))) := ((((((But.refl (w.heap.size + 1) wr).set 0 (.slice us1 sizes.length ks1)).set 1 (.int .i64 p)).set 2 (.int .i64 q)).set 3 (.int .i64 (V : Int))).set 4 (.slice ub1 blocks.length kb1))
        clear z z0 z1 z2 z3 z4
        go_wp2
        refine bodyPost_ret (results_cell_row rfl _ _ (w.heap.size + 1) 29 #[.slice us1 sizes.length ks1, .int .i64 p, .int .i64 q, .int .i64 (V : Int), .slice ub1 blocks.length kb1] (0, 0) _ rfl ZF.out Tryz.underlying29 rfl (by kernel_rfl)) rfl ?_
        rw [E.out]
        have hlt := hltP hI.out.at'.bR
        have hsb := BU.out.size
        have LO := hI.out.li.all
        refine ⟨_, S, g1, cs2, rfl, GrKeeps.mono (GrKeeps.but hI.out.at'.gr (by omega) BU.out) (by omega), hI.out.at'.ow.above (B := w.heap.size + 2) (fun c hc => (LO c hc).1) (fun k hk hkl => BU.out.block k hkl (by omega)), fun c hc => ?_, hI.out.sn, hI.out.len, hI.out.num, hI.out.at'.bel.trans (BU.out.below (by omega) (by omega))⟩
        have := LO c hc
        omega
end Go.Proofs.YtelkpikbjfkpcaaGreat

/- How great the graph is that impl.DeadStores makes. -/
namespace Go.Proofs.YtelkpikbjfkpcaaGreat
open Go.ChangeShapes Go.WideShapes Go.ChangeAt Go.RowKit
theorem celS_map {h : Blk → Blk} (hh : ∀ b, (h b).code.length ≤ b.code.length) : ∀ (l : List Blk), celS (l.map h) ≤ celS l
  | [] => Nat.le_refl _
  | b :: l => by
    have h1 := celS_map hh l
    have h2 := hh b
    simp only [List.map_cons, celS, celN]
    omega
theorem dsP_few {x : Gr} (h : x.sz ≤ 1048576) : (dsP x).sizes.length + celS (dsP x).blocks ≤ 50000000 := by
  have h1 := celS_sz x.blocks
  simp only [Gr.sz, slSz] at h
  by_cases hok : grOk x = true
  · rw [dsP_ok hok]
    have h2 := celS_map (h := dsB x.slots.toNat) (fun b => dsCode_few _ b.code) x.blocks
    simp only
    omega
  · rw [dsP_no hok]
    omega
end Go.Proofs.YtelkpikbjfkpcaaGreat

/- How great the graph is that impl.Forward makes. -/
namespace Go.Proofs.YtelkpikbjfkpcaaGreat
open Go.ChangeShapes Go.WideShapes Go.ChangeAt Go.RowKit
theorem celS_fwd (V : Nat) : ∀ (l : List Blk), celS (l.map (fwdB V)) = celS l
  | [] => rfl
  | b :: l => by
    simp only [List.map_cons, celS, celS_fwd V l, celN, fwdB, fwdCode_len]
theorem fwdP_few {x : Gr} (h : x.sz ≤ 1048576) : (fwdP x).sizes.length + celS (fwdP x).blocks ≤ 50000000 := by
  have h1 := celS_sz x.blocks
  simp only [Gr.sz, slSz] at h
  by_cases hok : grOk x = true
  · rw [fwdP_ok hok]
    simp only [celS_fwd]
    omega
  · rw [fwdP_no hok]
    omega
end Go.Proofs.YtelkpikbjfkpcaaGreat
