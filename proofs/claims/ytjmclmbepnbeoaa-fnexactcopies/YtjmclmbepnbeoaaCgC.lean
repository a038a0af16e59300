/- The contract of impl.changed with impl.Copies$1 (written by wip/mkchg2.py). -/
import Derived.Test.YtjmclmbepnbeoaaCpyA
import Derived.Test.YtjmclmbepnbeoaaChAll
import Derived.Test.YtjmclmbepnbeoaaPut5
import Derived.Test.YtjmclmbepnbeoaaCgG
import Derived.Test.YtjmclmbepnbeoaaCpyB
import Derived.Deep.RegionHeld3
import Derived.Deep.LoopGhost
import Derived.Deep.CutRange
import Derived.Laws.EntriesVeiled
import Derived.Conc.WalkWords
namespace Go.Proofs.Ytjmclmbepnbeoaa
open Go.ChangeShapes Go.WideShapes Go.ChangeAt Go.RowKit
/-- Within a round: the block's own variable, the closures, what they know. -/
structure RdC (Wb : World) (gb SB tot : Nat) (vs : Nat → Array Value) (news : List Blk) (i : Nat) (L : List Ins) (b8 b9 pp m D n : Nat) (K : Kn) (c8 c9 : Array Value) (W : World) : Prop where
  ch : ChI Wb gb SB tot vs news i L W
  x8 : W.heap[b8]? = some (.cells c8 44 (0, 0))
  x9 : W.heap[b9]? = some (.cells c9 56 (0, 0))
  inv : SrD D pp m n K W
  dl : Wb.heap.size ≤ D ∧ SB < D ∧ b8 < D ∧ D ≤ W.heap.size
section
variable {Wb W W' : World} {gb SB tot : Nat} {vs : Nat → Array Value} {news : List Blk} {i : Nat} {L : List Ins} {b8 b9 pp m D n n' : Nat} {K K' : Kn} {c8 c9 : Array Value}
theorem RdC.stays (h : RdC Wb gb SB tot vs news i L b8 b9 pp m D n K c8 c9 W) (b : Below W.heap.size W W') : RdC Wb gb SB tot vs news i L b8 b9 pp m D n K c8 c9 W' :=
  ⟨h.ch.stays b, (b.block _ (hltP h.x8)).trans h.x8, (b.block _ (hltP h.x9)).trans h.x9, h.inv.stays b, h.dl.1, h.dl.2.1, h.dl.2.2.1, Nat.le_trans h.dl.2.2.2 b.size⟩
theorem RdC.step (h : RdC Wb gb SB tot vs news i L b8 b9 pp m D n K c8 c9 W) (b : KpM D W W') (hg : gb < Wb.heap.size) (hi : SrD D pp m n' K' W') : RdC Wb gb SB tot vs news i L b8 b9 pp m D n' K' c8 c9 W' := by
  obtain ⟨d1, d2, d3, d4⟩ := h.dl
  have bl : Below D W W' := b.below (Nat.le_refl _) d4
  refine ⟨h.ch.keepB bl d1 d2 hg, (bl.block _ d3).trans h.x8, (b.block _ (hltP h.x9) (Or.inr ⟨_, _, h.x9⟩)).trans h.x9, hi, d1, d2, d3, Nat.le_trans d4 b.size⟩

theorem RdC.app (h : RdC Wb gb SB tot vs news i L b8 b9 pp m D n K c8 c9 W) (b : But SB W W') (hg : gb < Wb.heap.size) {x : Ins} {k : Nat} (hk : k = L.length) (hs : OwnE InE W' Wb.heap.size (.slice (some ⟨SB, 0, none⟩) (k + 1) tot) (L ++ [x])) : RdC Wb gb SB tot vs news i (L ++ [x]) b8 b9 pp m D n K c8 c9 W' := by
  obtain ⟨d1, d2, d3, d4⟩ := h.dl
  obtain ⟨g, cap, cur, hv, _, hh, _⟩ := h.ch.st.parts InOk
  cases hv
  have nt : ∀ (b : Nat) (c : Array Value) (T : TypeId), W.heap[b]? = some (.cells c T (0, 0)) → T ≠ 48 → b ≠ SB := fun b c T h1 h2 e => by
    rw [e, hh] at h1
    injection h1 with h1
    injection h1 with _ e2
    exact h2 e2.symm
  have h8 := nt _ _ _ h.x8 (by decide)
  have h9 := nt _ _ _ h.x9 (by decide)
  exact ⟨h.ch.app b hg hk hs, keepQ b h.x8 h8, keepQ b h.x9 h9, h.inv.other b d2, d1, d2, d3, Nat.le_trans d4 b.size⟩
end
set_option maxRecDepth 100000 in
set_option maxHeartbeats 16000000 in
theorem chgC_any (S0 : Nat → Kn) (caps : Array Value) (x : Gr) (w : World) (B : Nat) (v : Array Value) (h : GrIs w B v x) (GO : OkIs 61 x) (hf : Fits x)
    (hbeg : ∀ (i : Nat) W, i < x.blocks.length → grOk x = true → Below w.heap.size w W → Calls Try.prog 42 (#[.int .i64 (i : Int)] ++ caps) W fun e w' => ∃ pp m, e = .returned (.agg #[.func (.func 70) #[] #[.pointer (some ⟨pp, 0, none⟩)], .func (.func 74) #[] #[.pointer (some ⟨pp, 0, none⟩)]]) ∧ SrD W.heap.size pp m 0 (S0 i) w' ∧ Below W.heap.size W w')
    (hok : grOk x = true → ∀ b ∈ x.blocks, ∀ z ∈ b.code, OkZ z) (hwn : grOk x = true → ∀ i (hi : i < x.blocks.length), (chB copK (S0 i) copJ x.blocks[i]).wf ∧ ∀ z ∈ (chB copK (S0 i) copJ x.blocks[i]).code, z.wf ∧ z.t.size ≤ maxLen) :
    Calls Try.prog 31 #[.agg v, .func (.func 42) #[] caps] w fun en w' => MadeGrW w (if grOk x = true then { x with blocks := x.blocks.mapIdx (fun i b => chB copK (S0 i) copJ b) } else x) en w' := by
  have HBG := hideP hbeg
  have HG0 := hideP h
  have HF := hideP hf
  have HOK := hideP hok
  have HWN := hideP hwn
  obtain ⟨y, hy⟩ : ∃ y, grOk x = y := ⟨_, rfl⟩
  have HY := hideP hy
  have CY : Hid (∀ W, Below w.heap.size w W → Calls Try.prog 61 #[.agg v] W fun en w' => en = .returned (.bool y) ∧ Below W.heap.size W w') := fun W hW => by rw [← hy]; exact GO W B v (GrKeeps.stays h hW)
  have CC : Hid (∀ W, Below w.heap.size w W → Calls Try.prog 60 #[.agg v] W fun en w' => MadeGr W x en w') := fun W hW => graphCopy_any x W B v (GrKeeps.stays h hW) hf
  have SC : Hid (grOk x = true → ∀ W, Below w.heap.size w W → Calls Try.prog 62 #[.agg v] W fun en w' => en = .returned (.int .i64 ((codeAll x.blocks).length : Nat)) ∧ Below W.heap.size W w') := fun hk W hW => impl_stepCount x W B v (GrKeeps.stays h hW) (by simp only [grOk, Bool.and_eq_true, decide_eq_true_eq] at hk; omega) (by simp only [grOk, Bool.and_eq_true, decide_eq_true_eq] at hk; omega)
  obtain ⟨X, hX⟩ : ∃ X, (if grOk x = true then { x with blocks := x.blocks.mapIdx (fun i b => chB copK (S0 i) copJ b) } else x) = X := ⟨_, rfl⟩
  have HX := hideP hX
  rw [hX]
  clear hy hX GO hf hok hwn hbeg
  obtain ⟨sizes, p, q, r, blocks⟩ := x
  obtain ⟨us, cs, ub, cb, rfl, _⟩ := h
  simp only at *
  have AL := hideP (below2 w (.cells #[.slice us sizes.length cs, .int .i64 p, .int .i64 q, .int .i64 r, .slice ub blocks.length cb] 29) (.cells #[.slice none 0 0, .int .i64 0, .int .i64 0, .int .i64 0, .slice none 0 0] 29))
  have TW := hideP (fun w1 => two (w := w) (w1 := w1) (o1 := .cells #[.slice us sizes.length cs, .int .i64 p, .int .i64 q, .int .i64 r, .slice ub blocks.length cb] 29) (o2 := .cells #[.slice none 0 0, .int .i64 0, .int .i64 0, .int .i64 0, .slice none 0 0] 29))
  have HZ2 : Hid (((w.alloc (.cells #[.slice us sizes.length cs, .int .i64 p, .int .i64 q, .int .i64 r, .slice ub blocks.length cb] 29)).alloc (.cells #[.slice none 0 0, .int .i64 0, .int .i64 0, .int .i64 0, .slice none 0 0] 29)).heap.size = w.heap.size + 2) := by show _ = _; simp
  go_enter Try.func31, Try.ntmps31
  go_wp2_with fail
  refine (CC.out _ AL.out).mono ?_
  rintro e1 w1 ⟨v1, S, g1, cs1, rfl, gi, ow, lo, n1, n2, n3, bel1⟩
  obtain ⟨P1, RR, L1, hw⟩ := TW.out w1 bel1
  rw [HZ2.out] at gi lo
  obtain ⟨us1, ks1, ub1, kb1, rfl, _⟩ := id gi
  simp only at gi ow n1 n2 n3 ⊢
  have al2 := (Below.refl w1.heap.size w1).alloc (Nat.le_refl _) (.cells #[.slice us1 sizes.length ks1, .int .i64 p, .int .i64 q, .int .i64 r, .slice ub1 blocks.length kb1] 29)
  have I0 : Hid (IfQ w w1.heap.size #[.slice us sizes.length cs, .int .i64 p, .int .i64 q, .int .i64 r, .slice ub blocks.length cb] #[.slice none 0 0, .int .i64 0, .int .i64 0, .int .i64 0, .slice none 0 0] #[.slice us1 sizes.length ks1, .int .i64 p, .int .i64 q, .int .i64 r, .slice ub1 blocks.length kb1] S g1 cs1 ⟨sizes, p, q, r, blocks⟩ (w1.alloc (.cells #[.slice us1 sizes.length ks1, .int .i64 p, .int .i64 q, .int .i64 r, .slice ub1 blocks.length kb1] 29))) := ⟨GrKeeps.stays gi al2, ow.stays al2, (al2.block _ (hltP P1)).trans P1, (al2.block _ (hltP RR)).trans RR, blk_newG w1 _, below_trans hw al2⟩
  have LO := hideP lo
  have NN : Hid (S.n = sizes.length ∧ cs1.length = blocks.length ∧ ∀ i (h : i < cs1.length), cs1[i].n = (blocks[i]!).code.length) := ⟨n1, n2, n3⟩
  clear bel1 P1 RR hw TW AL CC al2 gi ow lo n1 n2 n3 HZ2 L1
  go_upto_region 2 with fail
  obtain ⟨Wb, hWb⟩ : ∃ Wb, w1.alloc (.cells #[.slice us1 sizes.length ks1, .int .i64 p, .int .i64 q, .int .i64 r, .slice ub1 blocks.length kb1] 29) = Wb := ⟨_, rfl⟩
  rw [hWb] at I0 ⊢
  clear hWb
  have fc := (cells_of I0.out.bP).1
  have c0 := fc 0
  have c1 := fc 1
  have c2 := fc 2
  have c3 := fc 3
  have c4 := fc 4
  simp at c0 c1 c2 c3 c4
  clear fc
  go_wp2_with fail
  refine (CY.out _ I0.out.bel).mono ?_
  rintro e2 w2 ⟨rfl, bel2⟩
  have I2 := hideP (I0.out.stays bel2)
  clear CY c0 c1 c2 c3 c4 I0 bel2
  cases y with
  | false =>
    have E : Hid (X = ⟨sizes, p, q, r, blocks⟩) := by show _ = _; rw [← HX.out, HY.out]; rfl
    have z := I2.out.bR
    have fc := (cells_of I2.out.bO).1
    have d0 := fc 0
    have d1 := fc 1
    have d2 := fc 2
    have d3 := fc 3
    have d4 := fc 4
    simp at d0 d1 d2 d3 d4
    clear fc
    have fc := (cells_of z).1
    have r0 := fc 0
    have r1 := fc 1
    have r2 := fc 2
    have r3 := fc 3
    have r4 := fc 4
    simp at r0 r1 r2 r3 r4
    clear fc
    have rf := (cells_of z).2
    obtain ⟨z4, bu⟩ := put5n z rfl (.slice us1 sizes.length ks1) (.int .i64 p) (.int .i64 q) (.int .i64 r) (.slice ub1 blocks.length kb1)
    have ZF := hideP z4
    have BU := hideP bu
    clear z z4 bu
    go_wp2
    refine bodyPost_ret (results_cell_row rfl _ _ (w.heap.size + 1) 29 #[.slice us1 sizes.length ks1, .int .i64 p, .int .i64 q, .int .i64 r, .slice ub1 blocks.length kb1] (0, 0) _ rfl ZF.out Try.underlying29 rfl (by kernel_rfl)) rfl ?_
    rw [E.out]
    have hlt := hltP I2.out.bR
    have hsb := BU.out.size
    refine ⟨_, S, g1, cs1, rfl, GrKeeps.mono (GrKeeps.but I2.out.gr (by omega) BU.out) (by omega), (I2.out.ow.above (B := w.heap.size + 2) (fun c hc => (LO.out c hc).1) (fun k hk hkl => BU.out.block k hkl (by omega))).weak, fun c hc => ?_, NN.out.1, NN.out.2.1, NN.out.2.2, I2.out.bel.trans (BU.out.below (by omega) (by omega))⟩
    have := LO.out c hc
    have := hltP I2.out.bO
    omega
  | true =>
    have hok0 := HY.out
    simp only [grOk, Bool.and_eq_true, decide_eq_true_eq] at hok0
    obtain ⟨news, hnews⟩ : ∃ news, blocks.mapIdx (fun i b => chB copK (S0 i) copJ b) = news := ⟨_, rfl⟩
    have E : Hid (X = ⟨sizes, p, q, r, news⟩) := by show _ = _; rw [← HX.out, HY.out, ← hnews]; rfl
    have hnl : news.length = blocks.length := by rw [← hnews, List.length_mapIdx]
    have HNL := hideP hnl
    have hnk : Hid (∀ k (hk : k < blocks.length), ∃ hk2 : k < news.length, news[k] = chB copK (S0 k) copJ blocks[k]) := fun k hk => ⟨by omega, by simp only [← hnews, List.getElem_mapIdx]⟩
    obtain ⟨tot, htot⟩ : ∃ tot, (codeAll blocks).length = tot := ⟨_, rfl⟩
    have ht1 : tot ≤ 1000 := by omega
    have hb1 : 1 ≤ blocks.length ∧ blocks.length ≤ 300 := by omega
    have CL : Hid ((codeAll news).length = tot) := by show _ = _; rw [← htot, ← hnews]; exact codeAll_mapIdx (fun i b => chB_len _ _ _ b) blocks
    have SCT := hideP (SC.out HY.out)
    rw [htot] at SCT
    have HOZ := hideP (HOK.out HY.out)
    have HWZ : Hid (∀ k (hk : k < news.length), news[k].wf ∧ ∀ z ∈ news[k].code, z.wf ∧ z.t.size ≤ maxLen) := fun k hk => by
      obtain ⟨hk2, e⟩ := hnk.out k (by omega)
      rw [e]
      exact HWN.out HY.out k (by omega)
    clear hnews htot hok0 SC HOK HWN HX
    have fc := (cells_of I2.out.bP).1
    have c0 := fc 0
    have c1 := fc 1
    have c2 := fc 2
    have c3 := fc 3
    have c4 := fc 4
    simp at c0 c1 c2 c3 c4
    clear fc
    go_wp2_with fail
    refine (SCT.out _ I2.out.bel).mono ?_
    rintro e3 w3 ⟨rfl, bel3⟩
    have mk := make_0n tot ht1
    have ON := own_0n tot ht1 w3 (B := w2.heap.size) bel3.size
    obtain ⟨ZC, hZC⟩ : ∃ ZC, madeCells InE.z.cells (tot * 7) = ZC := ⟨_, rfl⟩
    simp only [hZC] at mk ON
    have al := (Below.refl w3.heap.size w3).alloc (Nat.le_refl _) (.cells ZC 48)
    clear hZC
    have BL := hideP (below_trans bel3 al)
    obtain ⟨hub, vs, hI0, hvs⟩ := chStart (x := ⟨sizes, p, q, r, blocks⟩) (news := news) rfl I2.out.gr I2.out.ow NN.out.2.1 hnl (by omega) BL.out ON
    simp only at hub hvs
    subst hub
    have HI0 := hideP hI0
    have HVS := hideP hvs
    have BE := hideP (below_trans I2.out.bel BL.out)
    have LI := hideP (I2.out.ow.mem)
    clear bel3 ON hI0 hvs c0 c1 c2 c3 c4 SCT al
    go_upto_region 5 with fail
    obtain ⟨SB, hSB⟩ : ∃ SB, w3.heap.size = SB := ⟨_, rfl⟩
    obtain ⟨wc, hwc⟩ : ∃ wc, w3.alloc (.cells ZC 48) = wc := ⟨_, rfl⟩
    rw [hSB] at HI0 ⊢
    rw [hwc] at HI0 BL BE ⊢
    clear hSB hwc mk
    have bO2 := hideP ((BL.out.block _ (hltP I2.out.bO)).trans I2.out.bO)
    have hgl : g1 < w2.heap.size ∧ w.heap.size + 2 ≤ g1 ∧ g1 < w1.heap.size := by
      have hne : cs1 ≠ [] := fun e => by have := NN.out.2.1; rw [e] at this; simp at this; omega
      obtain ⟨pq, hp⟩ := LI.out.2.1 hne
      have h1 := LO.out _ hp
      have h2 := hltP I2.out.bO
      exact ⟨by omega, h1.1, h1.2⟩
    have hNO : w1.heap.size < w2.heap.size := hltP I2.out.bO
    have BE5' : w.heap.size ≤ w2.heap.size := I2.out.bel.size
    have fc := (cells_of bO2.out).1
    have d0 := fc 0
    have d1 := fc 1
    have d2 := fc 2
    have d3 := fc 3
    have d4 := fc 4
    simp at d0 d1 d2 d3 d4
    clear fc
    go_wp2
    clear d0 d1 d2 d3 d4
    go_loopg [6, 25] blocks.length (fun gk st ix wr => ∃ i n : Nat, gk + i = blocks.length ∧ ix = .int .i64 i ∧ st = .slice (some ⟨SB, 0, none⟩) n tot ∧ Hid (n = (codeAll (news.take i)).length) ∧ Hid (ChI w2 g1 SB tot vs news i (codeAll (news.take i)) wr) ∧ Hid (Below w.heap.size w wr))
    case atStart => exact ⟨0, 0, by simp, rfl, rfl, by show _ = _; rfl, HI0.out, BE.out⟩
    case round =>
      obtain ⟨i, n, hgk, rfl, rfl, hnL, hCI, hBE⟩ := hrel
      clear HI0 BL BE bO2
      by_cases hlt : i < blocks.length
      · obtain ⟨hs5, uc, kc, hvk, hwk, hcode⟩ := HVS.out i hlt
        obtain ⟨hin, hnew⟩ := hnk.out i hlt
        have hcells := hCI.out.cells hin
        rw [hvk] at hcells
        have HOi := hideP (HOZ.out _ (List.getElem_mem hlt))
        have LE := hideP (code_leC (bs := news) hin)
        have TK := hideP (codeAll_take news i hin)
        obtain ⟨BK, hBK⟩ : ∃ BK, blocks[i] = BK := ⟨_, rfl⟩
        rw [hBK] at hcells hnew HOi hwk
        simp only [hBK] at hcode
        have HNW : Hid (news[i] = chB copK (S0 i) copJ BK) := hnew
        have HWK := hideP hwk
        have HCODE := hideP hcode
        clear hvk hBK hnew hwk hcode
        obtain ⟨code, jump, a, t0, els⟩ := BK
        simp only at hcells HCODE HOi
        obtain ⟨nc, hnc⟩ : ∃ nc, code.length = nc := ⟨_, rfl⟩
        rw [hnc] at hcells
        have HNC := hideP hnc
        have hlen : Hid (news[i].code.length = nc) := by show _ = _; rw [HNW.out, chB_len]; exact hnc
        rw [hlen.out, CL.out, ← hnL.out] at LE
        have hroom : n + nc ≤ tot := LE.out
        have q0 : wr.cell? ⟨g1, i * 5, none⟩ = some (.slice uc nc kc) := hcells 0 (by omega)
        have q1 : wr.cell? ⟨g1, i * 5 + 1, none⟩ = some (.int .i64 jump) := hcells 1 (by omega)
        have q2 : wr.cell? ⟨g1, i * 5 + 2, none⟩ = some (.int .i64 a) := hcells 2 (by omega)
        have q3 : wr.cell? ⟨g1, i * 5 + 3, none⟩ = some (.int .i64 t0) := hcells 3 (by omega)
        have q4 : wr.cell? ⟨g1, i * 5 + 4, none⟩ = some (.int .i64 els) := hcells 4 (by omega)
        have hnc1 : nc ≤ 1000 := by omega
        have al := (Below.refl wr.heap.size wr).alloc (Nat.le_refl _) (.cells #[.slice uc nc kc, .int .i64 jump, .int .i64 a, .int .i64 t0, .int .i64 els] 44)
        have CI1 := hideP (hCI.out.stays al)
        have BE1 := hideP (below_trans hBE.out al)
        have X8 := hideP (blk_newG wr (.cells #[.slice uc nc kc, .int .i64 jump, .int .i64 a, .int .i64 t0, .int .i64 els] 44))
        have hw2 : w2.heap.size ≤ wr.heap.size := hCI.out.kp.size
        clear hcells hnc LE al hCI hBE
        go_upto_region 8 with fail
        obtain ⟨wb, hwb⟩ : ∃ wb, wr.alloc (.cells #[.slice uc nc kc, .int .i64 jump, .int .i64 a, .int .i64 t0, .int .i64 els] 44) = wb := ⟨_, rfl⟩
        obtain ⟨b8, hb8⟩ : ∃ b8, wr.heap.size = b8 := ⟨_, rfl⟩
        rw [hwb] at CI1 BE1 X8 ⊢
        rw [hb8] at X8 hw2 ⊢
        clear hwb hb8 q0 q1 q2 q3 q4
        go_wp2_with fail
        refine (HBG.out i wb hlt HY.out BE1.out).mono ?_
        rintro e4 w4 ⟨pp, m, rfl, i4, bel4⟩
        have al := (Below.refl w4.heap.size w4).alloc (Nat.le_refl _) (.cells #[.func (.func 70) #[] #[.pointer (some ⟨pp, 0, none⟩)], .func (.func 74) #[] #[.pointer (some ⟨pp, 0, none⟩)]] 56)
        have hb82 : b8 < wb.heap.size := (Array.getElem?_eq_some_iff.1 X8.out).1
        have hDD : Hid (w2.heap.size ≤ wb.heap.size ∧ SB < wb.heap.size ∧ w.heap.size ≤ wb.heap.size) := ⟨CI1.out.kp.size, CI1.out.sb.2, BE1.out.size⟩
        have R5 : Hid (RdC w2 g1 SB tot vs news i (codeAll (news.take i)) b8 w4.heap.size pp m wb.heap.size 0 (S0 i) #[.slice uc nc kc, .int .i64 jump, .int .i64 a, .int .i64 t0, .int .i64 els] #[.func (.func 70) #[] #[.pointer (some ⟨pp, 0, none⟩)], .func (.func 74) #[] #[.pointer (some ⟨pp, 0, none⟩)]] (w4.alloc (.cells #[.func (.func 70) #[] #[.pointer (some ⟨pp, 0, none⟩)], .func (.func 74) #[] #[.pointer (some ⟨pp, 0, none⟩)]] 56))) :=
          ⟨(CI1.out.stays bel4).stays al, (al.block _ (by have := bel4.size; omega)).trans ((bel4.block _ hb82).trans X8.out), blk_newG w4 _, i4.stays al, hDD.out.1, hDD.out.2.1, hb82, by have := bel4.size; have := al.size; omega⟩
        have BE5 := hideP (below_trans (below_trans BE1.out bel4) al)
        have hb9g : w2.heap.size ≤ w4.heap.size := by have := CI1.out.kp.size; have := bel4.size; omega
        clear CI1 BE1 X8 i4 al bel4
        go_upto_region 9 with fail
        obtain ⟨w5, hw5⟩ : ∃ w5, w4.alloc (.cells #[.func (.func 70) #[] #[.pointer (some ⟨pp, 0, none⟩)], .func (.func 74) #[] #[.pointer (some ⟨pp, 0, none⟩)]] 56) = w5 := ⟨_, rfl⟩
        obtain ⟨b9, hb9⟩ : ∃ b9, w4.heap.size = b9 := ⟨_, rfl⟩
        rw [hw5] at R5 BE5 ⊢
        rw [hb9] at R5 hb9g ⊢
        obtain ⟨Dz, hDz⟩ : ∃ D, wb.heap.size = D := ⟨_, rfl⟩
        rw [hDz] at R5 hDD
        clear hw5 hb9 hDz
        obtain ⟨LD, hLD⟩ : ∃ LD, codeAll (news.take i) = LD := ⟨_, rfl⟩
        rw [hLD] at R5 hnL TK
        have HLD := hideP hLD
        clear hLD
        have fc := (cells_of R5.out.x8).1
        have f0 := fc 0
        have f1 := fc 1
        have f2 := fc 2
        have f3 := fc 3
        have f4 := fc 4
        simp at f0 f1 f2 f3 f4
        clear fc
        go_wp2
        clear f0 f1 f2 f3 f4
        go_loopg [6, 38] nc (fun gk st ix wr => ∃ j n2 : Nat, gk + j = nc ∧ ix = .int .i64 j ∧ st = .slice (some ⟨SB, 0, none⟩) n2 tot ∧ Hid (n2 = n + j) ∧ Hid (RdC w2 g1 SB tot vs news i (LD ++ (scanUp copK (S0 i) code j).2) b8 b9 pp m Dz j (scanUp copK (S0 i) code j).1 #[.slice uc nc kc, .int .i64 jump, .int .i64 a, .int .i64 t0, .int .i64 els] #[.func (.func 70) #[] #[.pointer (some ⟨pp, 0, none⟩)], .func (.func 74) #[] #[.pointer (some ⟨pp, 0, none⟩)]] wr) ∧ Hid (Below w.heap.size w wr))
        case atStart => exact ⟨0, n, by simp, rfl, rfl, by show _ = _; rfl, hideP (by simpa [scanUp] using R5.out), BE5.out⟩
        case round =>
          obtain ⟨j, n2, hgk2, rfl, rfl, hn2, hR, hBE⟩ := hrel
          clear R5 BE5
          by_cases hj : j < nc
          · have hjc : j < code.length := by rw [HNC.out]; exact hj
            obtain ⟨bb, oo, op, d, xa, xb, xc, xn, xt, hu, _, hbl, he, q0, q1, q2, q3, q4, q5, q6, _⟩ := Ins_get (HCODE.out _ hR.out.ch.kp) j hjc
            subst hu
            have hoz := HOi.out _ (List.getElem_mem hjc)
            have UP := hideP (scanUp_at (f := copK) (s0 := (S0 i)) hjc)
            rw [he] at hoz UP
            obtain ⟨K, hK⟩ : ∃ K, (scanUp copK (S0 i) code j).1 = K := ⟨_, rfl⟩
            obtain ⟨D, hD⟩ : ∃ D, (scanUp copK (S0 i) code j).2 = D := ⟨_, rfl⟩
            have hDl : D.length = j := by rw [← hD]; exact scanUp_len j (Nat.le_of_lt hjc)
            rw [hK, hD] at UP hR
            have ST : Hid (∀ W, SrD Dz pp m j K W → Dz ≤ W.heap.size → Calls Try.prog 70 #[.agg #[.int .i64 op, .int .i64 d, .int .i64 xa, .int .i64 xb, .int .i64 xc, .int .i64 xn, .string xt], .pointer (some ⟨pp, 0, none⟩)] W fun e w' => e = .returned (.agg (insV (copK K ⟨op, d, xa, xb, xc, xn, xt⟩).2)) ∧ SrD Dz pp m (j + 1) (copK K ⟨op, d, xa, xb, xc, xn, xt⟩).1 w' ∧ KpM Dz W w') := fun W hW hDW => stepCz ⟨op, d, xa, xb, xc, xn, xt⟩ K W Dz pp m j hW hoz (by omega) hDW
            obtain ⟨FK, hFK⟩ : ∃ FK, copK K ⟨op, d, xa, xb, xc, xn, xt⟩ = FK := ⟨_, rfl⟩
            rw [hFK] at ST UP
            obtain ⟨K', y⟩ := FK
            obtain ⟨yo, yd, ya, yb, yc, yn, yt⟩ := y
            simp only [insV] at ST UP
            have HDL := hideP hDl
            clear hFK hK hD he hoz hDl
            have al := (Below.refl wr.heap.size wr).alloc (Nat.le_refl _) (.cells #[.int .i64 op, .int .i64 d, .int .i64 xa, .int .i64 xb, .int .i64 xc, .int .i64 xn, .string xt] 48)
            have R6 := hideP (hR.out.stays al)
            have BE6 := hideP (below_trans hBE.out al)
            have X12 := hideP (blk_newG wr (.cells #[.int .i64 op, .int .i64 d, .int .i64 xa, .int .i64 xb, .int .i64 xc, .int .i64 xn, .string xt] 48))
            clear al hR hBE
            go_upto_region 13 with fail
            obtain ⟨w6, hw6⟩ : ∃ w6, wr.alloc (.cells #[.int .i64 op, .int .i64 d, .int .i64 xa, .int .i64 xb, .int .i64 xc, .int .i64 xn, .string xt] 48) = w6 := ⟨_, rfl⟩
            obtain ⟨b12, hb12⟩ : ∃ b12, wr.heap.size = b12 := ⟨_, rfl⟩
            rw [hw6] at R6 BE6 X12 ⊢
            rw [hb12] at X12 ⊢
            clear hw6 hb12 q0 q1 q2 q3 q4 q5 q6
            have fc := (cells_of X12.out).1
            have x0 := fc 0
            have x1 := fc 1
            have x2 := fc 2
            have x3 := fc 3
            have x4 := fc 4
            have x5 := fc 5
            have x6 := fc 6
            simp at x0 x1 x2 x3 x4 x5 x6
            clear fc
            have g0 := (cells_of R6.out.x9).1 0
            simp at g0
            go_wp2_with fail
            refine (ST.out _ R6.out.inv R6.out.dl.2.2.2).mono ?_
            rintro e7 w7 ⟨rfl, i7, b7⟩
            have R7 := hideP (R6.out.step b7 hgl.1 i7)
            have BE7 : Hid (Below w.heap.size w w7) := BE6.out.trans (b7.below hDD.out.2.2 R6.out.dl.2.2.2)
            clear i7 b7 R6 BE6 X12 ST g0 x0 x1 x2 x3 x4 x5 x6
            have al := (Below.refl w7.heap.size w7).alloc (Nat.le_refl _) (.cells #[.int .i64 yo, .int .i64 yd, .int .i64 ya, .int .i64 yb, .int .i64 yc, .int .i64 yn, .string yt] 48)
            have R8 := hideP (R7.out.stays al)
            have BE8 := hideP (below_trans BE7.out al)
            have hll : n2 = (LD ++ D).length := by rw [List.length_append, HDL.out, ← hnL.out]; exact hn2.out
            have OA : Hid (OwnE InE (w7.alloc (.cells #[.int .i64 yo, .int .i64 yd, .int .i64 ya, .int .i64 yb, .int .i64 yc, .int .i64 yn, .string yt] 48)) w2.heap.size (.slice (some ⟨SB, 0, none⟩) n2 tot) (LD ++ D)) := by
              show OwnE _ _ _ _ _
              rw [hll]
              exact R8.out.ch.st
            have CQ : Hid (∀ r, r < InE.sz → (w7.alloc (.cells #[.int .i64 yo, .int .i64 yd, .int .i64 ya, .int .i64 yb, .int .i64 yc, .int .i64 yn, .string yt] 48)).cell? ⟨w7.heap.size, 0 + r, none⟩ = (InE.cs (⟨yo, yd, ya, yb, yc, yn, yt⟩ : Ins))[r]?) := fun r _ => by
              have := (cells_of (newI w7 #[.int .i64 yo, .int .i64 yd, .int .i64 ya, .int .i64 yb, .int .i64 yc, .int .i64 yn, .string yt])).1 r
              rw [Nat.zero_add, this]; simp [InE]
            have HLL := hideP hll
            have hrm : Hid ((LD ++ D).length + 1 ≤ tot ∧ (LD ++ D).length + 1 ≤ 8000000) := by
              have e1 := hn2.out
              rw [← hll]
              exact ⟨by omega, by omega⟩
            have hB2 : Hid (w2.heap.size ≤ (w7.alloc (.cells #[.int .i64 yo, .int .i64 yd, .int .i64 ya, .int .i64 yb, .int .i64 yc, .int .i64 yn, .string yt] 48)).heap.size) := R8.out.ch.kp.size
            obtain ⟨Q, hQ⟩ : ∃ Q, LD ++ D = Q := ⟨_, rfl⟩
            rw [hQ] at R8 OA hrm HLL
            have HQ := hideP hQ
            clear al R7 BE7 hll hQ
            go_wp2_with (at_builtin; refine list_appRm InOk _ rfl _ _ rfl w2.heap.size SB n2 tot Q (⟨yo, yd, ya, yb, yc, yn, yt⟩ : Ins) w7.heap.size 0 1 rfl rfl OA.out HLL.out CQ.out hrm.out.1 hrm.out.2 hB2.out ?_; intro w9 o9 b9')
            have R9 := hideP (R8.out.app b9' hgl.1 HLL.out o9)
            have hSBw : w2.heap.size ≤ SB := R8.out.ch.sb.1
            have BE9 : Hid (Below w.heap.size w w9) := BE8.out.trans (b9'.below (by have := BE5'; omega) BE8.out.size)
            have UP2 : Hid ((scanUp copK (S0 i) code (j + 1)).1 = K' ∧ LD ++ (scanUp copK (S0 i) code (j + 1)).2 = Q ++ [⟨yo, yd, ya, yb, yc, yn, yt⟩]) := by
              rw [UP.out, ← HQ.out]
              exact ⟨rfl, by simp⟩
            clear R8 BE8 OA CQ hrm hB2 o9 b9' HQ UP
            go_wp2
            go_roundg (nc - (j + 1))
            case rel => exact ⟨j + 1, n2 + 1, by omega, by go_num, by go_num, by have := hn2.out; show _ = _; omega, by show RdC _ _ _ _ _ _ _ _ _ _ _ _ _ _ _ _ _ _; rw [UP2.out.1, UP2.out.2]; exact R9.out, BE9.out⟩
            case measure => omega
          · have hjn : nc = j := by omega
            subst hjn
            obtain ⟨K, hK⟩ : ∃ K, (scanUp copK (S0 i) code nc).1 = K := ⟨_, rfl⟩
            obtain ⟨D, hD⟩ : ∃ D, (scanUp copK (S0 i) code nc).2 = D := ⟨_, rfl⟩
            obtain ⟨JB, hJB⟩ : ∃ JB, copJ K ⟨code, jump, a, t0, els⟩ = JB := ⟨_, rfl⟩
            have NB : Hid (news[i] = { JB with code := D }) := by
              show _ = _
              rw [HNW.out, chB]
              simp only [HNC.out, hK, hD, hJB]
            rw [hK, hD] at hR
            have JP : Hid (∀ W, SrD Dz pp m nc K W → Calls Try.prog 74 #[.agg #[.slice uc nc kc, .int .i64 jump, .int .i64 a, .int .i64 t0, .int .i64 els], .pointer (some ⟨pp, 0, none⟩)] W fun e w' => JumpD JB W e w') := fun W hW => by rw [← hJB]; exact jumpC_all code jump a t0 els K W pp m nc nc kc uc hW.sr HWK.out.2.1
            obtain ⟨jc, jj, ja, jt, je⟩ := JB
            simp only [JumpD] at JP NB
            have bO3 := hideP ((hR.out.ch.kp.block _ hNO (by omega)).trans I2.out.bO)
            have hb8l : b8 < wr.heap.size := (Array.getElem?_eq_some_iff.1 hR.out.x8).1
            have hb9l : b9 < wr.heap.size := (Array.getElem?_eq_some_iff.1 hR.out.x9).1
            have hb8g : w2.heap.size ≤ b8 := hw2
            have hol : w1.heap.size < wr.heap.size := (Array.getElem?_eq_some_iff.1 bO3.out).1
            have SK : Hid (∀ W' : World, (∀ k, k < wr.heap.size → k ≠ g1 → W'.heap[k]? = wr.heap[k]?) → W'.cell? ⟨w1.heap.size, 4, none⟩ = some (.slice (some ⟨g1, 0, none⟩) blocks.length kb1) ∧ W'.cell? ⟨b9, 1, none⟩ = some (.func (.func 74) #[] #[.pointer (some ⟨pp, 0, none⟩)]) ∧ W'.cell? ⟨b8, 0, none⟩ = some (.slice uc nc kc) ∧ W'.cell? ⟨b8, 1, none⟩ = some (.int .i64 jump) ∧ W'.cell? ⟨b8, 2, none⟩ = some (.int .i64 a) ∧ W'.cell? ⟨b8, 3, none⟩ = some (.int .i64 t0) ∧ W'.cell? ⟨b8, 4, none⟩ = some (.int .i64 els)) := fun W' hk =>
              ⟨(cells_of ((hk _ hol (by omega)).trans bO3.out)).1 4, (cells_of ((hk _ hb9l (by omega)).trans hR.out.x9)).1 1, (cells_of ((hk _ hb8l (by omega)).trans hR.out.x8)).1 0, (cells_of ((hk _ hb8l (by omega)).trans hR.out.x8)).1 1, (cells_of ((hk _ hb8l (by omega)).trans hR.out.x8)).1 2, (cells_of ((hk _ hb8l (by omega)).trans hR.out.x8)).1 3, (cells_of ((hk _ hb8l (by omega)).trans hR.out.x8)).1 4⟩
            have RC : Hid (∀ W', Below wr.heap.size wr W' → (∃ u0, W'.cell? ⟨g1, i * 5, none⟩ = some u0) ∧ (∃ u0, W'.cell? ⟨g1, i * 5 + 1, none⟩ = some u0) ∧ (∃ u0, W'.cell? ⟨g1, i * 5 + 2, none⟩ = some u0) ∧ (∃ u0, W'.cell? ⟨g1, i * 5 + 3, none⟩ = some u0) ∧ (∃ u0, W'.cell? ⟨g1, i * 5 + 4, none⟩ = some u0) ∧ ∀ q, W'.frozen? ⟨g1, q, none⟩ = false) := fun W' hb => by
              have ch := hR.out.ch.stays hb
              have hc := ch.cells hin
              obtain ⟨hs5, uc', kc', hvk, _, _⟩ := HVS.out i hlt
              rw [hvk] at hc
              exact ⟨⟨_, hc 0 (by omega)⟩, ⟨_, hc 1 (by omega)⟩, ⟨_, hc 2 (by omega)⟩, ⟨_, hc 3 (by omega)⟩, ⟨_, hc 4 (by omega)⟩, ch.frozen⟩
            have INX : Hid (∀ W', Below wr.heap.size wr W' → SrD Dz pp m nc K W') := fun W' hb => hR.out.inv.stays hb
            clear hJB hK hD HNW
            go_upto_region 15 with fail
            refine wp_region_held_drew (S := fun W' => W'.cell? ⟨w1.heap.size, 4, none⟩ = some (.slice (some ⟨g1, 0, none⟩) blocks.length kb1) ∧ W'.cell? ⟨b9, 1, none⟩ = some (.func (.func 74) #[] #[.pointer (some ⟨pp, 0, none⟩)]) ∧ W'.cell? ⟨b8, 0, none⟩ = some (.slice uc nc kc) ∧ W'.cell? ⟨b8, 1, none⟩ = some (.int .i64 jump) ∧ W'.cell? ⟨b8, 2, none⟩ = some (.int .i64 a) ∧ W'.cell? ⟨b8, 3, none⟩ = some (.int .i64 t0) ∧ W'.cell? ⟨b8, 4, none⟩ = some (.int .i64 els)) (by kernel_rfl) (SK.out _ (fun _ _ _ => rfl)) (fun hHeld => ?_)
            refine wpAnyH_take (i := 0) (v := (.pointer (some ⟨w1.heap.size, 4, none⟩))) rfl (by kernel_rfl) (by kernel_rfl) (by kernel_rfl) (fun _ _ _ h => h) (Or.inl ⟨by rfl, ?_⟩) hHeld ?_
            · (intro w hSw; (try dsimp only at hSw); go_simp)
            walk_nrm
            refine wpAnyH_take (i := 1) (v := (.slice (some ⟨g1, 0, none⟩) blocks.length kb1)) rfl (by kernel_rfl) (by kernel_rfl) (by kernel_rfl) (fun _ _ _ h => h) (Or.inl ⟨by rfl, ?_⟩) hHeld ?_
            · (intro w hSw; (try dsimp only at hSw); go_simp)
            walk_nrm
            refine wpAnyH_take (i := 2) (v := (.int .i64 (i : Int))) rfl (by kernel_rfl) (by kernel_rfl) (by kernel_rfl) (fun _ _ _ h => h) (Or.inl ⟨by rfl, ?_⟩) hHeld ?_
            · (intro w hSw; (try dsimp only at hSw); go_simp)
            walk_nrm
            refine wpAnyH_take (i := 3) (v := (.pointer (some ⟨b9, 1, none⟩))) rfl (by kernel_rfl) (by kernel_rfl) (by kernel_rfl) (fun _ _ _ h => h) (Or.inl ⟨by rfl, ?_⟩) hHeld ?_
            · (intro w hSw; (try dsimp only at hSw); go_simp)
            walk_nrm
            refine wpAnyH_take (i := 4) (v := (.func (.func 74) #[] #[.pointer (some ⟨pp, 0, none⟩)])) rfl (by kernel_rfl) (by kernel_rfl) (by kernel_rfl) (fun _ _ _ h => h) (Or.inl ⟨by rfl, ?_⟩) hHeld ?_
            · (intro w hSw; (try dsimp only at hSw); go_simp)
            walk_nrm
            refine wpAnyH_take (i := 5) (v := (.agg #[.slice uc nc kc, .int .i64 jump, .int .i64 a, .int .i64 t0, .int .i64 els])) rfl (by kernel_rfl) (by kernel_rfl) (by kernel_rfl) (fun _ _ _ h => h) (Or.inl ⟨by rfl, ?_⟩) hHeld ?_
            · (intro w hSw; (try dsimp only at hSw); go_simp)
            walk_nrm
            refine wpAnyH_ready (rs := [6]) (by kernel_rfl) (by simp) ?_
            refine AllReadyH.cons rfl (fun K hK => ?_) AllReadyH.nil
            go_simp
            go_at_call 74
            refine (JP.out _ (INX.out _ (Below.refl _ _).drew)).mono ?_
            rintro eA wA ⟨ad, nn, cc, rfl, belA⟩
            have HB9 := hideP ((Below.refl wr.heap.size wr).drew.trans (belA.mono (Nat.le_refl _)))
            go_wp2_with fail
            refine hK.out _ _ (SK.out _ (fun k hk _ => HB9.out.block k hk)) (fun hHeld => ?_)
            clear hK K belA
            walk_nrm
            refine wpAnyH_take (i := 7) (v := (.pointer (some ⟨g1, i * 5, none⟩))) rfl (by kernel_rfl) (by kernel_rfl) (by kernel_rfl) (fun _ _ _ h => h) (Or.inl ⟨by rfl, ?_⟩) hHeld ?_
            · (intro w hSw; (try dsimp only at hSw); go_simp)
            walk_nrm
            obtain ⟨⟨s0', h0'⟩, ⟨s1', h1'⟩, ⟨s2', h2'⟩, ⟨s3', h3'⟩, ⟨s4', h4'⟩, sf'⟩ := RC.out wA HB9.out
            refine wpAnyH_ready (rs := [8]) (by kernel_rfl) (by simp) ?_
            refine AllReadyH.cons rfl (fun K hK => ?_) AllReadyH.nil
            go_simp
            obtain ⟨cA, TA, hpA, hpS⟩ := (hR.out.ch.stays HB9.out).plain
            obtain ⟨wB, hwB⟩ : ∃ wB, (((((wA.setCell ⟨g1, i * 5, none⟩ (.slice ad nn cc)).setCell ⟨g1, i * 5 + 1, none⟩ (.int .i64 jj)).setCell ⟨g1, i * 5 + 2, none⟩ (.int .i64 ja)).setCell ⟨g1, i * 5 + 3, none⟩ (.int .i64 jt)).setCell ⟨g1, i * 5 + 4, none⟩ (.int .i64 je)) = wB := ⟨_, rfl⟩
            rw [hwB]
            obtain ⟨⟨uB, c0B⟩, fB, buB⟩ := set5_cell hpA _ _ _ _ _ hwB (by omega)
            have KB : Hid (∀ k, k < wr.heap.size → k ≠ g1 → wB.heap[k]? = wr.heap[k]?) := fun k hk hne => (buB.block k (Nat.lt_of_lt_of_le hk HB9.out.size) hne).trans (HB9.out.block k hk)
            refine hK.out _ _ (SK.out _ KB.out) (fun hHeld => ?_)
            clear hK K
            refine wpAnyH_done (by kernel_rfl) ?_ _
            have TL : Hid (∀ ad2 c2, (nc = 0 ∨ ad2 = some ⟨SB, n * 7, none⟩) → ChI w2 g1 SB tot vs news (i + 1) (codeAll (news.take (i + 1))) (wB.setCell ⟨g1, i * 5, none⟩ (.slice ad2 nc c2)) ∧ Below w.heap.size w (wB.setCell ⟨g1, i * 5, none⟩ (.slice ad2 nc c2))) := fun ad2 c2 had => by
              have t1 := (hR.out.ch.stays HB9.out).tell hgl.1 hin (HVS.out i hlt).1 (.slice ad nn cc) ad2 c2 nc NB.out hlen.out.symm (by rw [HLD.out, ← hnL.out]; exact had)
              rw [hwB] at t1
              refine ⟨?_, ((below_trans hBE.out HB9.out).trans (buB.below (by omega) (below_trans hBE.out HB9.out).size)).trans (((But.refl g1 wB).set (i * 5) (.slice ad2 nc c2)).below (by omega) ?_)⟩
              · have e9 : codeAll (news.take (i + 1)) = LD ++ D := by rw [TK.out]; simp only [NB.out]
                rw [e9]
                exact t1
              · have := ((below_trans hBE.out HB9.out).trans (buB.below (by omega) (below_trans hBE.out HB9.out).size)).size
                omega
            have d4 := (cells_of ((KB.out _ hol (by omega)).trans bO3.out)).1 4
            simp at d4
            have hnn : Hid (n2 = (codeAll (news.take (i + 1))).length) := by
              show _ = _
              rw [hn2.out, TK.out, List.length_append, hlen.out, ← hnL.out]
            clear hHeld h0' h1' h2' h3' h4' sf' hpA hpS hwB RC INX JP SK KB HB9 hR bO3 buB
            have hi1 : (n : Int) ≤ (n2 : Int) := by have := hn2.out; omega
            have hi2 : (n2 : Int) ≤ (tot : Int) := by have := hn2.out; omega
            go_upto_region 16 with fail
            by_cases hz : nc = 0
            · obtain rfl : n2 = n := by have := hn2.out; omega
              subst hz
              have TX := hideP (TL.out (some ⟨SB, 0, none⟩) 0 (Or.inl rfl))
              go_region
              obtain ⟨wD, hwD⟩ : ∃ wD, wB.setCell ⟨g1, i * 5, none⟩ (.slice (some ⟨SB, 0, none⟩) 0 0) = wD := ⟨_, rfl⟩
              rw [hwD] at TX ⊢
              have CD := hideP (TX.out.1.stays (Below.refl _ _).drew)
              have BD := hideP (below_trans TX.out.2 (Below.refl _ _).drew)
              clear hwD TX TL c0B fB d4
              go_wp2
              go_roundg (blocks.length - (i + 1))
              case rel => exact ⟨i + 1, n2, by omega, by go_num, rfl, hnn.out, CD.out, BD.out⟩
              case measure => omega
            · have hne2 : ¬ n2 = n := by have := hn2.out; omega
              have e3 : n2 - n = nc := by have := hn2.out; omega
              have TX := hideP (TL.out (some ⟨SB, n * 7, none⟩) nc (Or.inr rfl))
              go_region
              obtain ⟨wD, hwD⟩ : ∃ wD, wB.setCell ⟨g1, i * 5, none⟩ (.slice (some ⟨SB, n * 7, none⟩) nc nc) = wD := ⟨_, rfl⟩
              rw [hwD] at TX ⊢
              have CD := hideP (TX.out.1.stays (Below.refl _ _).drew)
              have BD := hideP (below_trans TX.out.2 (Below.refl _ _).drew)
              clear hwD TX TL c0B fB d4 hne2 e3
              go_wp2
              go_roundg (blocks.length - (i + 1))
              case rel => exact ⟨i + 1, n2, by omega, by go_num, rfl, hnn.out, CD.out, BD.out⟩
              case measure => omega
      · have hin : i = news.length := by omega
        subst hin
        have hall : codeAll (news.take news.length) = codeAll news := by rw [List.take_length]
        rw [hall] at hCI
        obtain ⟨g, cA, cG⟩ := hCI.out
        have LO2 : ∀ c ∈ grL S g1 0 cs1, w.heap.size + 2 ≤ c.1 ∧ c.1 < w2.heap.size := fun c hc => by have := LO.out c hc; omega
        have hB02 : w.heap.size + 2 ≤ w2.heap.size := by omega
        have MD := hideP (cA.made (x := ⟨sizes, p, q, r, blocks⟩) hnl (by omega) (by omega) (by rw [CL.out]; exact Nat.le_refl _) (by rw [CL.out]; exact ht1) I2.out.gr I2.out.ow LO2 NN.out.1 NN.out.2.1 hB02 (fun k hk => cG.1 k hk hk) HWZ.out)
        have bR3 := hideP ((hCI.out.kp.block _ (hltP I2.out.bR) (by omega)).trans I2.out.bR)
        have bO3 := hideP ((hCI.out.kp.block _ hNO (by omega)).trans I2.out.bO)
        clear cA cG hCI hall LO2
        have z := bR3.out
        have fc := (cells_of bO3.out).1
        have d0 := fc 0
        have d1 := fc 1
        have d2 := fc 2
        have d3 := fc 3
        have d4 := fc 4
        simp at d0 d1 d2 d3 d4
        clear fc
        have fc := (cells_of z).1
        have r0 := fc 0
        have r1 := fc 1
        have r2 := fc 2
        have r3 := fc 3
        have r4 := fc 4
        simp at r0 r1 r2 r3 r4
        clear fc
        have rf := (cells_of z).2
        obtain ⟨z4, bu⟩ := put5n z rfl (.slice us1 sizes.length ks1) (.int .i64 p) (.int .i64 q) (.int .i64 r) (.slice (some ⟨g1, 0, none⟩) blocks.length kb1)
        have ZF := hideP z4
        have BU := hideP bu
        clear z z4 bu
        go_wp2
        refine bodyPost_ret (results_cell_row rfl _ _ (w.heap.size + 1) 29 #[.slice us1 sizes.length ks1, .int .i64 p, .int .i64 q, .int .i64 r, .slice (some ⟨g1, 0, none⟩) blocks.length kb1] (0, 0) _ rfl ZF.out Try.underlying29 rfl (by kernel_rfl)) rfl ?_
        rw [E.out]
        obtain ⟨cs', m1, m2, m3, m4, m5⟩ := MD.out
        have hlt2 := hltP bR3.out
        have hsb := BU.out.size
        have m6 : cs'.length = news.length := m4
        refine ⟨_, S, g1, cs', rfl, GrKeeps.mono (GrKeeps.but m1 (by omega) BU.out) (by omega), m2.above (B := w.heap.size + 2) (fun c hc => (m3 c hc).1) (fun k hk hkl => BU.out.block k hkl (by omega)), fun c hc => ?_, NN.out.1, m6, m5, hBE.out.trans (BU.out.below (by omega) (by have := hBE.out.size; omega))⟩
        have := m3 c hc
        omega
end Go.Proofs.Ytjmclmbepnbeoaa
