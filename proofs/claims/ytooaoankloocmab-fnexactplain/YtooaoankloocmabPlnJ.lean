/- The contract of impl.Plain: the walk. -/
import Derived.Test.YtooaoankloocmabPlnI
import Derived.Test.YtooaoankloocmabCtA
namespace Go.Proofs.Ytooaoankloocmab
open Go.ChangeShapes Go.WideShapes Go.ChangeAt Go.RowKit Go.Maps
theorem nD_few (xs : List Blk) (t : Nat) : (nD xs t).length ≤ 2 := by
  unfold nD
  refine Nat.le_trans (List.length_filter_le _ _) ?_
  unfold nxt
  split
  · exact nextP_len _
  · simp
theorem rnd_in {xs : List Blk} (t : Nat) (l : List Int) (h : ∀ y, y ∈ l ↔ Way (nD xs) (nD xs t) (-1) y) : inL l (t : Int) = rndB xs (t : Int) := by
  unfold rndB
  rw [Bool.eq_iff_iff, inL_iff, h, @decide_eq_true_iff _ (Classical.propDecidable _)]
  unfold Rnd
  rw [Int.toNat_natCast]
set_option maxRecDepth 100000 in
set_option maxHeartbeats 8000000 in
theorem impl_plain (g : Gr) (w : World) (B : Nat) (v : Array Value) (h : GrIs w B v g) (GO : OkIs 25 g) :
    Calls Try.prog 15 #[.agg v] w fun en w' => en = .returned (.bool (plainP g)) ∧ Below w.heap.size w w' := by
  obtain ⟨y, hy⟩ : ∃ y, grOk g = y := ⟨_, rfl⟩
  have CY : Hid (∀ W, Below w.heap.size w W → Calls Try.prog 25 #[.agg v] W fun en w' => en = .returned (.bool y) ∧ Below W.heap.size W w') := fun W hW => by rw [← hy]; exact GO W B v (GrKeeps.stays h hW)
  have CX : Hid (y = true → ∀ W, Below w.heap.size w W → Calls Try.prog 34 #[.agg v] W fun e w' => NxMade W g.blocks e w') := fun e W hW => nexts_any g W B v (GrKeeps.stays h hW) (grOk_blocks (hy.trans e)).2
  have CK := hideP (fun W (hW : Below w.heap.size w W) => impl_backs g W B v (GrKeeps.stays h hW) GO)
  have CB := hideP (fun W (hW : Below w.heap.size w W) => impl_blocks g W B v (GrKeeps.stays h hW) GO)
  have BIN : Hid (y = true → ∀ x ∈ blocksP g, ∃ t : Nat, x = (t : Int) ∧ t < g.blocks.length) := fun e => blocks_inP (hy.trans e)
  have BLN := hideP (blocksP_few g)
  have KLN := hideP (backsP_len g)
  have OKT : Hid (y = true → AllIn g.blocks ∧ g.blocks.length ≤ 300 ∧ ∀ t, t < g.blocks.length → cutN g.blocks (backsP g) t = nD g.blocks t) := fun e => ⟨allIn_of (hy.trans e), (grOk_blocks (hy.trans e)).2, fun t ht => cutN_end (hy.trans e) ht⟩
  have KIN : Hid (∀ p ∈ backsP g, p.1 < g.blocks.length) := fun p hp => (backs_in hp).2.1
  obtain ⟨P, hP⟩ : ∃ P, plainP g = P := ⟨_, rfl⟩
  have EP : Hid (P = (y && (blocksP g).all (fun a => !rndB g.blocks a))) := by rw [← hP, ← hy]; rfl
  obtain ⟨L, hL⟩ : ∃ L, blocksP g = L := ⟨_, rfl⟩
  obtain ⟨Q, hQ⟩ : ∃ Q, backsP g = Q := ⟨_, rfl⟩
  rw [hL] at CB BIN BLN EP
  rw [hQ] at CK KLN OKT KIN
  rw [hP]
  clear hP GO hy hL hQ
  obtain ⟨sizes, params, vars, slots, blocks⟩ := g
  obtain ⟨us, cs, ub, cb, rfl, _, _, _⟩ := h
  simp only at *
  have hQl := KLN.out
  have AL := hideP ((Below.refl w.heap.size w).alloc (Nat.le_refl _) (.cells #[.slice us sizes.length cs, .int .i64 params, .int .i64 vars, .int .i64 slots, .slice ub blocks.length cb] 30))
  have BX1 := hideP (newB8 w (.cells #[.slice us sizes.length cs, .int .i64 params, .int .i64 vars, .int .i64 slots, .slice ub blocks.length cb] 30))
  cases y with
  | false =>
    have E0 : Hid (P = false) := by show _ = _; rw [EP.out]; rfl
    clear EP CX BIN OKT CB CK
    go_enter Try.func15, Try.ntmps15
    go_wp2_with fail
    refine (CY.out _ AL.out).mono ?_
    rintro e1 w1 ⟨rfl, b1⟩
    have BB := hideP (below_trans AL.out b1)
    clear b1
    go_wp2
    go_ret
    exact ⟨by rw [E0.out]; rfl, BB.out⟩
  | true =>
    obtain ⟨hall, hn, hcut⟩ := OKT.out rfl
    have HALL := hideP hall
    have HCUT := hideP hcut
    have CX1 := hideP (CX.out rfl)
    have BIN1 := hideP (BIN.out rfl)
    have E1 : Hid (P = L.all (fun a => !rndB blocks a)) := by show _ = _; rw [EP.out]; rfl
    have hLl := BLN.out
    clear EP CX BIN OKT hall hcut
    go_enter Try.func15, Try.ntmps15
    go_wp2_with fail
    refine (CY.out _ AL.out).mono ?_
    rintro e1 w1 ⟨rfl, b1⟩
    have BB := hideP (below_trans AL.out b1)
    have BX := hideP ((b1.block _ (hltP BX1.out)).trans BX1.out)
    have bxf := (cells_of BX.out).1
    have y0 := bxf 0
    have y1 := bxf 1
    have y2 := bxf 2
    have y3 := bxf 3
    have y4 := bxf 4
    simp at y0 y1 y2 y3 y4
    have hbw : w.heap.size < w1.heap.size := hltP BX.out
    clear bxf b1 BX1 AL CY
    go_wp2_with fail
    refine (CX1.out _ BB.out).mono ?_
    rintro e2 w2 ⟨ga, av, rfl, a2, hga, ow2, b2⟩
    have K2 : Hid (PnAt w #[.slice us sizes.length cs, .int .i64 params, .int .i64 vars, .int .i64 slots, .slice ub blocks.length cb] w1.heap.size blocks.length ga av (cutN blocks []) w2) := ⟨a2.congr (fun t _ => (cutN_nil blocks t).symm), fun t ht => by rw [cutN_nil]; exact ow2 t ht, (b2.block _ (hltP BX.out)).trans BX.out, hbw, hga, below_trans BB.out b2⟩
    have bxf := (cells_of K2.out.box).1
    have z0 := bxf 0
    have z1 := bxf 1
    have z2 := bxf 2
    have z3 := bxf 3
    have z4 := bxf 4
    simp at z0 z1 z2 z3 z4
    clear bxf a2 ow2 b2 BB BX y0 y1 y2 y3 y4 CX1
    go_wp2_with fail
    refine (CK.out _ K2.out.bel).mono ?_
    rintro e3 w3 ⟨v3, rfl, o3, b3⟩
    obtain ⟨g3, c3, hv3, _⟩ := id o3
    subst hv3
    have O3 := hideP (o3.mono (Nat.zero_le _))
    have K3 := hideP (K2.out.stays b3)
    clear o3 b3 K2 CK z0 z1 z2 z3 z4
    go_wp2
    obtain ⟨lo, hlo⟩ : ∃ lo, w1.heap.size = lo := ⟨_, rfl⟩
    rw [hlo] at K3
    clear hlo hbw hga
    go_loopg [18] Q.length (fun gk ix wr => ∃ (i : Nat) (av : Nat → Value), gk + i = Q.length ∧ ix = .int .i64 i ∧ Hid (PnAt w #[.slice us sizes.length cs, .int .i64 params, .int .i64 vars, .int .i64 slots, .slice ub blocks.length cb] lo blocks.length ga av (cutN blocks (Q.take i)) wr) ∧ Hid (OwnE A2E wr 0 (.slice (some ⟨g3, 0, none⟩) Q.length c3) Q))
    case atStart => exact ⟨0, av, by simp, rfl, K3.out, O3.out⟩
    case round =>
      obtain ⟨i, av, hi, rfl, hK, hO⟩ := hrel
      clear K3 O3
      by_cases hil : i < Q.length
      · obtain ⟨p, hp⟩ : ∃ p, Q[i] = p := ⟨_, rfl⟩
        have hpn : p.1 < blocks.length := KIN.out p (hp ▸ List.getElem_mem hil)
        have TK : Hid (Q.take (i + 1) = Q.take i ++ [p]) := by show _ = _; rw [List.take_succ_eq_append_getElem hil, hp]
        have q0 := hO.out.at A2Ok i hil 0 (by decide)
        have q1 := hO.out.at A2Ok i hil 1 (by decide)
        rw [hp] at q0 q1
        simp [A2E] at q0 q1
        have al := (Below.refl wr.heap.size wr).alloc (Nat.le_refl _) (.cells #[.int .i64 (p.1 : Int), .int .i64 (p.2 : Int)] 42)
        have K4 := hideP (hK.out.stays al)
        have O4 := hideP (hO.out.stays al)
        have PX := hideP (newB8 wr (.cells #[.int .i64 (p.1 : Int), .int .i64 (p.2 : Int)] 42))
        clear hp al hK hO
        go_upto_region 7 with fail
        obtain ⟨wp, hwp⟩ : ∃ wp, wr.alloc (.cells #[.int .i64 (p.1 : Int), .int .i64 (p.2 : Int)] 42) = wp := ⟨_, rfl⟩
        obtain ⟨px, hpx⟩ : ∃ px, wr.heap.size = px := ⟨_, rfl⟩
        rw [hwp] at K4 O4 PX ⊢
        rw [hpx] at PX ⊢
        clear hwp hpx q0 q1
        have p0 := (cells_of PX.out).1 0
        have p1 := (cells_of PX.out).1 1
        simp at p0 p1
        go_cut [6, 7] from 22 to 25 (fun s6 s7 wx => ∃ bx, s6 = .int .i64 (p.1 : Int) ∧ s7 = .pointer (some ⟨bx, 0, none⟩) ∧ Hid (Below wp.heap.size wp wx) ∧ Hid (wp.heap.size ≤ bx ∧ bx < wx.heap.size) ∧ Hid (wx.cell? ⟨bx, 0, none⟩ = some (.int .i64 (p.2 : Int))))
        case first =>
          have al2 := (Below.refl wp.heap.size wp).alloc (Nat.le_refl _) (.cells #[.int .i64 0] 3)
          have p0a : (wp.alloc (.cells #[.int .i64 0] 3)).cell? ⟨px, 0, none⟩ = some (.int .i64 (p.1 : Int)) := (al2.cell (p := ⟨px, 0, none⟩) (hltP PX.out)).trans p0
          have p1a : (wp.alloc (.cells #[.int .i64 0] 3)).cell? ⟨px, 1, none⟩ = some (.int .i64 (p.2 : Int)) := (al2.cell (p := ⟨px, 1, none⟩) (hltP PX.out)).trans p1
          clear al2
          go_region
          go_wp2
          go_meet
          exact ⟨wp.heap.size, rfl, rfl, ((Below.refl _ _).alloc (Nat.le_refl _) _).drew, ⟨Nat.le_refl _, by show wp.heap.size < (wp.heap.push _).size; simp⟩, (cells_of (newB8 wp (.cells #[.int .i64 (p.2 : Int)] 3))).1 0⟩
        case rest =>
        obtain ⟨bx, rfl, rfl, hB, hbx, hcx⟩ := hcut
        have K5 := hideP (K4.out.stays hB.out)
        have O5 := hideP (O4.out.stays hB.out)
        obtain ⟨m5, _⟩ := K5.out.ah.at hpn
        obtain ⟨gR, cR, hvR, _⟩ := id (K5.out.own p.1 hpn)
        have hgR : gR < wp.heap.size := ((K4.out.own p.1 hpn).low gR (by rw [hvR]; rfl)).2
        have ow5 := K5.out.own p.1 hpn
        have CUT : Hid (∀ t, t < blocks.length → (if t = p.1 then (cutN blocks (Q.take i) p.1).filter (fun z => !decide (z = (p.2 : Int))) else cutN blocks (Q.take i) t) = cutN blocks (Q.take (i + 1)) t) := fun t _ => by
          rw [TK.out]
          by_cases e : t = p.1
          · subst e
            rw [if_pos rfl]
            exact (cutN_same HALL.out).symm
          · rw [if_neg e]
            exact (cutN_other e).symm
        have hcl : (cutN blocks (Q.take i) p.1).length ≤ 2 := by
          refine Nat.le_trans (List.length_filter_le _ _) ?_
          unfold preN nxt
          split
          · exact nextP_len _
          · simp
        obtain ⟨C, hC⟩ : ∃ C, cutN blocks (Q.take i) p.1 = C := ⟨_, rfl⟩
        rw [hC] at CUT hcl ow5 hvR
        have HVR := hideP hvR
        rw [hvR] at m5 ow5
        have CD := hideP (delF_any C (p.2 : Int) wc lo gR cR bx ow5 hbx.out.2 (by have := hbx.out.1; omega) hcx.out (by omega))
        obtain ⟨D, hD⟩ : ∃ D, (C.filter fun x => !decide (x = (p.2 : Int))) = D := ⟨_, rfl⟩
        rw [hD] at CD
        have HDE := hideP hD
        clear hvR ow5 hC hD p0 p1 K4 O4 PX
        go_wp2_with fail
        refine CD.out.mono ?_
        rintro e6 w6 ⟨rfl, o6, b6⟩
        obtain ⟨cur, r1, _, r3⟩ := K5.out.ah.row
        have hga : gR ≠ ga := fun e => by
          obtain ⟨_, _, c2, hc2⟩ := (K5.out.ah.own p.1 hpn).low gR (by rw [HVR.out]; rfl)
          rw [e, r1] at hc2
          injection hc2 with hc2
          injection hc2 with _ e2
          exact absurd e2 (by decide)
        have r1' := b6.keepB r1 (fun e => hga e.symm)
        have m6 : w6.cell? ⟨ga, p.1, none⟩ = some (av p.1) := by simp only [World.cell?, r1']; exact r3 p.1 hpn
        have f6 := (cells_of r1').2 p.1
        have K6 : Hid (PnAt w #[.slice us sizes.length cs, .int .i64 params, .int .i64 vars, .int .i64 slots, .slice ub blocks.length cb] lo blocks.length ga (fun u => if u = p.1 then .slice (some ⟨gR, 0, none⟩) D.length cR else av u) (cutN blocks (Q.take (i + 1))) (w6.setCell ⟨ga, p.1, none⟩ (.slice (some ⟨gR, 0, none⟩) D.length cR))) := by
          have := K5.out.cut hpn (g := gR) (by rw [HVR.out]; rfl) b6 o6 rfl
          refine this.congr (fun t ht => ?_)
          rw [← CUT.out t ht, HDE.out]
        have O6 : Hid (OwnE A2E (w6.setCell ⟨ga, p.1, none⟩ (.slice (some ⟨gR, 0, none⟩) D.length cR)) 0 (.slice (some ⟨g3, 0, none⟩) Q.length c3) Q) := by
          obtain ⟨c2, h2⟩ := A2typ O5.out (g := g3) rfl
          have n1 : g3 ≠ gR := fun e => by
            obtain ⟨_, _, c4, hc4⟩ := (K5.out.ah.own p.1 hpn).low gR (by rw [HVR.out]; rfl)
            exact typ_ne h2 hc4 (by decide) e
          have n2 : g3 ≠ ga := typ_ne h2 r1 (by decide)
          have hb2 : But ga w6 (w6.setCell ⟨ga, p.1, none⟩ (.slice (some ⟨gR, 0, none⟩) D.length cR)) := (But.refl _ _).set _ _
          exact (O5.out.butG b6 (by simp [Value.ownBlock]; exact n1)).butG hb2 (by simp [Value.ownBlock]; exact n2)
        clear o6 b6 r1 r1' r3 K5 O5 CD m5 hB hcx hbx
        go_wp2
        go_roundg (Q.length - (i + 1))
        case rel => exact ⟨i + 1, _, by omega, by go_num, K6.out, O6.out⟩
        case measure => omega
      · have hin : i = Q.length := by omega
        subst hin
        have K7 : Hid (PnAt w #[.slice us sizes.length cs, .int .i64 params, .int .i64 vars, .int .i64 slots, .slice ub blocks.length cb] lo blocks.length ga av (nD blocks) wr) := hK.out.congr (fun t ht => by rw [List.take_length]; exact HCUT.out t ht)
        have bxf := (cells_of K7.out.box).1
        have z0 := bxf 0
        have z1 := bxf 1
        have z2 := bxf 2
        have z3 := bxf 3
        have z4 := bxf 4
        simp at z0 z1 z2 z3 z4
        clear bxf hK hO
        go_wp2_with fail
        refine (CB.out _ K7.out.bel).mono ?_
        rintro e8 w8 ⟨v8, rfl, o8, b8⟩
        obtain ⟨g8, c8, hv8, _⟩ := id o8
        subst hv8
        have O8 := hideP o8
        have K8 := hideP (K7.out.stays b8)
        clear o8 b8 K7 CB z0 z1 z2 z3 z4
        go_wp2
        go_loopg [39] L.length (fun gk ix wr => ∃ i : Nat, gk + i = L.length ∧ ix = .int .i64 i ∧ Hid (Below w8.heap.size w8 wr) ∧ Hid (∀ x ∈ L.take i, rndB blocks x = false))
        case atStart => exact ⟨0, by simp, rfl, Below.refl _ _, by show ∀ x ∈ _, _; simp⟩
        case round =>
          obtain ⟨i, hi, rfl, hB, hN⟩ := hrel
          by_cases hil : i < L.length
          · obtain ⟨x, hx⟩ : ∃ x, L[i] = x := ⟨_, rfl⟩
            have XM : Hid (x ∈ L) := hx ▸ List.getElem_mem hil
            obtain ⟨t, ht, htn⟩ := BIN1.out x XM.out
            subst ht
            have TK : Hid (L.take (i + 1) = L.take i ++ [(t : Int)]) := by show _ = _; rw [List.take_succ_eq_append_getElem hil, hx]
            have c0 := (O8.out.stays hB.out).at i hil
            rw [hx, Nat.zero_add] at c0
            have K9 := hideP (K8.out.stays hB.out)
            obtain ⟨m9, _⟩ := K9.out.ah.at htn
            have CT := hideP (comeTo_any blocks.length (nD blocks) (nD blocks t) (-1) wr lo ga lo av (av t) K9.out.ah (K9.out.own t htn) (fun i _ y hy => nD_in HALL.out y hy) (fun y hy => nD_in HALL.out y hy) hn (by
              have h1 := nD_few blocks t
              have h2 := restN_le (met := []) (nD_few blocks) blocks.length
              omega))
            have IT : I64 (t : Int) := by unfold I64; omega
            obtain ⟨AV, hAV⟩ : ∃ AV, av t = AV := ⟨_, rfl⟩
            rw [hAV] at m9 CT
            clear hx hAV
            go_wp2_with fail
            refine CT.out.mono ?_
            rintro ea wa ⟨ma, na, la, rfl, _, sa, hna, hla, ba⟩
            have CH := hideP (hasI_any la (t : Int) wa ma na sa IT)
            have ER := hideP (rnd_in (xs := blocks) t la hla)
            rw [ER.out] at CH
            have BA := hideP (hB.out.trans (ba.mono hB.out.size))
            clear sa hla ba CT c0 m9 K9 ER
            go_wp2_with fail
            refine CH.out.mono ?_
            rintro eb wb ⟨rfl, bb⟩
            have BBB := hideP (BA.out.trans (bb.mono BA.out.size))
            clear bb CH BA
            cases hrb : rndB blocks (t : Int) with
            | true =>
              have E2 : Hid (P = false) := by
                show _ = _
                rw [E1.out]
                cases h9 : L.all (fun a => !rndB blocks a) with
                | false => rfl
                | true =>
                  have := List.all_eq_true.1 h9 _ XM.out
                  rw [hrb] at this
                  cases this
              clear hrb
              go_wp2
              go_ret
              exact ⟨by rw [E2.out]; rfl, below_trans K8.out.bel BBB.out⟩
            | false =>
              have N2 : Hid (∀ x ∈ L.take (i + 1), rndB blocks x = false) := fun x hx => by
                rw [TK.out] at hx
                rcases List.mem_append.1 hx with hx | hx
                · exact hN.out x hx
                · rw [List.mem_singleton.1 hx]; exact hrb
              clear hrb
              go_wp2
              go_roundg (L.length - (i + 1))
              case rel => exact ⟨i + 1, by omega, by go_num, BBB.out, N2.out⟩
              case measure => omega
          · have hin : i = L.length := by omega
            subst hin
            have E2 : Hid (P = true) := by
              show _ = _
              rw [E1.out, List.all_eq_true]
              intro x hx
              rw [hN.out x (by rw [List.take_length]; exact hx)]
              rfl
            go_wp2
            go_ret
            exact ⟨by rw [E2.out]; rfl, below_trans K8.out.bel hB.out⟩
end Go.Proofs.Ytooaoankloocmab
