/- The contract of impl.Edge: the walk (written by wip/mkedgj.py). -/
import Derived.Test.YtooaoankloocmaaEdgI
import Derived.Test.YtooaoankloocmaaRulI
namespace Go.Proofs.Ytooaoankloocmaa
open Go.ChangeShapes Go.WideShapes Go.ChangeAt Go.RowKit Go.Maps
set_option maxRecDepth 100000 in
set_option maxHeartbeats 8000000 in
theorem impl_edge (g : Gr) (w : World) (B : Nat) (v : Array Value) (h : GrIs w B v g) (GO : OkIs 65 g) :
    Calls Try.prog 26 #[.agg v] w fun en w' => (grOk g = false ∧ SsMade w 0 (fun _ => []) en w') ∨ (grOk g = true ∧ SsMade w g.blocks.length (edgTo g.blocks) en w') := by
  have CR := hideP (fun W (hW : Below w.heap.size w W) => realmsOf_any g W B v (GrKeeps.stays h hW) GO)
  have OKT : Hid (grOk g = true → AllIn g.blocks ∧ 0 < g.blocks.length ∧ g.blocks.length ≤ 300) := fun e => ⟨allIn_of e, (grOk_blocks e).1, (grOk_blocks e).2⟩
  obtain ⟨sizes, params, vars, slots, blocks⟩ := g
  obtain ⟨us, cs, ub, cb, rfl, _, _, hbb⟩ := h
  simp only at *
  have HBB := hideP hbb
  have AL := hideP ((Below.refl w.heap.size w).alloc (Nat.le_refl _) (.cells #[.slice us sizes.length cs, .int .i64 params, .int .i64 vars, .int .i64 slots, .slice ub blocks.length cb] 31))
  have BX1 := hideP (newB8 w (.cells #[.slice us sizes.length cs, .int .i64 params, .int .i64 vars, .int .i64 slots, .slice ub blocks.length cb] 31))
  have hmm := @run_makeMap Try.prog
  clear hbb
  go_enter Try.func26, Try.ntmps26
  go_wp2_with fail
  refine (CR.out _ AL.out).mono ?_
  rintro e1 w1 ⟨b1, ⟨hy, rfl⟩ | ⟨hy, gm, ms, c, ls, rfl, bh, hR, hgm⟩⟩
  · have BB := hideP (below_trans AL.out b1)
    have A0 := hideP (ahAt_made w1 0 w.heap.size)
    have hm : ∀ W : World, (Instr.makeSlice 27 (.int .i64 0) (.int .i64 0)).run Try.prog W = .ok (.slice (some ⟨W.heap.size, 0, none⟩) 0 0) (W.alloc (.cells (madeCells #[.slice none 0 0] 0) 22)) := fun W => make_ints 0 (by omega) W
    have FIN : Hid (∀ e w', SsMade w 0 (fun _ => []) e w' → (grOk ⟨sizes, params, vars, slots, blocks⟩ = false ∧ SsMade w 0 (fun _ => []) e w') ∨ (grOk ⟨sizes, params, vars, slots, blocks⟩ = true ∧ SsMade w blocks.length (edgTo blocks) e w')) := fun e w' h => Or.inl ⟨hy, h⟩
    have hws : w.heap.size ≤ w1.heap.size := BB.out.size
    clear b1 OKT CR hy
    go_wp2
    go_loopw [18] (fun ix wr => ix = .int .i64 0 ∧ wr = w1.alloc (.cells (madeCells #[.slice none 0 0] 0) 22)) (fun _ _ => 0)
    case atStart => exact ⟨rfl, rfl⟩
    case round =>
      obtain ⟨rfl, rfl⟩ := hrel
      go_wp2
      go_ret
      exact FIN.out _ _ ⟨_, _, rfl, A0.out, hws, BB.out.alloc hws _⟩
  · obtain ⟨hall, h0, hn⟩ := OKT.out hy
    have HALL := hideP hall
    have BB := hideP (below_trans AL.out b1)
    have hws : w.heap.size < w1.heap.size := by have := (hltP ((b1.block _ (hltP BX1.out)).trans BX1.out)); exact this
    have al := (Below.refl w1.heap.size w1).alloc (Nat.le_refl _) (.cells (madeCells #[.slice none 0 0] blocks.length) 22)
    have A0 := hideP (ahAt_made w1 blocks.length w.heap.size)
    have HR := hideP hR
    have hm := make_ints blocks.length (by omega)
    have FIN : Hid (∀ e w', SsMade w blocks.length (edgTo blocks) e w' → (grOk ⟨sizes, params, vars, slots, blocks⟩ = false ∧ SsMade w 0 (fun _ => []) e w') ∨ (grOk ⟨sizes, params, vars, slots, blocks⟩ = true ∧ SsMade w blocks.length (edgTo blocks) e w')) := fun e w' h => Or.inr ⟨hy, h⟩
    obtain ⟨lo1, hlo1⟩ : ∃ lo1, (w.alloc (.cells #[.slice us sizes.length cs, .int .i64 params, .int .i64 vars, .int .i64 slots, .slice ub blocks.length cb] 31)).heap.size = lo1 := ⟨_, rfl⟩
    have K0 := hideP (EiAt.mk A0.out (bh.stays al) (((below_trans b1 al).block _ (hltP BX1.out)).trans BX1.out) (below_trans BB.out al))
    rw [hlo1] at K0
    clear b1 OKT CR hy bh hR al BB hall hlo1 A0 BX1 AL hgm
    go_wp2
    obtain ⟨ga, hga⟩ : ∃ ga, w1.heap.size = ga := ⟨_, rfl⟩
    obtain ⟨W0, hW0⟩ : ∃ W0, w1.alloc (.cells (madeCells #[.slice none 0 0] blocks.length) 22) = W0 := ⟨_, rfl⟩
    rw [hW0] at K0 ⊢
    rw [hga] at K0 hws ⊢
    clear hga hW0 hm
    go_loopg [18] blocks.length (fun gk ix wr => ∃ (j : Nat) (av : Nat → Value), gk + j = blocks.length ∧ ix = .int .i64 j ∧ Hid (EiAt w #[.slice us sizes.length cs, .int .i64 params, .int .i64 vars, .int .i64 slots, .slice ub blocks.length cb] lo1 blocks.length gm ms c ls ga av (fun t => if t < j then edgTo blocks t else []) wr))
    case atStart => exact ⟨0, _, by simp, rfl, K0.out.congr (fun t _ => by simp)⟩
    case round =>
      obtain ⟨j, av, hj, rfl, hK⟩ := hrel
      clear K0
      by_cases hlt : j < blocks.length
      · have m1 := hK.out.bh.at hlt
        have al := (Below.refl wr.heap.size wr).alloc (Nat.le_refl _) (.map #[] 0)
        have K1 := hideP (hK.out.stays al)
        have S1 : Hid (SetIs InK (wr.alloc (.map #[] 0)) wr.heap.size 0 []) := SetIs.made InK_ok wr
        have MLT := hideP hK.out.sets
        have hlw : w.heap.size < wr.heap.size := hltP hK.out.box
        have SJ := hideP (K1.out.bh.set j hlt).1
        obtain ⟨mj, hmj⟩ : ∃ mj, ms j = mj := ⟨_, rfl⟩
        have hmjl : mj < wr.heap.size := by rw [← hmj]; exact MLT.out j hlt
        rw [hmj] at m1 SJ
        have RJ := hideP (HR.out j hlt)
        obtain ⟨l, hl⟩ : ∃ l, ls j = l := ⟨_, rfl⟩
        obtain ⟨cj, hcj⟩ : ∃ cj, c j = cj := ⟨_, rfl⟩
        rw [hl, hcj] at SJ RJ
        clear hmj hl hcj al hK
        go_wp2_with (first
          | (at_range; refine rgs_range _ rfl _ rfl mj cj l rfl SJ.out ?_; intro w3 cnt3 hrg3 hg3 hs3)
          | go_in)
        have bel3 := grown_below (B := (wr.alloc (.map #[] 0)).heap.size) hg3 (fun b h => by cases h) (Nat.le_refl _)
        have K3 := hideP (K1.out.stays bel3)
        have S3 := hideP (S1.out.stays bel3)
        obtain ⟨r3, hr3⟩ : ∃ r3, (wr.alloc (.map #[] 0)).heap.size = r3 := ⟨_, rfl⟩
        obtain ⟨eb, heb⟩ : ∃ eb, wr.heap.size = eb := ⟨_, rfl⟩
        have hre : r3 = eb + 1 := by rw [← hr3, ← heb]; simp
        rw [hr3] at hrg3 ⊢
        rw [heb] at S3 MLT hlw hmjl ⊢
        have RG3 := hideP hrg3
        have HRE := hideP hre
        clear hrg3 hg3 hs3 bel3 hr3 heb m1 SJ K1 S1 hre
        go_frame
        go_loopw [] (fun wr => ∃ (dn es : List Int) (cnt ce : Nat), Hid (RgS wr mj r3 cj l dn cnt) ∧ Hid (EiAt w #[.slice us sizes.length cs, .int .i64 params, .int .i64 vars, .int .i64 slots, .slice ub blocks.length cb] lo1 blocks.length gm ms c ls ga av (fun t => if t < j then edgTo blocks t else []) wr) ∧ Hid (SetIs InK wr eb ce es) ∧ Hid (ce ≤ 2 * dn.length) ∧ Hid (∀ y, y ∈ es ↔ EdM blocks (j : Int) dn [] 0 y)) (fun wr => wr.rangeLeft mj r3)
        case atStart => exact ⟨[], [], cnt3, 0, RG3.out, K3.out, S3.out, Nat.zero_le _, by show ∀ y, _; unfold EdM; simp⟩
        case round =>
          obtain ⟨dn, es, cnt, ce, hrg, hK, hS, hce, hM⟩ := hrel
          clear RG3 K3 S3
          have hcj3 : cj ≤ 300 := RJ.out.1
          have hdnl : dn.length ≤ 300 := by have := hrg.out.few; omega
          go_wp2_with (first
            | (at_next; refine rgs_next _ rfl _ rfl mj r3 cj l dn cnt rfl hrg.out ?_ ?_)
            | go_in)
          · intro hall
            have MD := hideP (edM_done HALL.out h0 RJ.out.2 hall hM.out)
            have CS := hideP (sorted_any (Edg blocks (j : Int)) blocks.length es wr eb ce hS.out MD.out (fun y hy => edg_in HALL.out hy) (by have := hce.out; omega))
            clear hall
            go_wp2_with fail
            refine CS.out.mono ?_
            rintro e6 w6 ⟨v6, rfl, o6, b6⟩
            have K6 := hideP (hK.out.stays b6)
            obtain ⟨m6, f6⟩ := K6.out.ah.at hlt
            have f6 := f6 j
            have FE : Hid (∀ t, t < blocks.length → (if t = j then srtP (Edg blocks (j : Int)) blocks.length else (if t < j then edgTo blocks t else [])) = if t < j + 1 then edgTo blocks t else []) := fun t _ => by
              by_cases e : t = j
              · subst e
                rw [if_pos rfl, if_pos (by omega)]
                rfl
              · rw [if_neg e]
                by_cases e2 : t < j
                · rw [if_pos e2, if_pos (by omega)]
                · rw [if_neg e2, if_neg (by omega)]
            obtain ⟨SR, hSR⟩ : ∃ SR, srtP (Edg blocks (j : Int)) blocks.length = SR := ⟨_, rfl⟩
            rw [hSR] at FE o6
            clear hSR CS MD
            rcases o6 with ⟨rfl, h9⟩ | o6
            · subst h9
              have K7 := hideP ((K6.out.putA hws (K6.out.ah.putNil hlt)).congr FE.out)
              clear hrg hK hS b6 K6
              go_wp2
              go_roundg (blocks.length - (j + 1))
              case rel => exact ⟨j + 1, _, by omega, by go_num, K7.out⟩
              case measure => omega
            · obtain ⟨gu, cu, hv6, _⟩ := id o6
              subst hv6
              have lo6 := o6.low gu rfl
              have K7 := hideP ((K6.out.putA hws (hK.out.ah.putL hlt (Below.refl _ _) (W2 := w6) (o6.mono hK.out.bel.size) (grows_any b6) (Or.inr ⟨gu, rfl, lo6.1⟩))).congr FE.out)
              clear hrg hK hS b6 K6 o6 lo6
              go_wp2
              go_roundg (blocks.length - (j + 1))
              case rel => exact ⟨j + 1, _, by omega, by go_num, K7.out⟩
              case measure => omega
          · intro x w4 cnt4 hx hxn hxi hrg4 hlt4 hg4 hs4 hen
            obtain ⟨k, rfl⟩ : ∃ k : Nat, x = (k : Int) := ⟨x.toNat, by have := (rulMd_in HALL.out h0 ((RJ.out.2 _).1 hx)).1; omega⟩
            have hkn : k < blocks.length := by have := (rulMd_in HALL.out h0 ((RJ.out.2 _).1 hx)).2; omega
            have hre := HRE.out
            have K4 : Hid (EiAt w #[.slice us sizes.length cs, .int .i64 params, .int .i64 vars, .int .i64 slots, .slice ub blocks.length cb] lo1 blocks.length gm ms c ls ga av (fun t => if t < j then edgTo blocks t else []) w4) := by
              obtain ⟨_, pk, D, left, F, hrd, ⟨es2, clock, since, seen, c0, hb2, F2, hs2, hD2, hr2, rest⟩, _⟩ := hrg.out
              exact hK.out.other hg4 hr2 (by simp) (fun i hi => by have := MLT.out i hi; omega) (by omega)
            have S4 := hideP (hS.out.kept hg4 (by simp; omega))
            have RG4 := hideP hrg4
            have LE := hideP hrg.out.left_eq
            have HLT := hideP hlt4
            obtain ⟨bb, oo, code, jump, a, t0, els, uc, kc, hub, _, hbl, he, q0, q1, q2, q3, q4, hbk⟩ := Blk_get HBB.out k hkn
            subst hub
            have hE := K4.out.bel
            have q0 := (hE.cell (p := ⟨bb, _, none⟩) hbl).trans q0
            have q1 := (hE.cell (p := ⟨bb, _, none⟩) hbl).trans q1
            have q2 := (hE.cell (p := ⟨bb, _, none⟩) hbl).trans q2
            have q3 := (hE.cell (p := ⟨bb, _, none⟩) hbl).trans q3
            have q4 := (hE.cell (p := ⟨bb, _, none⟩) hbl).trans q4
            have x4 := (cells_of K4.out.box).1 4
            simp at x4
            have NX := hideP (impl_next ⟨code, jump, a, t0, els⟩ _ B _ (BlkKeeps.stays hbk hE))
            have PN : Hid (nxt blocks (k : Int) = nextP blocks[k]) := preN_get hkn
            rw [he] at PN
            obtain ⟨nx, hnx⟩ : ∃ nx, nextP ⟨code, jump, a, t0, els⟩ = nx := ⟨_, rfl⟩
            have hnl : nx.length ≤ 2 := by rw [← hnx]; exact nextP_len _
            rw [hnx] at NX PN
            clear he hbk hnx hE hg4 hs4 hx hxn hxi hrg4 hlt4 hK hS hrg hre
            go_wp2_with fail
            refine NX.out.mono ?_
            rintro e7 w7 ⟨v7, rfl, o7, b7⟩
            have K7 := hideP (K4.out.stays b7)
            have S7 := hideP (S4.out.stays b7)
            have RG7 := hideP (RG4.out.stays b7)
            have M7 := hideP (edM_enter (nx' := nx) hM.out)
            have DIN : Hid (∀ x ∈ nx, InR blocks.length x) := fun x hx => by rw [← PN.out] at hx; exact nxt_in HALL.out _ x hx
            obtain ⟨gn, cn, hv7, _⟩ := id o7
            subst hv7
            have O7 := hideP (o7.mono (Nat.zero_le _))
            have C7 : Hid (ce ≤ 2 * dn.length + 0) := hce.out
            clear o7 b7 NX q0 q1 q2 q3 q4 x4 K4 S4 RG4 hM hen hce
            go_wp2
            go_loopg [37] nx.length (fun gk3 ix W => ∃ (r ce : Nat) (es : List Int), gk3 + r = nx.length ∧ ix = .int .i64 r ∧ Hid (RgS W mj r3 cj l (dn ++ [(k : Int)]) cnt4) ∧ Hid (EiAt w #[.slice us sizes.length cs, .int .i64 params, .int .i64 vars, .int .i64 slots, .slice (some ⟨bb, oo, none⟩) blocks.length cb] lo1 blocks.length gm ms c ls ga av (fun t => if t < j then edgTo blocks t else []) W) ∧ Hid (SetIs InK W eb ce es) ∧ Hid (ce ≤ 2 * dn.length + r) ∧ Hid (∀ y, y ∈ es ↔ EdM blocks (j : Int) dn nx r y) ∧ Hid (OwnI W 0 (.slice (some ⟨gn, 0, none⟩) nx.length cn) nx))
            case atStart => exact ⟨0, ce, es, by simp, rfl, RG7.out, K7.out, S7.out, C7.out, M7.out, O7.out⟩
            case round =>
              obtain ⟨r, ce, es, hr, rfl, hrg, hK, hS, hce, hM, hO⟩ := hrel
              clear RG7 K7 S7 C7 M7 O7
              by_cases hrl : r < nx.length
              · obtain ⟨x, hx⟩ : ∃ x, nx[r] = x := ⟨_, rfl⟩
                have hxi := DIN.out x (hx ▸ List.getElem_mem hrl)
                obtain ⟨t, ht⟩ : ∃ t : Nat, x = (t : Int) := ⟨x.toNat, by have := hxi.1; omega⟩
                subst ht
                have htn : t < blocks.length := by have := hxi.2; omega
                have x0 := hO.out.at r hrl
                rw [hx, Nat.zero_add] at x0
                have ADD := hideP (fun hc => edM_add hrl hx hc hM.out)
                have SKP := hideP (fun hc => edM_skip hrl hx hc hM.out)
                have IT : Hid (I64 (t : Int)) := by show I64 _; unfold I64; omega
                have hce2 := hce.out
                have SJ := (hK.out.bh.set j hlt).1
                clear hx hxi
                by_cases htj : (t : Int) = (j : Int)
                · have h1 : ((t : Int) == (j : Int)) = true := by simpa using htj
                  have h2 : decide ((t : Int) = (j : Int)) = true := by simpa using htj
                  have M2 := hideP (ADD.out (Or.inr htj))
                  clear ADD SKP htj hM SJ
                  have al := (Below.refl wr.heap.size wr).alloc (Nat.le_refl _) (.cells #[.int .i64 (t : Int)] 3)
                  have CA := hideP (addI_any es [(t : Int)] _ eb ce _ _ (hS.out.stays al) (own_lit wr [(t : Int)] #[.int .i64 (t : Int)] wr.heap.size 1 rfl rfl rfl (by simp)) (fun s hs => by rw [List.mem_singleton.1 hs]; exact IT.out) (by omega) (by simp))
                  have RGA := hideP (hrg.out.stays al)
                  have KA := hideP (hK.out.stays al)
                  have OA := hideP (hO.out.stays al)
                  have NB : Hid (gn ≠ eb) := OA.out.setNe (hS.out.stays al)
                  have SA := hideP (hS.out.stays al)
                  clear al
                  go_wp2_with fail
                  refine CA.out.mono ?_
                  rintro ea wa ⟨rfl, sa, ba⟩
                  have hre := HRE.out
                  have RGB := hideP (RGA.out.kept ba.grow (by simp; omega) (by simp; omega))
                  have KB : Hid (EiAt w #[.slice us sizes.length cs, .int .i64 params, .int .i64 vars, .int .i64 slots, .slice (some ⟨bb, oo, none⟩) blocks.length cb] lo1 blocks.length gm ms c ls ga av (fun t => if t < j then edgTo blocks t else []) wa) := by
                    obtain ⟨es2, cl2, hm2⟩ := SA.out.isMap
                    exact KA.out.other ba.grow hm2 (by simp) (fun i hi => by have := MLT.out i hi; omega) (by omega)
                  have OB := hideP (OA.out.butG ba (by have := NB.out; simp [Value.ownBlock]; omega))
                  have SB : Hid (SetIs InK wa eb (ce + 1) (es ++ [(t : Int)])) := sa
                  clear sa ba RGA KA OA SA CA hrg hK hS hO hre
                  go_wp2
                  go_roundg (nx.length - (r + 1))
                  case rel => exact ⟨r + 1, ce + 1, _, by omega, by go_num, RGB.out, KB.out, SB.out, by show ce + 1 ≤ _; omega, M2.out, OB.out⟩
                  case measure => omega
                · have h1 : ((t : Int) == (j : Int)) = false := by simpa using htj
                  have h2 : decide ((t : Int) = (j : Int)) = false := by simpa using htj
                  have SJ2 := hideP hrg.out.set
                  have CH := hideP (hasI_any l (t : Int) wr mj cj SJ2.out IT.out)
                  have HTJ := hideP htj
                  clear htj hM SJ
                  go_wp2_with fail
                  refine CH.out.mono ?_
                  rintro e9 w9 ⟨rfl, b9⟩
                  replace hrg := hideP (hrg.out.stays b9)
                  replace hK := hideP (hK.out.stays b9)
                  replace hS := hideP (hS.out.stays b9)
                  replace hO := hideP (hO.out.stays b9)
                  obtain ⟨wq, hwq⟩ : ∃ wq, w9 = wq := ⟨_, rfl⟩
                  clear b9 CH SJ2 x0
                  cases hin : inL l (t : Int) with
                  | true =>
                    have M2 := hideP (SKP.out (fun h => h.elim (fun h3 => h3 ((RJ.out.2 _).1 (inL_iff.1 hin))) HTJ.out))
                    clear hin ADD SKP hwq
                    go_wp2
                    go_roundg (nx.length - (r + 1))
                    case rel => exact ⟨r + 1, ce, es, by omega, by go_num, hrg.out, hK.out, hS.out, by show ce ≤ _; omega, M2.out, hO.out⟩
                    case measure => omega
                  | false =>
                    have M2 := hideP (ADD.out (Or.inl (fun h => by rw [inL_iff.2 ((RJ.out.2 _).2 h)] at hin; cases hin)))
                    clear hin ADD SKP hwq
                    have al := (Below.refl w9.heap.size w9).alloc (Nat.le_refl _) (.cells #[.int .i64 (t : Int)] 3)
                    have CA := hideP (addI_any es [(t : Int)] _ eb ce _ _ (hS.out.stays al) (own_lit w9 [(t : Int)] #[.int .i64 (t : Int)] w9.heap.size 1 rfl rfl rfl (by simp)) (fun s hs => by rw [List.mem_singleton.1 hs]; exact IT.out) (by omega) (by simp))
                    have RGA := hideP (hrg.out.stays al)
                    have KA := hideP (hK.out.stays al)
                    have OA := hideP (hO.out.stays al)
                    have NB : Hid (gn ≠ eb) := OA.out.setNe (hS.out.stays al)
                    have SA := hideP (hS.out.stays al)
                    clear al
                    go_wp2_with fail
                    refine CA.out.mono ?_
                    rintro ea wa ⟨rfl, sa, ba⟩
                    have hre := HRE.out
                    have RGB := hideP (RGA.out.kept ba.grow (by simp; omega) (by simp; omega))
                    have KB : Hid (EiAt w #[.slice us sizes.length cs, .int .i64 params, .int .i64 vars, .int .i64 slots, .slice (some ⟨bb, oo, none⟩) blocks.length cb] lo1 blocks.length gm ms c ls ga av (fun t => if t < j then edgTo blocks t else []) wa) := by
                      obtain ⟨es2, cl2, hm2⟩ := SA.out.isMap
                      exact KA.out.other ba.grow hm2 (by simp) (fun i hi => by have := MLT.out i hi; omega) (by omega)
                    have OB := hideP (OA.out.butG ba (by have := NB.out; simp [Value.ownBlock]; omega))
                    have SB : Hid (SetIs InK wa eb (ce + 1) (es ++ [(t : Int)])) := sa
                    clear sa ba RGA KA OA SA CA hrg hK hS hO hre
                    go_wp2
                    go_roundg (nx.length - (r + 1))
                    case rel => exact ⟨r + 1, ce + 1, _, by omega, by go_num, RGB.out, KB.out, SB.out, by show ce + 1 ≤ _; omega, M2.out, OB.out⟩
                    case measure => omega
              · have hrn : r = nx.length := by omega
                subst hrn
                have M2 := hideP (edM_out (nx' := []) PN.out hM.out)
                have C2 : Hid (ce ≤ 2 * (dn ++ [(k : Int)]).length) := by have := hce.out; show ce ≤ _; rw [List.length_append, List.length_singleton]; omega
                clear hM
                go_wp2
                go_roundw
                case rel => exact ⟨dn ++ [(k : Int)], es, cnt4, ce, hrg.out, hK.out, hS.out, C2.out, M2.out⟩
                case measure => rw [hrg.out.left_eq, LE.out]; exact HLT.out
      · have hjn : j = blocks.length := by omega
        subst hjn
        go_wp2
        go_ret
        exact FIN.out _ _ ⟨_, av, rfl, hK.out.ah.congr (fun t ht => if_pos ht), Nat.le_of_lt hws, hK.out.bel⟩
end Go.Proofs.Ytooaoankloocmaa
