/- The contract of spec.l10Round (written by wip/mkrnds.py). -/
import Derived.Test.YtooaoankloocmabRndP
import Derived.Test.YtooaoankloocmabRlsS
import Derived.Test.YtooaoankloocmabOwnA
import Derived.Test.YtooaoankloocmabSetAll
import Derived.Test.YtooaoankloocmabNxA
import Derived.Deep.LoopGhost
import Derived.Deep.CutRange
import Derived.Deep.RegionHeld3
namespace Go.Proofs.Ytooaoankloocmab
open Go.ChangeShapes Go.WideShapes Go.ChangeAt Go.RowKit
/-- What the loops of l10Round carry. -/
structure RnAt (w : World) (bv : Array Value) (n : Nat) (met : List Int) (qt : Value) (todo : List Int) (W : World) : Prop where
  box : W.heap[w.heap.size]? = some (.cells bv 30 (0, 0))
  seen : SeenB W (w.heap.size + 1) n met
  todo : QuI W (w.heap.size + 2) qt todo
  bel : Below w.heap.size w W
section
variable {w W W' : World} {bv : Array Value} {n : Nat} {qt qt' : Value} {met todo todo' : List Int}
theorem RnAt.stays (h : RnAt w bv n met qt todo W) (b : Below W.heap.size W W') : RnAt w bv n met qt todo W' := ⟨(b.block _ (hltP h.box)).trans h.box, h.seen.keep (b.block _ h.seen.lt), h.todo.stays b, below_trans h.bel b⟩
theorem RnAt.swap (h : RnAt w bv n met qt todo W) (hq : QuI W (w.heap.size + 2) qt' todo') : RnAt w bv n met qt' todo' W := ⟨h.box, h.seen, hq, h.bel⟩
theorem RnAt.mark {i : Nat} (h : RnAt w bv n met qt todo W) (hi : i < n) : RnAt w bv n (met ++ [(i : Int)]) qt todo (W.setCell ⟨w.heap.size + 1, i, none⟩ (.bool true)) := by
  have hb : But (w.heap.size + 1) W (W.setCell ⟨w.heap.size + 1, i, none⟩ (.bool true)) := (But.refl _ _).set _ _
  obtain ⟨gt, e, hlo, hlt⟩ := h.todo.low
  exact ⟨hb.keepB h.box (by omega), h.seen.set hi, h.todo.keep (fun g hg => hb.block g (by rw [e] at hg; injection hg with hg; omega) (by rw [e] at hg; injection hg with hg; omega)), h.bel.trans (hb.below (Nat.le_succ _) h.bel.size)⟩
theorem RnAt.more {ob : Obj} (h : RnAt w bv n met qt todo W) (hq : QuI W' (w.heap.size + 2) qt' todo') (hg : (W.alloc ob).grownBy W' qt.ownBlock) : RnAt w bv n met qt' todo' W' := by
  have b1 : Below W.heap.size W (W.alloc ob) := (Below.refl _ _).alloc (Nat.le_refl _) _
  have h1 := h.stays b1
  obtain ⟨gt, e, hlo, hlt⟩ := h.todo.low
  refine ⟨(hg.block _ (hltP h1.box) (by rw [e]; intro e2; injection e2 with e2; omega)).trans h1.box, h1.seen.keep (hg.block _ h1.seen.lt (by rw [e]; intro e2; injection e2 with e2; omega)), hq, h1.bel.grown hg h1.bel.size (fun b' hb' => by rw [e] at hb'; injection hb' with e2; omega)⟩
end
set_option maxRecDepth 100000 in
set_option maxHeartbeats 8000000 in
theorem spec_l10Round (g : Gr) (a : Nat) (w : World) (B : Nat) (v : Array Value) (lo3 g3 c3 : Nat) (rows3 : List Nat) (h : GrIs w B v g) (hok : grOk g = true) (ha : a < g.blocks.length) (hrl : rows3.length = g.blocks.length) (hr : RbAt g.blocks.length lo3 (.slice (some ⟨g3, 0, none⟩) g.blocks.length c3) rows3 (fun i k => rulB g.blocks (i : Int) (k : Int)) w) :
    Calls Try.prog 33 #[.agg v, .slice (some ⟨g3, 0, none⟩) g.blocks.length c3, .int .i64 (a : Int)] w fun en w' => en = .returned (.bool (rndB g.blocks (a : Int))) ∧ Below w.heap.size w w' := by
  have hn := (grOk_blocks hok).2
  have HALL := hideP (allIn_of hok)
  have IA : Hid (InR g.blocks.length (a : Int)) := ⟨by omega, by omega⟩
  have HR := hideP hr
  have HRL := hideP hrl
  obtain ⟨sizes, params, vars, slots, blocks⟩ := g
  obtain ⟨us, cs, ub, cb, rfl, _, _, hbb⟩ := h
  simp only at *
  have HBB := hideP hbb
  have RES : Hid (∀ met : List Int, (∀ y, y ∈ met ↔ Rnd blocks (a : Int) y) → decide ((a : Int) ∈ met) = rndB blocks (a : Int)) := fun met hm => by
    unfold rndB
    rw [Bool.eq_iff_iff, decide_eq_true_eq, @decide_eq_true_iff _ (Classical.propDecidable _)]
    exact hm _
  obtain ⟨res, hres⟩ : ∃ r, rndB blocks (a : Int) = r := ⟨_, rfl⟩
  rw [hres] at RES ⊢
  have hmk := make_boolR blocks.length (by omega)
  have K0 : Hid (RnAt w #[.slice us sizes.length cs, .int .i64 params, .int .i64 vars, .int .i64 slots, .slice ub blocks.length cb] blocks.length [] (.slice (some ⟨w.heap.size + 2, 0, none⟩) 1 1) [(a : Int)] (((w.alloc (.cells #[.slice us sizes.length cs, .int .i64 params, .int .i64 vars, .int .i64 slots, .slice ub blocks.length cb] 30)).alloc (.cells (madeCells #[.bool false] blocks.length) 4)).alloc (.cells #[.int .i64 (a : Int)] 3))) := by
    have e1 : (w.alloc (.cells #[.slice us sizes.length cs, .int .i64 params, .int .i64 vars, .int .i64 slots, .slice ub blocks.length cb] 30)).heap.size = w.heap.size + 1 := by simp
    have e2 : ((w.alloc (.cells #[.slice us sizes.length cs, .int .i64 params, .int .i64 vars, .int .i64 slots, .slice ub blocks.length cb] 30)).alloc (.cells (madeCells #[.bool false] blocks.length) 4)).heap.size = w.heap.size + 2 := by simp
    have al1 : Below w.heap.size w (w.alloc (.cells #[.slice us sizes.length cs, .int .i64 params, .int .i64 vars, .int .i64 slots, .slice ub blocks.length cb] 30)) := (Below.refl _ _).alloc (Nat.le_refl _) _
    have bx := newB8 w (.cells #[.slice us sizes.length cs, .int .i64 params, .int .i64 vars, .int .i64 slots, .slice ub blocks.length cb] 30)
    obtain ⟨W1, hW1⟩ : ∃ W1, w.alloc (.cells #[.slice us sizes.length cs, .int .i64 params, .int .i64 vars, .int .i64 slots, .slice ub blocks.length cb] 30) = W1 := ⟨_, rfl⟩
    rw [hW1] at e1 e2 al1 bx ⊢
    have al2 : Below W1.heap.size W1 (W1.alloc (.cells (madeCells #[.bool false] blocks.length) 4)) := (Below.refl _ _).alloc (Nat.le_refl _) _
    have rw1 := (made_row W1 blocks.length).seen
    rw [e1] at rw1
    obtain ⟨W2, hW2⟩ : ∃ W2, W1.alloc (.cells (madeCells #[.bool false] blocks.length) 4) = W2 := ⟨_, rfl⟩
    rw [hW2] at e2 al2 rw1 ⊢
    have al3 : Below W2.heap.size W2 (W2.alloc (.cells #[.int .i64 (a : Int)] 3)) := (Below.refl _ _).alloc (Nat.le_refl _) _
    have ow := own_lit W2 [(a : Int)] #[.int .i64 (a : Int)] W2.heap.size 1 rfl rfl rfl (by simp)
    rw [e2] at ow
    exact ⟨((below_trans al2 al3).block _ (hltP bx)).trans bx, rw1.keep (al3.block _ rw1.lt), QuI.of_own ow, below_trans (below_trans al1 al2) al3⟩
  clear hbb hres hr hrl hok
  go_enter Try.func33, Try.ntmps33
  go_wp2
  clear hmk
  obtain ⟨W0, hW0⟩ : ∃ W0, (((w.alloc (.cells #[.slice us sizes.length cs, .int .i64 params, .int .i64 vars, .int .i64 slots, .slice ub blocks.length cb] 30)).alloc (.cells (madeCells #[.bool false] blocks.length) 4)).alloc (.cells #[.int .i64 (a : Int)] 3)) = W0 := ⟨_, rfl⟩
  rw [hW0] at K0 ⊢
  clear hW0
  go_loopg [8] (blocks.length + 1) (fun gk q wr => ∃ (dn todo met : List Int), gk + dn.length = blocks.length + 1 ∧ Hid (RdB blocks (a : Int) dn todo met) ∧ Hid (RnAt w #[.slice us sizes.length cs, .int .i64 params, .int .i64 vars, .int .i64 slots, .slice ub blocks.length cb] blocks.length met q todo wr))
  case atStart => exact ⟨[], [(a : Int)], [], by simp, rdB_start, K0.out⟩
  case round =>
    obtain ⟨dn, todo, met, hgk, hD, hK⟩ := hrel
    clear K0
    obtain ⟨gq, oq, cq, cur, hvq, hq1, hq2, hq3, hq4, hq5, hq6⟩ := id hK.out.todo
    subst hvq
    cases todo with
    | nil =>
      have R0 := hideP (RES.out met (fun y => hD.out.done y))
      obtain ⟨m1, _⟩ := hK.out.seen.at ha
      rw [R0.out] at m1
      clear hq1 hq2 hq3 hq4 hq5 hq6 hD
      go_wp2
      go_ret
      exact ⟨rfl, hK.out.bel⟩
    | cons c todo =>
      have hcr := hD.out.inR HALL.out IA.out
      have hsh := hD.out.short
      rw [List.length_cons] at hsh
      obtain ⟨i, hci⟩ : ∃ i : Nat, c = (i : Int) := ⟨c.toNat, by have := hcr.1; omega⟩
      subst hci
      have hi : i < blocks.length := by have := hcr.2; omega
      have hc0 := hK.out.todo.at 0 (by simp)
      simp only [Nat.add_zero, List.getElem_cons_zero] at hc0
      have TL := hideP hK.out.todo.tail
      simp only [List.length_cons] at hq3 ⊢
      obtain ⟨k, hkl⟩ : ∃ k, todo.length = k := ⟨_, rfl⟩
      rw [hkl] at hq3 hsh TL ⊢
      have HKL := hideP hkl
      have i1 : (1 : Int) ≤ ((k + 1 : Nat) : Int) := by omega
      have i2 : ((k + 1 : Nat) : Int) ≤ (cq : Int) := by omega
      have GQ := hideP hq1
      clear hq1 hq2 hq4 hq5 hq6 hkl hcr
      go_upto_region 5 with fail
      obtain ⟨wo, hwo⟩ : ∃ wo, wr = wo := ⟨_, rfl⟩
      subst hwo
      go_cut [8] from 18 to 69 (fun q wx => wx = wr ∧ Hid (QuI wr (w.heap.size + 2) q todo))
      case first =>
        by_cases hc1 : cq = 1
        · have QT2 : Hid (QuI wr (w.heap.size + 2) (.slice (some ⟨gq, oq, none⟩) k 0) todo) := by have := TL.out.2 hc1; rw [hc1] at this; exact this
          go_wp2
          go_meet
          exact ⟨rfl, QT2.out⟩
        · have QT2 := hideP TL.out.1
          go_wp2
          go_meet
          exact ⟨rfl, QT2.out⟩
      case rest =>
      obtain ⟨hwc, hqq⟩ := hcut
      have hwc' := hwc.symm
      subst hwc'
      clear hwc
      have K1 := hideP (hK.out.swap hqq.out)
      clear hqq TL hc0 hK
      obtain ⟨bb, oo, code, jump, x2, t0, els, uc, kc, hub, _, hbl, he, q0, q1, q2, q3, q4, hbk⟩ := Blk_get HBB.out i hi
      subst hub
      have hE := K1.out.bel
      have q0 := (hE.cell (p := ⟨bb, _, none⟩) hbl).trans q0
      have q1 := (hE.cell (p := ⟨bb, _, none⟩) hbl).trans q1
      have q2 := (hE.cell (p := ⟨bb, _, none⟩) hbl).trans q2
      have q3 := (hE.cell (p := ⟨bb, _, none⟩) hbl).trans q3
      have q4 := (hE.cell (p := ⟨bb, _, none⟩) hbl).trans q4
      have x4 := (cells_of K1.out.box).1 4
      simp at x4
      have NX := hideP (spec_l05Next ⟨code, jump, x2, t0, els⟩ _ B _ (BlkKeeps.stays hbk hE))
      have PN : Hid (nxt blocks (i : Int) = nextP blocks[i]) := by
        show _ = _
        unfold nxt
        rw [Int.toNat_natCast, List.getElem?_eq_getElem hi]
      rw [he] at PN
      obtain ⟨nx, hnx⟩ : ∃ nx, nextP ⟨code, jump, x2, t0, els⟩ = nx := ⟨_, rfl⟩
      have hnl : nx.length ≤ 2 := by rw [← hnx]; exact nextP_len _
      rw [hnx] at NX PN
      have V0 := hideP (hD.out.enter (nx := nx))
      clear he hbk hnx hE hD
      go_wp2_with fail
      refine NX.out.mono ?_
      rintro e7 w7 ⟨v7, rfl, o7, b7⟩
      have K7 := hideP (K1.out.stays b7)
      have DIN : Hid (∀ x ∈ nx, ∃ t : Nat, x = (t : Int) ∧ t < blocks.length) := fun x hx => by
        rw [← PN.out] at hx
        obtain ⟨h1, h2⟩ := nxt_in HALL.out _ x hx
        exact ⟨x.toNat, by omega, by omega⟩
      obtain ⟨gn, cn, hv7, _⟩ := id o7
      subst hv7
      have O7 := hideP (o7.mono (Nat.zero_le _))
      have hgn : gn ≠ w.heap.size + 1 := by have := (o7.low gn rfl).1; have := K1.out.seen.lt; omega
      have QN : Hid (∀ q : Value, ∀ b, q.ownBlock = some b → b < wr.heap.size → q.ownBlock ≠ some gn) := fun q b e hl e2 => by rw [e] at e2; injection e2 with e2; have := (o7.low gn rfl).1; omega
      obtain ⟨bq, hbq1, hbq2, hbq3⟩ := K1.out.todo.low
      have Q7 := hideP (QN.out _ bq hbq1 hbq3)
      clear o7 b7 NX q0 q1 q2 q3 q4 x4 K1 QN hbq1 hbq2 hbq3
      go_wp2
      go_loopg [8, 11] nx.length (fun hk q jj wr2 => ∃ (j : Nat) (td met : List Int), hk + j = nx.length ∧ jj = .int .i64 j ∧ Hid (RdV blocks (a : Int) dn (i : Int) td met nx j) ∧ Hid (RnAt w #[.slice us sizes.length cs, .int .i64 params, .int .i64 vars, .int .i64 slots, .slice (some ⟨bb, oo, none⟩) blocks.length cb] blocks.length met q td wr2) ∧ Hid (q.ownBlock ≠ some gn) ∧ Hid (OwnI wr2 0 (.slice (some ⟨gn, 0, none⟩) nx.length cn) nx))
      case atStart => exact ⟨0, todo, met, by simp, rfl, V0.out, K7.out, Q7.out, O7.out⟩
      case round =>
        obtain ⟨j, td, met, hhk, rfl, hV, hK, hQ, hO⟩ := hrel
        clear V0 K7 Q7 O7
        by_cases hlt : j < nx.length
        · obtain ⟨x, hx⟩ : ∃ x, nx[j] = x := ⟨_, rfl⟩
          obtain ⟨z, hz, hzn⟩ := DIN.out x (hx ▸ List.getElem_mem hlt)
          subst hz
          have hc := hO.out.at j hlt
          rw [hx, Nat.zero_add] at hc
          have HRr := HR.out.stays hK.out.bel
          have hzr : z < rows3.length := by rw [HRL.out]; exact hzn
          obtain ⟨m0, m1⟩ := HRr.at (i := z) (k := i) hzr hi
          obtain ⟨gr, hgr⟩ : ∃ gr, rows3[z] = gr := ⟨_, rfl⟩
          rw [hgr] at m0 m1
          obtain ⟨s1, f1⟩ := hK.out.seen.at hzn
          have hvs := hV.out.short
          have THR := hideP (fun hm => hV.out.there hlt hx hm)
          have NEW := hideP (fun h1 h2 => hV.out.new HALL.out hlt hx h1 h2 (by omega) PN.out)
          obtain ⟨gq4, oq4, cq4, cur4, hvq4, _⟩ := id hK.out.todo
          subst hvq4
          clear hgr hx HRr hV
          cases hrb : rulB blocks (z : Int) (i : Int) with
          | true =>
            rw [hrb] at m1
            have V2 := hideP (THR.out (Or.inl hrb))
            clear hrb THR NEW s1
            go_wp2
            go_roundg (nx.length - (j + 1))
            case rel => exact ⟨j + 1, td, met, by omega, by go_num, V2.out, hK.out, hQ.out, hO.out⟩
            case measure => omega
          | false =>
            rw [hrb] at m1
            by_cases hm : (z : Int) ∈ met
            · have V2 := hideP (THR.out (Or.inr hm))
              rw [decide_eq_true hm] at s1
              clear hrb THR NEW hm
              go_wp2
              go_roundg (nx.length - (j + 1))
              case rel => exact ⟨j + 1, td, met, by omega, by go_num, V2.out, hK.out, hQ.out, hO.out⟩
              case measure => omega
            · have V2 := hideP (NEW.out hrb hm)
              rw [decide_eq_false hm] at s1
              have KM := hideP (hK.out.mark hzn)
              have hbt : But (w.heap.size + 1) wr (wr.setCell ⟨w.heap.size + 1, z, none⟩ (.bool true)) := (But.refl _ _).set _ _
              have OM := hideP (hO.out.butG hbt (by simp [Value.ownBlock]; exact hgn))
              have c2 := OM.out.at j hlt
              have hnz : nx[j] = (z : Int) := by
                have h1 := hO.out.at j hlt
                rw [Nat.zero_add, hc] at h1
                simpa using h1.symm
              rw [hnz, Nat.zero_add] at c2
              clear hrb THR NEW hm hbt hnz
              go_upto_region 12 with fail
              obtain ⟨wm, hwm⟩ : ∃ wm, wr.setCell ⟨w.heap.size + 1, z, none⟩ (.bool true) = wm := ⟨_, rfl⟩
              rw [hwm] at KM OM c2 ⊢
              have al := (Below.refl wm.heap.size wm).alloc (Nat.le_refl _) (.cells #[.int .i64 (z : Int)] 3)
              have QA := hideP (KM.out.todo.stays al)
              have LC : Hid ((wm.alloc (.cells #[.int .i64 (z : Int)] 3)).cell? ⟨wm.heap.size, 0, none⟩ = some (.int .i64 (z : Int))) := (cells_of (newB8 wm (.cells #[.int .i64 (z : Int)] 3))).1 0
              have hsz : w.heap.size + 2 ≤ (wm.alloc (.cells #[.int .i64 (z : Int)] 3)).heap.size := by have := KM.out.seen.lt; have := al.size; omega
              have OA := hideP (OM.out.stays al)
              have hgnl := (OM.out.low gn rfl).2
              clear al hwm m0 m1 s1 f1 hc
              go_wp2_with (at_builtin; refine list_appQ _ rfl _ _ rfl (w.heap.size + 2) _ td (z : Int) wm.heap.size 0 1 rfl rfl QA.out LC.out (by omega) hsz ?_; intro v6 w6 o6 grow6 loc6)
              replace grow6 : World.grownBy _ w6 (Value.slice (some ⟨gq4, oq4, none⟩) td.length cq4).ownBlock := grow6
              replace loc6 : v6.ownBlock = (Value.slice (some ⟨gq4, oq4, none⟩) td.length cq4).ownBlock ∨ v6.ownBlock = some (wm.alloc (.cells #[.int .i64 (z : Int)] 3)).heap.size := loc6
              have K6 := hideP (KM.out.more o6 grow6)
              have O6 := hideP (OA.out.kept grow6 (fun e => hQ.out e.symm))
              have hzz : wm.heap.size < (wm.alloc (.cells #[.int .i64 (z : Int)] 3)).heap.size := by simp
              have Q6 : Hid (v6.ownBlock ≠ some gn) := by
                show _ ≠ _
                rcases loc6 with e | e
                · rw [e]; exact hQ.out
                · rw [e]; intro e2; injection e2 with e2; omega
              obtain ⟨gq6, oq6, cq6, cur6, hv6, _⟩ := id o6
              rw [List.length_append, List.length_singleton] at hv6
              subst hv6
              clear o6 grow6 loc6 QA LC KM OM OA c2
              go_wp2
              go_roundg (nx.length - (j + 1))
              case rel => exact ⟨j + 1, td ++ [(z : Int)], met ++ [(z : Int)], by omega, by go_num, V2.out, K6.out, Q6.out, O6.out⟩
              case measure => omega
        · have hjn : j = nx.length := by omega
          subst hjn
          have B2 := hideP (hV.out.out (by omega) PN.out)
          clear hV
          go_wp2
          go_roundg (blocks.length + 1 - (dn.length + 1))
          case rel => exact ⟨dn ++ [(i : Int)], td, met, by rw [List.length_append, List.length_singleton]; omega, B2.out, hK.out⟩
          case measure => omega
end Go.Proofs.Ytooaoankloocmab
