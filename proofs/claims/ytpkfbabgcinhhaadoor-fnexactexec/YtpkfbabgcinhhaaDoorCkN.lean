/- The contract of spec.l14Exec where it can be run. -/
import Derived.Test.YtpkfbabgcinhhaaDoorCkM
import Derived.Test.YtpkfbabgcinhhaaDoorImgS
import Derived.Test.YtpkfbabgcinhhaaDoorCkI
import Derived.Laws.ResultCell
import Derived.Test.YtpkfbabgcinhhaaDoorCkL
namespace Go.Proofs.YtpkfbabgcinhhaaDoor
open Go.ChangeShapes Go.WideShapes Go.ChangeAt Go.RowKit
theorem results_two {fn : Func} {p u : Tmp} {ty : TypeId} (h : fn.results = #[.cell p ty, .tmp u]) (tmps : Array Value) (w : World) (g : Nat) (cs : Array Value)
    (hp : tmps.getD p undef = .pointer (some ⟨g, 0, none⟩)) (hr : (loadVar ty ⟨g, 0, none⟩).run Tryd.prog w = .ok (.agg cs) w) (v : Value) (hv : tmps.getD u undef = v) :
    (results fn tmps).run Tryd.prog w = .ok (.tuple #[.agg cs, v]) w := by
  rw [results_cell_tmp h, hp, hv]
  simp [asAddr, hr, Result.andThen]
theorem twoNewS (w : World) (o1 o2 : Obj) : ∃ W, (w.alloc o1).alloc o2 = W ∧ Below w.heap.size w W ∧ W.heap[w.heap.size]? = some o1 ∧ W.heap[w.heap.size + 1]? = some o2 ∧ W.heap.size = w.heap.size + 2 := by
  have al1 := (Below.refl w.heap.size w).alloc (Nat.le_refl _) o1
  have al2 := (Below.refl _ (w.alloc o1)).alloc (Nat.le_refl _) o2
  refine ⟨_, rfl, al1.trans (al2.mono al1.size), (al2.block _ (by simp)).trans (newOb _ _), ?_, by simp⟩
  rw [← World.size_alloc w o1]
  exact newOb _ _
theorem start_any2 (w : World) {us ua ui : Option Addr} (cs ca ci : Nat) {sz args input : List Int} (f V : Int) (nz : Nat) (hV : V = ((args.length + nz : Nat) : Int)) (hs : IntsIs w 0 us sz) (ha : IntsIs w 0 ua args) (hz : ∀ z ∈ sz, 0 ≤ z ∧ z ≤ 1000000) (hn : sz.length ≤ 1000) (hv : args.length + nz ≤ 1000000) :
    Calls Tryd.prog 31 #[.slice us sz.length cs, .int .i64 V, .slice ua args.length ca, .slice ui input.length ci, .int .i64 f] w fun e w' => ∃ b v cv q rows, e = .returned (.pointer (some ⟨b, 0, none⟩)) ∧ rows.length = sz.length ∧ SrAt w b v cv (args ++ List.replicate nz 0) ui input.length ci f sz q rows w' := by
  subst hV
  exact start_any w cs ca ci f nz hs ha hz hn hv
theorem burn_out (s : Mch) : (burnM s).2.out = s.out := by
  unfold burnM
  split
  · rfl
  · split <;> rfl
theorem runM_stop {code : List Wrd} {n : Nat} {t : McT} (h : (burnM t.1).1 = false) : runM code n t = (burnM t.1).2 := by
  cases n with
  | zero => rfl
  | succ n => show (if (burnM t.1).1 = true then _ else _) = _; rw [if_neg (by rw [h]; decide)]
theorem runM_go {code : List Wrd} {n : Nat} {t : McT} (h : (burnM t.1).1 = true) : runM code (n + 1) t = runM code n (wordM (code.getD t.2.2.toNat default) t.2.2 (burnM t.1).2 t.2.1) := by
  show (if (burnM t.1).1 = true then _ else _) = _
  rw [if_pos h]
set_option maxHeartbeats 8000000 in
set_option maxRecDepth 100000 in
theorem l14_yes {m : Img} {B : Nat} {us : Option Addr} {cs : Nat} {ub : Option Addr} {cb : Nat} (w : World) (hI : ImgIs w B #[.slice us m.sizes.length cs, .int .i64 m.params, .int .i64 m.slots, .slice ub m.code.length cb] m) {args input : List Int} {f : Int} (ua : Option Addr) (ca : Nat) (ui : Option Addr) (ci : Nat) (hok : runOk m args input f = true) (ha : IntsIs w 0 ua args) (hi : IntsIs w 0 ui input) (hci : input.length ≤ ci ∧ ci ≤ maxLen) :
    Calls Tryd.prog 21 #[.agg #[.slice us m.sizes.length cs, .int .i64 m.params, .int .i64 m.slots, .slice ub m.code.length cb], .slice ua args.length ca, .slice ui input.length ci, .int .i64 f] w fun en w' => ∃ go c, en = .returned (.tuple #[.agg #[.int .i64 (execM m args input f).code, .int .i64 (if (execM m args input f).code = 0 then (execM m args input f).val else 0), .slice (some ⟨go, 0, none⟩) (execM m args input f).out.length c], .int .i64 (execM m args input f).fuel]) ∧ OwnI w' w.heap.size (.slice (some ⟨go, 0, none⟩) (execM m args input f).out.length c) (execM m args input f).out ∧ Below w.heap.size w w' := by
  obtain ⟨R, hR⟩ : ∃ R, execM m args input f = R := ⟨_, rfl⟩
  rw [hR]
  have HR := hideP hR
  have HM0 := hideP (mcOk_start hok)
  have hk := hok
  unfold runOk at hk
  simp only [Bool.and_eq_true, decide_eq_true_eq] at hk
  obtain ⟨him, hap, hin, hf0, hf1⟩ := hk
  have hfew := imgOk_few him
  have HIM := hideP him
  have him2 := him
  unfold imgOk regOk parOk at him2
  simp only [Bool.and_eq_true, decide_eq_true_eq, List.all_eq_true] at him2
  obtain ⟨⟨⟨⟨⟨hz1, hz2⟩, hp⟩, _⟩, _⟩, _⟩ := him2
  obtain ⟨hz2, hz3, hz4⟩ := hz2
  obtain ⟨hz0, hz1⟩ := hz1
  obtain ⟨us', cs', ub', cb', e, _, hsI, hcI⟩ := id hI
  simp only [Array.mk.injEq, List.cons.injEq, Value.slice.injEq, and_true, true_and] at e
  obtain ⟨⟨e1, e2⟩, e3, e4⟩ := e
  subst e1 e2 e3 e4
  obtain ⟨W, hW, bW, B1, B2, hsz⟩ := twoNewS w (.cells #[.slice us m.sizes.length cs, .int .i64 m.params, .int .i64 m.slots, .slice ub m.code.length cb] 32) (.cells zE 28)
  have IM := hideP (spec_imageOk m W B _ (ImgKeeps.stays hI bW))
  rw [him] at IM
  have d0 := (cells_of B1).1 0
  have d1 := (cells_of B1).1 1
  have d2 := (cells_of B1).1 2
  have d3 := (cells_of B1).1 3
  simp at d0 d1 d2 d3
  have AR := hideP (IntsIs.stays ha bW)
  have IN := hideP (IntsIs.stays hi bW)
  have SI := hideP (IntsIs.stays hsI bW)
  have CI := hideP (hcI.stays WrdKeeps bW)
  obtain ⟨nz, hnz⟩ : ∃ nz : Nat, m.slots = ((args.length + nz : Nat) : Int) := ⟨(m.slots - (args.length : Nat)).toNat, by omega⟩
  have HNZ := hideP hnz
  have HSZ : Hid (∀ z ∈ m.sizes, 0 ≤ z ∧ z ≤ 1000000) := fun z hzm => by
    have := hz1 z hzm
    unfold szOk at this
    simp only [decide_eq_true_eq] at this
    omega
  have HB1 := hideP B1
  have HB2 := hideP B2
  have HBW := hideP bW
  have HW := hideP hW
  have HS := hideP hsz
  have HC := hideP hci
  have HPS := hideP hap
  have HF : Hid (inB f 0 100000 = true) := by show _ = _; unfold inB; exact decide_eq_true (by omega)
  have HL4 : Hid (m.sizes.length ≤ 1000 ∧ 0 < m.sizes.length) := ⟨by omega, by omega⟩
  have HV4 : Hid (args.length + nz ≤ 1000000) := by show _ ≤ _; omega
  have HFW := hideP hfew
  have HIN := hideP hin
  have HFF := hideP (And.intro hf0 hf1)
  clear hW hsz bW B1 B2 hI ha hi hsI hcI hok him hR hz0 hz1 hz2 hz3 hz4 hp hnz hci hfew hf0 hf1
  go_enter Tryd.func21, Tryd.ntmps21
  unfold zE at HW
  go_upto_region 1 with fail
  rw [HW.out]
  obtain ⟨lb, hlb⟩ : ∃ lb, w.heap.size = lb := ⟨_, rfl⟩
  rw [hlb] at d0 d1 d2 d3 ⊢
  have HLB := hideP hlb
  clear hlb
  go_wp2_with fail
  refine IM.out.mono ?_
  rintro e1 w1 ⟨rfl, b1⟩
  have HB := hideP b1
  have k1 := (b1.block lb (by have := HS.out; have := HLB.out; omega)).trans (HLB.out ▸ HB1.out)
  clear b1 d0 d1 d2 d3
  have d0 := (cells_of k1).1 0
  have d1 := (cells_of k1).1 1
  have d2 := (cells_of k1).1 2
  simp at d0 d1 d2
  clear k1
  rw [← hap] at d1
  clear hap
  go_wp2_with fail
  refine (l01In_any f 0 100000 w1).mono ?_
  rintro e2 w2 ⟨rfl, hw2⟩
  obtain rfl := hw2.symm
  rw [HF.out]
  go_wp2_with fail
  refine (start_any2 w1 cs ca ci (input := input) f m.slots nz HNZ.out (SI.out.stays HB.out |>.mono (Nat.zero_le _)) (AR.out.stays HB.out) HSZ.out HL4.out.1 HV4.out).mono ?_
  rintro e3 w3 ⟨b, v, cv, q, rows, rfl, hrl, hsr⟩
  have SR := hideP hsr
  have HRL := hideP hrl
  clear hsr hrl d0 d1 d2
  go_wp2_with fail
  refine ((show Calls Tryd.prog 32 #[.int .i64 16] w3 _ from zeros_any 16 w3 (by omega))).mono ?_
  rintro e4 w4 ⟨v4, rfl, o4, b4⟩
  obtain ⟨r, cr, rfl, ho4⟩ := id o4
  clear ho4
  obtain ⟨L, hLb, hLr, hLc, hM⟩ := mat_made (g := List.replicate 16 0) SR.out HRL.out HL4.out.2 o4 b4 (IN.out.stays HB.out) ⟨HC.out.1, by have := HIN.out; omega⟩
  have M4 : Hid (MAt L w1.heap.size ui ci (.slice none 0 0) w4 (mch0 m args input f) (List.replicate 16 0)) := by
    have e : (m.slots - (args.length : Nat)).toNat = nz := by have := HNZ.out; omega
    show MAt _ _ _ _ _ _ _ _
    unfold mch0
    rw [e]
    exact hM
  have B4 := hideP (SR.out.bel.trans (b4.mono SR.out.bel.size))
  subst hLb hLr hLc
  clear hM o4 b4
  have ZE1 := hideP ((HB.out.block (lb + 1) (by have := HS.out; have := HLB.out; omega)).trans (HLB.out ▸ HB2.out))
  have IM1 := hideP ((HB.out.block lb (by have := HS.out; have := HLB.out; omega)).trans (HLB.out ▸ HB1.out))
  have C1 := hideP (CI.out.stays WrdKeeps HB.out)
  clear SR HRL HV4 HL4 HF HPS HW HSZ HNZ CI SI IN AR IM hw2 HIN
  go_wp2_with fail
  go_loopg [12] f.toNat (fun gk ix wr => ∃ (s : Mch) (g : List Int) (k : Int) (ui2 : Option Addr) (ci2 : Nat) (vo : Value), ix = .int .i64 k ∧ Hid (s.fuel.toNat = gk) ∧ Hid (MAt L w1.heap.size ui2 ci2 vo wr s g) ∧ Hid (McOk m (s, g, k)) ∧ Hid (runM m.code gk (s, g, k) = R) ∧ Hid (ci2 ≤ maxLen) ∧ Hid (Below w1.heap.size w1 wr))
  case atStart => exact ⟨mch0 m args input f, List.replicate 16 0, 0, ui, ci, _, rfl, rfl, M4.out, HM0.out, HR.out, HC.out.2, B4.out⟩
  case round =>
    obtain ⟨s, g, k, ui2, ci2, vo, rfl, hg, hM, hO, hX, hc2, hB⟩ := hrel
    clear M4 B4
    go_wp2_with fail
    refine (burn_any hM.out ⟨hO.out.fuel.1, by have := hO.out.fuel; simp only at this; omega⟩).mono ?_
    rintro e5 w5 ⟨rfl, hM5, b5⟩
    have ho5 : (burnM s).2.out.length ≤ 100000 := by rw [burn_out]; have := hO.out.outl; have := hO.out.fuel; simp only at *; omega
    cases hb : (burnM s).1
    · have hRs : (burnM s).2 = R := by rw [← hX.out]; exact (runM_stop (t := (s, g, k)) hb).symm
      go_upto_region 8 with fail
      have M5 := hideP (hM5.stays ((Below.refl _ _).drew))
      have L5 := hideP hM5.low
      have hfu := (cells_of hM5.box).1 3
      simp at hfu
      rw [hRs] at M5 hfu ho5
      clear hM5 hRs
      refine wp_region_held_drew (S := fun W => W.cell? ⟨L.b, 3, none⟩ = some (.int .i64 R.fuel)) (by kernel_rfl) (by exact hfu) (fun hHeld => ?_)
      have B5 := hideP ((hB.out.trans b5).drew)
      have S5 : Hid (w5.drew.cell? ⟨L.b, 3, none⟩ = some (.int .i64 R.fuel)) := hfu
      generalize w5.drew = X0 at M5 B5 S5 hHeld ⊢
      clear hfu b5
      refine wpAnyH_take (i := 0) (v := (.pointer (some ⟨L.b, 0, none⟩))) rfl (by kernel_rfl) (by kernel_rfl) (by kernel_rfl) (fun _ _ _ h => h) (Or.inl ⟨by rfl, ?_⟩) hHeld ?_
      · (intro w hSw; (try dsimp only at hSw); go_simp)
      walk_nrm
      refine wpAnyH_take (i := 2) (v := (.pointer (some ⟨L.b, 0, none⟩))) rfl (by kernel_rfl) (by kernel_rfl) (by kernel_rfl) (fun _ _ _ h => h) (Or.inl ⟨by rfl, ?_⟩) hHeld ?_
      · (intro w hSw; (try dsimp only at hSw); go_simp)
      walk_nrm
      refine wpAnyH_take (i := 3) (v := (.pointer (some ⟨L.b, 0, none⟩))) rfl (by kernel_rfl) (by kernel_rfl) (by kernel_rfl) (fun _ _ _ h => h) (Or.inl ⟨by rfl, ?_⟩) hHeld ?_
      · (intro w hSw; (try dsimp only at hSw); go_simp)
      walk_nrm
      refine wpAnyH_take (i := 4) (v := (.pointer (some ⟨L.b, 3, none⟩))) rfl (by kernel_rfl) (by kernel_rfl) (by kernel_rfl) (fun _ _ _ h => h) (Or.inl ⟨by rfl, ?_⟩) hHeld ?_
      · (intro w hSw; (try dsimp only at hSw); go_simp)
      walk_nrm
      refine wpAnyH_take (i := 5) (v := (.int .i64 R.fuel)) rfl (by kernel_rfl) (by kernel_rfl) (by kernel_rfl) (fun _ _ _ h => h) (Or.inl ⟨by rfl, ?_⟩) hHeld ?_
      · (intro w hSw; (try dsimp only at hSw); go_simp)
      walk_nrm
      refine wpAnyH_ready (rs := [1]) (by kernel_rfl) (by simp) ?_
      refine AllReadyH.cons rfl (fun K hK => ?_) (AllReadyH.nil)
      go_simp
      go_at_call 35
      refine (end_any M5.out (by omega)).mono ?_
      rintro ea wa ⟨go, c, rfl, oG, bG⟩
      obtain ⟨ec, hec⟩ : ∃ ec, (if R.code = 0 then R.val else 0) = ec := ⟨_, rfl⟩
      rw [hec]
      have SG := hideP ((bG.cell (p := ⟨L.b, 3, none⟩) (Array.getElem?_eq_some_iff.1 M5.out.box).1).trans S5.out)
      have OG := hideP oG
      have BG := hideP (B5.out.trans (bG.mono B5.out.size))
      have XB := hideP (show X0.heap.size ≤ wa.heap.size from bG.size)
      have LG := hideP (oG.low go rfl)
      clear oG bG
      go_wp2_with fail
      refine hK.out _ _ (SG.out) (fun hHeld => ?_)
      clear hK K
      have Z3 : wa.heap[lb + 1]? = some (.cells zE 28 (0, 0)) := (BG.out.block (lb + 1) (by have := HS.out; have := HLB.out; have := HB.out.size; omega)).trans (ZE1.out)
      unfold zE at Z3
      have z0 := (cells_of Z3).1 0
      have z1 := (cells_of Z3).1 1
      have z2 := (cells_of Z3).1 2
      have zf := (cells_of Z3).2
      simp at z0 z1 z2
      have P3 := hideP (put3 Z3 (.int .i64 R.code) (.int .i64 ec) (.slice (some ⟨go, 0, none⟩) R.out.length c))
      have KZ := hideP ((((But.refl (lb + 1) wa).set 0 (.int .i64 R.code)).set 1 (.int .i64 ec)).set 2 (.slice (some ⟨go, 0, none⟩) R.out.length c))
      clear Z3
      have SK := hideP ((KZ.out.cell (World.block_lt_of_cell? _ _ SG.out) (by show L.b ≠ lb + 1; have := M5.out.lowB; have := HS.out; have := HLB.out; have := HB.out.size; omega)).trans SG.out)
      refine wpAnyH_ready (rs := [6]) (by kernel_rfl) (by simp) ?_
      refine AllReadyH.cons rfl (fun K hK => ?_) (AllReadyH.nil)
      go_simp
      refine hK.out _ _ (SK.out) (fun hHeld => ?_)
      clear hK K
      refine wpAnyH_take (i := 7) (v := (.int .i64 R.fuel)) rfl (by kernel_rfl) (by kernel_rfl) (by kernel_rfl) (fun _ _ _ h => h) (Or.inl ⟨by rfl, ?_⟩) hHeld ?_
      · (intro w hSw; (try dsimp only at hSw); go_simp)
      walk_nrm
      refine wpAnyH_done (by kernel_rfl) ?_ _
      clear hHeld z0 z1 z2 zf
      go_wp2_with fail
      refine bodyPost_ret (results_two rfl _ _ (lb + 1) #[.int .i64 R.code, .int .i64 ec, .slice (some ⟨go, 0, none⟩) R.out.length c] rfl (run_loadVar_row _ (lb + 1) _ _ _ (0, 0) _ P3.out Tryd.underlying28 rfl (by kernel_rfl)) (.int .i64 R.fuel) rfl) rfl ?_
      have q1 := HBW.out
      have q2 := HS.out
      have q3 := HLB.out
      have q4 := HB.out.size
      have q5 := B5.out.size
      have q6 := XB.out
      have q7 := LG.out
      refine ⟨go, c, rfl, ?_, ?_⟩
      · refine ((OG.out.butG KZ.out (fun e => ?_))).mono (by omega)
        have := own_blk e
        omega
      · exact (q1.trans ((HB.out.trans (BG.out.mono q4)).mono (by omega))).trans (KZ.out.below (B := w.heap.size) (by omega) (by omega))
    · obtain ⟨b1, b2, b3, b4⟩ := burn_true hb
      have hkk := hO.out.at' b1 b2
      simp only at hkk
      obtain ⟨kn, rfl⟩ : ∃ kn : Nat, k = (kn : Int) := ⟨k.toNat, by omega⟩
      have hkl : kn < m.code.length := by omega
      have hnx := (hO.out).word HIM.out hb
      have hxo := imgOk_wrd HIM.out (List.getElem_mem hkl)
      have ecd : m.code.getD (kn : Int).toNat default = m.code[kn] := by rw [Int.toNat_natCast, List.getD_eq_getElem?_getD, List.getElem?_eq_getElem hkl]; rfl
      have B5 := hideP (hB.out.trans b5)
      obtain ⟨b', o', y0, y1, y2, y3, y4, rfl, _, hbi, hy, r0, r1, r2, r3, r4, _⟩ := Wrd_get (C1.out.stays WrdKeeps B5.out) kn hkl
      rw [ecd, hy] at hnx
      rw [hy] at hxo ecd
      have hf2 := hO.out.fuel
      simp only at hf2
      obtain ⟨g2, rfl⟩ : ∃ g2, gk = g2 + 1 := ⟨gk - 1, by have := hg.out; omega⟩
      have hX2 : runM m.code g2 (wordM ⟨y0, y1, y2, y3, y4⟩ (kn : Int) (burnM s).2 g) = R := by
        rw [← hX.out, runM_go (t := (s, g, (kn : Int))) hb]
        show _ = runM m.code g2 (wordM (m.code.getD (kn : Int).toNat default) (kn : Int) (burnM s).2 g)
        rw [ecd]
      have hml := hO.out.mlen
      have hvl := hO.out.vlen
      have hrw := hO.out.rows
      have hg16 := hO.out.g16
      simp only at hml hvl hrw hg16
      have WA : Hid (Calls Tryd.prog 34 #[.pointer (some ⟨L.b, 0, none⟩), .slice (some ⟨L.r, 0, none⟩) 16 L.cr, .agg #[.int .i64 y0, .int .i64 y1, .int .i64 y2, .int .i64 y3, .int .i64 y4], .int .i64 (kn : Int)] w5 fun en w' => WordRes L w1.heap.size ci2 w5 (wordM ⟨y0, y1, y2, y3, y4⟩ (kn : Int) (burnM s).2 g) en w') := by
        refine word_any ⟨y0, y1, y2, y3, y4⟩ L w1.heap.size ui2 ci2 vo w5 (burnM s).2 g hM5 hg16 (kn : Int) ⟨by omega, by have := HFW.out; omega⟩ hc2.out (m.code.length : Nat) ?_ (by rw [b4]; exact b1) (by rw [b4]; exact hrw) (by omega)
        rw [b4]
        show wrdOk ((s.mem.length : Nat) : Int) ((s.vars.length : Nat) : Int) _ _ = true
        rw [hml, hvl]
        exact hxo
      generalize wordM ⟨y0, y1, y2, y3, y4⟩ (kn : Int) (burnM s).2 g = t2 at WA hX2 hnx
      have HN := hideP hnx
      have HX2 := hideP hX2
      have I5 := (B5.out.block lb (by have := HB.out.size; have := HS.out; have := HLB.out; omega)).trans IM1.out
      have d3 := (cells_of I5).1 3
      simp at d3
      have hgg := hg.out
      clear hnx hX2 I5 hxo ecd hy hkk b1 b2 b3 b4 b5 hb hM5 ho5 hml hvl hrw hg16 hX hM hB
      go_wp2_with fail
      refine WA.out.mono ?_
      rintro e6 w6 ⟨rfl, ⟨ui3, ci3, vo3, hc3, hM6⟩, b6⟩
      clear d3 r0 r1 r2 r3 r4
      have M6 := hideP hM6
      have B6 := hideP (B5.out.trans b6)
      obtain ⟨s2, gg2, k2⟩ := t2
      clear hM6 b6
      go_wp2_with fail
      go_roundg g2
      case rel => exact ⟨s2, gg2, k2, ui3, ci3, vo3, rfl, by have h9 := HN.out.2; show s2.fuel.toNat = g2; have h8 : s2.fuel = s.fuel - 1 := h9; omega, M6.out, HN.out.1, HX2.out, Nat.le_trans hc3 hc2.out, B6.out⟩
      case measure => omega
end Go.Proofs.YtpkfbabgcinhhaaDoor

/- The contract of spec.l14Exec where it can not be run. -/
namespace Go.Proofs.YtpkfbabgcinhhaaDoor
open Go.ChangeShapes Go.WideShapes Go.ChangeAt Go.RowKit
set_option maxHeartbeats 8000000 in
set_option maxRecDepth 100000 in
theorem l14_no {m : Img} {B : Nat} {us : Option Addr} {cs : Nat} {ub : Option Addr} {cb : Nat} (w : World) (hI : ImgIs w B #[.slice us m.sizes.length cs, .int .i64 m.params, .int .i64 m.slots, .slice ub m.code.length cb] m) {args input : List Int} {f : Int} (ua : Option Addr) (ca : Nat) (ui : Option Addr) (ci : Nat) (hok : runOk m args input f = false) :
    Calls Tryd.prog 21 #[.agg #[.slice us m.sizes.length cs, .int .i64 m.params, .int .i64 m.slots, .slice ub m.code.length cb], .slice ua args.length ca, .slice ui input.length ci, .int .i64 f] w fun en w' => en = .returned (.tuple #[.agg #[.int .i64 3, .int .i64 0, .slice none 0 0], .int .i64 0]) ∧ Below w.heap.size w w' := by
  obtain ⟨W, hW, bW, B1, B2, hsz⟩ := twoNewS w (.cells #[.slice us m.sizes.length cs, .int .i64 m.params, .int .i64 m.slots, .slice ub m.code.length cb] 32) (.cells zE 28)
  have IM := hideP (spec_imageOk m W B _ (ImgKeeps.stays hI bW))
  have d0 := (cells_of B1).1 0
  have d1 := (cells_of B1).1 1
  have d2 := (cells_of B1).1 2
  have d3 := (cells_of B1).1 3
  simp at d0 d1 d2 d3
  have HB1 := hideP B1
  have HB2 := hideP B2
  have HBW := hideP bW
  have HW := hideP hW
  have HS := hideP hsz
  have HOK : Hid (imgOk m = true → (args.length : Int) = m.params → (input.length : Int) ≤ 100 → inB f 0 100000 = false) := fun h1 h2 h3 => by
    unfold runOk at hok
    rw [h1, Bool.true_and] at hok
    have := of_decide_eq_false hok
    unfold inB
    exact decide_eq_false (fun h => this ⟨h2, by omega, h.1, h.2⟩)
  clear hW hsz bW B1 B2 hI hok
  have HE : Hid (∀ w1 : World, Below W.heap.size W w1 → ∀ lb, w.heap.size = lb → (w1.heap[lb + 1]? = some (.cells #[.int .i64 0, .int .i64 0, .slice none 0 0] 28 (0, 0))) ∧ w1.heap[lb]? = some (.cells #[.slice us m.sizes.length cs, .int .i64 m.params, .int .i64 m.slots, .slice ub m.code.length cb] 32)) := fun w1 b1 lb hlb => by
    subst hlb
    have := HS.out
    exact ⟨(b1.block _ (by omega)).trans HB2.out, (b1.block _ (by omega)).trans HB1.out⟩
  have HF : Hid (∀ w1 : World, Below W.heap.size W w1 → ∀ lb, w.heap.size = lb → Below w.heap.size w (((w1.setCell ⟨lb + 1, 0, none⟩ (.int .i64 3)).setCell ⟨lb + 1, 1, none⟩ (.int .i64 0)).setCell ⟨lb + 1, 2, none⟩ (.slice none 0 0)) ∧ (((w1.setCell ⟨lb + 1, 0, none⟩ (.int .i64 3)).setCell ⟨lb + 1, 1, none⟩ (.int .i64 0)).setCell ⟨lb + 1, 2, none⟩ (.slice none 0 0)).heap[lb + 1]? = some (.cells #[.int .i64 3, .int .i64 0, .slice none 0 0] 28 (0, 0))) := fun w1 b1 lb hlb => by
    have hz := (HE.out w1 b1 lb hlb).1
    subst hlb
    have h2 := HS.out
    have h3 := b1.size
    have kz := (((But.refl (w.heap.size + 1) w1).set 0 (.int .i64 3)).set 1 (.int .i64 0)).set 2 (.slice none 0 0)
    exact ⟨(HBW.out.trans (b1.mono (by omega))).trans (kz.below (by omega) (by omega)), put3 hz _ _ _⟩
  go_enter Tryd.func21, Tryd.ntmps21
  unfold zE at HW
  go_upto_region 1 with fail
  rw [HW.out]
  obtain ⟨lb, hlb⟩ : ∃ lb, w.heap.size = lb := ⟨_, rfl⟩
  have HLB := hideP hlb
  rw [hlb] at d0 d1 d2 d3 ⊢
  clear hlb
  go_wp2_with fail
  refine IM.out.mono ?_
  rintro e1 w1 ⟨rfl, b1⟩
  obtain ⟨hz, k1⟩ := HE.out w1 b1 lb HLB.out
  obtain ⟨hfin, hput⟩ := HF.out w1 b1 lb HLB.out
  have FIN := hideP hfin
  have PUT := hideP hput
  clear b1 d0 d1 d2 d3 hfin hput
  have d1 := (cells_of k1).1 1
  have z0 := (cells_of hz).1 0
  have z1 := (cells_of hz).1 1
  have z2 := (cells_of hz).1 2
  have zf := (cells_of hz).2
  simp at d1 z0 z1 z2
  clear k1 hz
  cases h1 : imgOk m
  · go_wp2_with fail
    refine bodyPost_ret (results_two rfl _ _ (lb + 1) _ rfl (run_loadVar_row _ (lb + 1) _ _ _ (0, 0) _ PUT.out Tryd.underlying28 rfl (by kernel_rfl)) (.int .i64 0) rfl) rfl ?_
    exact ⟨rfl, HLB.out ▸ FIN.out⟩
  · by_cases h2 : (args.length : Int) = m.params
    · by_cases h3 : (input.length : Int) ≤ 100
      · have h4 := HOK.out h1 h2 h3
        go_wp2_with (go_at_call 30; refine (l01In_any f 0 100000 w1).mono ?_; rintro e2 w2 ⟨rfl, hw2⟩; obtain rfl := hw2.symm; rw [h4])
        refine bodyPost_ret (results_two rfl _ _ (lb + 1) _ rfl (run_loadVar_row _ (lb + 1) _ _ _ (0, 0) _ PUT.out Tryd.underlying28 rfl (by kernel_rfl)) (.int .i64 0) rfl) rfl ?_
        exact ⟨rfl, HLB.out ▸ FIN.out⟩
      · go_wp2_with fail
        refine bodyPost_ret (results_two rfl _ _ (lb + 1) _ rfl (run_loadVar_row _ (lb + 1) _ _ _ (0, 0) _ PUT.out Tryd.underlying28 rfl (by kernel_rfl)) (.int .i64 0) rfl) rfl ?_
        exact ⟨rfl, HLB.out ▸ FIN.out⟩
    · go_wp2_with fail
      refine bodyPost_ret (results_two rfl _ _ (lb + 1) _ rfl (run_loadVar_row _ (lb + 1) _ _ _ (0, 0) _ PUT.out Tryd.underlying28 rfl (by kernel_rfl)) (.int .i64 0) rfl) rfl ?_
      exact ⟨rfl, HLB.out ▸ FIN.out⟩
end Go.Proofs.YtpkfbabgcinhhaaDoor

/- The contract of spec.Cost. -/
namespace Go.Proofs.YtpkfbabgcinhhaaDoor
open Go.ChangeShapes Go.WideShapes Go.ChangeAt Go.RowKit
theorem burn_code {s : Mch} (h : s.code ≠ 3) : (burnM s).2.code ≠ 3 := by
  unfold burnM
  split
  · exact h
  · split
    · show (2 : Int) ≠ 3; decide
    · exact h
theorem word_code {x : Wrd} {k : Int} {s : Mch} {g : List Int} (h : s.code ≠ 3) : (wordM x k s g).1.code ≠ 3 := by
  have K : ∀ (c : Prop) [Decidable c] (a b : McT), a.1.code ≠ 3 → b.1.code ≠ 3 → (if c then a else b).1.code ≠ 3 := fun c _ a b ha hb => by split <;> assumption
  have h1 : (1 : Int) ≠ 3 := by decide
  unfold wordM
  exact K _ _ _ h (K _ _ _ h (K _ _ _ h (K _ _ _ h (K _ _ _ (K _ _ _ h h1) (K _ _ _ (K _ _ _ h h1) (K _ _ _ h (K _ _ _ h (K _ _ _ h (K _ _ _ h (K _ _ _ h h))))))))))
theorem runM_code {code : List Wrd} : ∀ (n : Nat) (t : McT), t.1.code ≠ 3 → (runM code n t).code ≠ 3
  | 0, t, h => burn_code h
  | n + 1, t, h => by
    show (if (burnM t.1).1 = true then runM code n (wordM (code.getD t.2.2.toNat default) t.2.2 (burnM t.1).2 t.2.1) else (burnM t.1).2).code ≠ 3
    split
    · exact runM_code n _ (word_code (burn_code h))
    · exact burn_code h
theorem execM_code (m : Img) (args input : List Int) (f : Int) : (execM m args input f).code ≠ 3 := runM_code _ _ (by show (0 : Int) ≠ 3; decide)
set_option maxHeartbeats 8000000 in
set_option maxRecDepth 100000 in
theorem scost_yes {m : Img} {B : Nat} {us : Option Addr} {cs : Nat} {ub : Option Addr} {cb : Nat} (w : World) (hI : ImgIs w B #[.slice us m.sizes.length cs, .int .i64 m.params, .int .i64 m.slots, .slice ub m.code.length cb] m) {args input : List Int} (ua : Option Addr) (ca : Nat) (ui : Option Addr) (ci : Nat) (hok : runOk m args input 100000 = true) (ha : IntsIs w 0 ua args) (hi : IntsIs w 0 ui input) (hci : input.length ≤ ci ∧ ci ≤ maxLen) :
    Calls Tryd.prog 17 #[.agg #[.slice us m.sizes.length cs, .int .i64 m.params, .int .i64 m.slots, .slice ub m.code.length cb], .slice ua args.length ca, .slice ui input.length ci] w fun en w' => en = .returned (.int .i64 (100000 - (execM m args input 100000).fuel)) ∧ Below w.heap.size w w' := by
  have hfu := execM_fuel hok
  have hcd := execM_code m args input 100000
  obtain ⟨W, hW⟩ : ∃ W, w.alloc (.cells #[.slice us m.sizes.length cs, .int .i64 m.params, .int .i64 m.slots, .slice ub m.code.length cb] 32) = W := ⟨_, rfl⟩
  have bW : Below w.heap.size w W := hW ▸ (Below.refl _ _).alloc (Nat.le_refl _) _
  have B1 : W.heap[w.heap.size]? = some (.cells #[.slice us m.sizes.length cs, .int .i64 m.params, .int .i64 m.slots, .slice ub m.code.length cb] 32 (0, 0)) := hW ▸ newOb _ _
  have EX := hideP (l14_yes (f := 100000) W (ImgKeeps.stays hI bW) ua ca ui ci hok (IntsIs.stays ha bW) (IntsIs.stays hi bW) hci)
  generalize execM m args input 100000 = R at EX hfu hcd ⊢
  have d0 := (cells_of B1).1 0
  have d1 := (cells_of B1).1 1
  have d2 := (cells_of B1).1 2
  have d3 := (cells_of B1).1 3
  simp at d0 d1 d2 d3
  have HW := hideP hW
  have HBW := hideP bW
  clear hW bW B1 hI ha hi hok hci
  go_enter Tryd.func17, Tryd.ntmps17
  go_upto_region 1 with fail
  rw [HW.out]
  obtain ⟨lb, hlb⟩ : ∃ lb, w.heap.size = lb := ⟨_, rfl⟩
  rw [hlb] at d0 d1 d2 d3 ⊢
  have HLB := hideP hlb
  clear hlb
  go_wp2_with fail
  refine EX.out.mono ?_
  rintro e1 w1 ⟨go, c, rfl, _, b1⟩
  have HB := hideP (HBW.out.trans (b1.mono HBW.out.size))
  obtain ⟨ev, hev⟩ : ∃ ev, (if R.code = 0 then R.val else 0) = ev := ⟨_, rfl⟩
  rw [hev]
  clear d0 d1 d2 d3 b1 hev
  go_wp2_with fail
  go_ret
  exact ⟨rfl, HB.out.trans ((Below.refl _ _).alloc HB.out.size _)⟩
set_option maxHeartbeats 8000000 in
set_option maxRecDepth 100000 in
theorem scost_no {m : Img} {B : Nat} {us : Option Addr} {cs : Nat} {ub : Option Addr} {cb : Nat} (w : World) (hI : ImgIs w B #[.slice us m.sizes.length cs, .int .i64 m.params, .int .i64 m.slots, .slice ub m.code.length cb] m) {args input : List Int} (ua : Option Addr) (ca : Nat) (ui : Option Addr) (ci : Nat) (hok : runOk m args input 100000 = false) :
    Calls Tryd.prog 17 #[.agg #[.slice us m.sizes.length cs, .int .i64 m.params, .int .i64 m.slots, .slice ub m.code.length cb], .slice ua args.length ca, .slice ui input.length ci] w fun en w' => en = .returned (.int .i64 (-1)) ∧ Below w.heap.size w w' := by
  obtain ⟨W, hW⟩ : ∃ W, w.alloc (.cells #[.slice us m.sizes.length cs, .int .i64 m.params, .int .i64 m.slots, .slice ub m.code.length cb] 32) = W := ⟨_, rfl⟩
  have bW : Below w.heap.size w W := hW ▸ (Below.refl _ _).alloc (Nat.le_refl _) _
  have B1 : W.heap[w.heap.size]? = some (.cells #[.slice us m.sizes.length cs, .int .i64 m.params, .int .i64 m.slots, .slice ub m.code.length cb] 32 (0, 0)) := hW ▸ newOb _ _
  have EX := hideP (l14_no (f := 100000) W (ImgKeeps.stays hI bW) ua ca ui ci hok)
  have d0 := (cells_of B1).1 0
  have d1 := (cells_of B1).1 1
  have d2 := (cells_of B1).1 2
  have d3 := (cells_of B1).1 3
  simp at d0 d1 d2 d3
  have HW := hideP hW
  have HBW := hideP bW
  clear hW bW B1 hI hok
  go_enter Tryd.func17, Tryd.ntmps17
  go_upto_region 1 with fail
  rw [HW.out]
  obtain ⟨lb, hlb⟩ : ∃ lb, w.heap.size = lb := ⟨_, rfl⟩
  rw [hlb] at d0 d1 d2 d3 ⊢
  have HLB := hideP hlb
  clear hlb
  go_wp2_with fail
  refine EX.out.mono ?_
  rintro e1 w1 ⟨rfl, b1⟩
  have HB := hideP (HBW.out.trans (b1.mono HBW.out.size))
  clear d0 d1 d2 d3 b1
  go_wp2_with fail
  go_ret
  exact ⟨rfl, HB.out.trans ((Below.refl _ _).alloc HB.out.size _)⟩
end Go.Proofs.YtpkfbabgcinhhaaDoor

/- Cost, both sides, as the law asks. -/
namespace Go.Proofs.YtpkfbabgcinhhaaDoor
open Go.ChangeShapes Go.WideShapes Go.ChangeAt Go.RowKit
/-- What the package variables hold that a run asks for. -/
structure VarsC (w : World) : Prop where
  alu : ∀ q, q < 6 → w.cell? ⟨1, q, none⟩ = some (.string ⟨(aluS q).toArray⟩)
  err : ∃ a : Addr, w.cell? ⟨0, 0, none⟩ = some (.iface 136 (.pointer (some a)))
  typ : w.cell? ⟨2, 0, none⟩ = some (.iface 100 (.agg #[hT 50]))
theorem VarsC.stays {w w' : World} (h : VarsC w) (bel : Below w.heap.size w w') : VarsC w' := by
  obtain ⟨h1, ⟨a, h2⟩, h3⟩ := h
  exact ⟨fun q hq => (bel.cell (p := ⟨1, q, none⟩) (World.block_lt_of_cell? _ _ (h1 q hq))).trans (h1 q hq), ⟨a, (bel.cell (p := ⟨0, 0, none⟩) (World.block_lt_of_cell? _ _ h2)).trans h2⟩, (bel.cell (p := ⟨2, 0, none⟩) (World.block_lt_of_cell? _ _ h3)).trans h3⟩
def costR (m : Img) (args input : List Int) : Int := if runOk m args input 100000 = true then 100000 - (execM m args input 100000).fuel else -1
theorem cap_ok {input : List Int} (hl : input.length ≤ 1048576) : input.length ≤ input.length ∧ input.length ≤ maxLen := by
  have : 1048576 ≤ maxLen := by unfold maxLen; decide
  exact ⟨Nat.le_refl _, Nat.le_trans hl this⟩
theorem spec_cost (m : Img) (args input : List Int) (W : World) (A0 : Nat) (x0 : Array Value) (A1 : Nat) (u1 : Option Addr) (A2 : Nat) (u2 : Option Addr) (c1 : Nat) (h0 : ImgIs W A0 x0 m) (h1 : IntsIs W A1 u1 args) (h2 : IntsIs W A2 u2 input) (hl : input.length ≤ 1048576) :
    Calls Tryd.prog 17 #[.agg x0, .slice u1 args.length c1, .slice u2 input.length input.length] W fun en w' => en = .returned (.int .i64 (costR m args input)) ∧ Below W.heap.size W w' := by
  obtain ⟨us, cs, ub, cb, rfl, _⟩ := id h0
  unfold costR
  cases hok : runOk m args input 100000
  · rw [if_neg (by decide)]
    exact scost_no W h0 u1 c1 u2 input.length hok
  · rw [if_pos rfl]
    exact scost_yes W h0 u1 c1 u2 input.length hok (h1.mono (Nat.zero_le _)) (h2.mono (Nat.zero_le _)) (cap_ok hl)
theorem impl_cost (m : Img) (args input : List Int) (W : World) (A0 : Nat) (x0 : Array Value) (A1 : Nat) (u1 : Option Addr) (A2 : Nat) (u2 : Option Addr) (c1 : Nat) (h0 : ImgIs W A0 x0 m) (h1 : IntsIs W A1 u1 args) (h2 : IntsIs W A2 u2 input) (hl : input.length ≤ 1048576) (hv : VarsC W) :
    Calls Tryd.prog 18 #[.agg x0, .slice u1 args.length c1, .slice u2 input.length input.length] W fun en w' => en = .returned (.int .i64 (costR m args input)) ∧ Below W.heap.size W w' := by
  obtain ⟨us, cs, ub, cb, rfl, _⟩ := id h0
  obtain ⟨hv1, ⟨a, hv2⟩, hv3⟩ := hv
  unfold costR
  cases hok : runOk m args input 100000
  · rw [if_neg (by decide)]
    exact cost_no h0 u1 c1 u2 input.length hok a hv2
  · rw [if_pos rfl]
    exact cost_yes h0 u1 c1 u2 input.length hok (h1.mono (Nat.zero_le _)) (h2.mono (Nat.zero_le _)) (cap_ok hl) hv1 a hv2 hv3
end Go.Proofs.YtpkfbabgcinhhaaDoor
