/- Exec. -/
import Derived.Test.YtpkfbabgcinhhaaDoorCkK
namespace Go.Proofs.YtpkfbabgcinhhaaDoor
open Go.ChangeShapes Go.WideShapes Go.ChangeAt Go.RowKit
section
variable {w : World}
set_option maxHeartbeats 8000000 in
set_option maxRecDepth 100000 in
theorem exec_yes {m : Img} {B : Nat} {us : Option Addr} {cs : Nat} {ub : Option Addr} {cb : Nat} (hI : ImgIs w B #[.slice us m.sizes.length cs, .int .i64 m.params, .int .i64 m.slots, .slice ub m.code.length cb] m) {args input : List Int} {f : Int} (ua : Option Addr) (ca : Nat) (ui : Option Addr) (ci : Nat) (hok : runOk m args input f = true) (ha : IntsIs w 0 ua args) (hi : IntsIs w 0 ui input) (hci : input.length ≤ ci ∧ ci ≤ maxLen) (alu : ∀ q, q < 6 → w.cell? ⟨1, q, none⟩ = some (.string ⟨(aluS q).toArray⟩)) (a : Addr)
    (hE : w.cell? ⟨0, 0, none⟩ = some (.iface 136 (.pointer (some a)))) (het : w.cell? ⟨2, 0, none⟩ = some (.iface 100 (.agg #[hT 50]))) :
    Calls Tryd.prog 9 #[.agg #[.slice us m.sizes.length cs, .int .i64 m.params, .int .i64 m.slots, .slice ub m.code.length cb], .slice ua args.length ca, .slice ui input.length ci, .int .i64 f] w fun en w' => ∃ vo, en = .returned (.agg #[.int .i64 (execM m args input f).code, .int .i64 (if (execM m args input f).code = 0 then (execM m args input f).val else 0), vo]) ∧ OwnN IntE w' w.heap.size vo (execM m args input f).out ∧ Below w.heap.size w w' := by
  obtain ⟨rv, hrv⟩ : ∃ rv, (if (execM m args input f).code = 0 then (execM m args input f).val else 0) = rv := ⟨_, rfl⟩
  obtain ⟨rc, hrc⟩ : ∃ rc, (execM m args input f).code = rc := ⟨_, rfl⟩
  have him : imgOk m = true := by unfold runOk at hok; simp only [Bool.and_eq_true] at hok; exact hok.1
  have hmo := mcOk_start hok
  have hel := World.block_lt_of_cell? _ _ hE
  have htl := World.block_lt_of_cell? _ _ het
  obtain ⟨W, hW, bW, B1, B2, hsz⟩ := twoNew w (.cells #[.slice us m.sizes.length cs, .int .i64 m.params, .int .i64 m.slots, .slice ub m.code.length cb] 32) (.cells #[.int .i64 0, .int .i64 0, .slice none 0 0] 28)
  have NM := hideP (newMachine_yes (w := W) (ImgKeeps.stays hI bW) ua ca ui ci hok (IntsIs.stays ha bW) (IntsIs.stays hi bW) hci (fun q hq => (bW.cell (p := ⟨1, q, none⟩) (World.block_lt_of_cell? _ _ (alu q hq))).trans (alu q hq)))
  have HET := hideP ((bW.cell (p := ⟨2, 0, none⟩) htl).trans het)
  have g0 := (bW.cell (p := ⟨0, 0, none⟩) hel).trans hE
  have EA : Hid (∀ L ui ci vo w1, PAt W L m.code ui ci vo w1 (mch0 m args input f) (List.replicate 16 0) 0 → Calls Tryd.prog 25 #[.pointer (some ⟨L.b, 0, none⟩)] w1 fun en w' => ∃ s2 g2 k2 ui2 ci2 vo2, en = .returned (.agg #[.int .i64 rc, .int .i64 rv, vo2]) ∧ PAt W L m.code ui2 ci2 vo2 w' s2 g2 k2 ∧ s2.out = (execM m args input f).out ∧ s2.fuel = (execM m args input f).fuel) := fun L ui ci vo w1 hp => by
    rw [← hrv, ← hrc]
    exact end_all him hp hmo rfl rfl rfl rfl HET.out
  have d0 := (cells_of B1).1 0
  have d1 := (cells_of B1).1 1
  have d2 := (cells_of B1).1 2
  have d3 := (cells_of B1).1 3
  simp at d0 d1 d2 d3
  have HW := hideP hW
  have HS := hideP hsz
  have HBW := hideP bW
  have HZ := hideP B2
  have HG := hideP g0
  rw [hrv, hrc]
  clear hW hsz bW B1 B2 hE het hel htl ha hi alu hI hok hci him hmo hrv hrc
  go_enter Tryd.func9, Tryd.ntmps9
  go_upto_region 1 with fail
  rw [HW.out]
  obtain ⟨lb, hlb⟩ : ∃ lb, w.heap.size = lb := ⟨_, rfl⟩
  rw [hlb] at d0 d1 d2 d3 ⊢
  have HL := hideP hlb
  clear hlb g0
  go_wp2_with fail
  refine NM.out.mono ?_
  rintro e1 w1 ⟨L, rfl, vo, hp⟩
  have HP := hideP hp
  have g1 := (hp.bel.cell (p := ⟨0, 0, none⟩) (World.block_lt_of_cell? _ _ HG.out)).trans HG.out
  clear hp d0 d1 d2 d3
  go_wp2_with fail
  refine (isNilE w1 _ _).mono ?_
  rintro e2 w2 ⟨rfl, rfl⟩
  go_wp2_with fail
  refine (EA.out L ui ci vo w2 HP.out).mono ?_
  rintro e3 w3 ⟨s2, g2, k2, ui2, ci2, vo2, rfl, hp, ho, hf⟩
  obtain ⟨uv, nv, cv, rfl⟩ := hp.out.shape
  have e1 : w.heap.size + 1 = lb + 1 := by rw [HL.out]
  have hs2 := HS.out
  have hL := HL.out
  have Z3 : w3.heap[lb + 1]? = some (.cells #[.int .i64 0, .int .i64 0, .slice none 0 0] 28 (0, 0)) := (hp.bel.block (lb + 1) (by omega)).trans (e1 ▸ HZ.out)
  have z0 := (cells_of Z3).1 0
  have z1 := (cells_of Z3).1 1
  have z2 := (cells_of Z3).1 2
  have zf := (cells_of Z3).2
  simp at z0 z1 z2
  have P3 := hideP (put3P Z3 (.int .i64 rc) (.int .i64 rv) (.slice uv nv cv))
  have KZ := hideP ((((But.refl (lb + 1) w3).set 0 (.int .i64 rc)).set 1 (.int .i64 rv)).set 2 (.slice uv nv cv))
  have HP3 := hideP hp
  have HO := hideP ho
  obtain ⟨rb, hrb⟩ : ∃ rb, lb + 1 = rb := ⟨_, rfl⟩
  have HRB := hideP hrb
  rw [hrb] at z0 z1 z2 zf P3 KZ ⊢
  clear hp ho hf Z3 e1 hs2 hL hrb g1
  go_wp2_with fail
  refine bodyPost_ret (results_cell_row rfl _ _ rb 28 _ (0, 0) _ rfl P3.out Tryd.underlying28 rfl (by kernel_rfl)) rfl ?_
  have hl1 := HL.out
  have hl2 := HS.out
  have hl3 := HRB.out
  have q1 := HP3.out.low
  have q2 := HP3.out.out
  rw [HO.out] at q2
  have q3 := q2.keep (fun g hg hl => KZ.out.block g hl (by omega))
  have q4 := (HBW.out.trans (HP3.out.bel.mono (by omega))).trans (KZ.out.below (B := w.heap.size) (by omega) (by omega))
  obtain ⟨wf, hwf⟩ : ∃ wf, ((w3.setCell ⟨rb, 0, none⟩ (.int .i64 rc)).setCell ⟨rb, 1, none⟩ (.int .i64 rv)).setCell ⟨rb, 2, none⟩ (.slice uv nv cv) = wf := ⟨_, rfl⟩
  rw [hwf] at q3 q4 ⊢
  have q5 : OwnN IntE wf w.heap.size (.slice uv nv cv) (execM m args input f).out := by
    obtain ⟨hl, h0 | ⟨g, cap, cur, hv, hB, hr⟩⟩ := q3
    · exact ⟨hl, Or.inl h0⟩
    · exact ⟨hl, Or.inr ⟨g, cap, cur, hv, by omega, hr⟩⟩
  exact ⟨_, rfl, q5, q4⟩
set_option maxHeartbeats 8000000 in
set_option maxRecDepth 100000 in
theorem exec_no {m : Img} {B : Nat} {us : Option Addr} {cs : Nat} {ub : Option Addr} {cb : Nat} (hI : ImgIs w B #[.slice us m.sizes.length cs, .int .i64 m.params, .int .i64 m.slots, .slice ub m.code.length cb] m) {args input : List Int} {f : Int} (ua : Option Addr) (ca : Nat) (ui : Option Addr) (ci : Nat) (hok : runOk m args input f = false) (a : Addr)
    (hE : w.cell? ⟨0, 0, none⟩ = some (.iface 136 (.pointer (some a)))) :
    Calls Tryd.prog 9 #[.agg #[.slice us m.sizes.length cs, .int .i64 m.params, .int .i64 m.slots, .slice ub m.code.length cb], .slice ua args.length ca, .slice ui input.length ci, .int .i64 f] w fun en w' => en = .returned (.agg #[.int .i64 3, .int .i64 0, .slice none 0 0]) ∧ Below w.heap.size w w' := by
  have hel := World.block_lt_of_cell? _ _ hE
  obtain ⟨W, hW, bW, B1, B2, hsz⟩ := twoNew w (.cells #[.slice us m.sizes.length cs, .int .i64 m.params, .int .i64 m.slots, .slice ub m.code.length cb] 32) (.cells #[.int .i64 0, .int .i64 0, .slice none 0 0] 28)
  have g0 := (bW.cell (p := ⟨0, 0, none⟩) hel).trans hE
  have NM := hideP (newMachine_no (w := W) (ImgKeeps.stays hI bW) ua ca ui ci hok _ g0)
  have d0 := (cells_of B1).1 0
  have d1 := (cells_of B1).1 1
  have d2 := (cells_of B1).1 2
  have d3 := (cells_of B1).1 3
  simp at d0 d1 d2 d3
  have HW := hideP hW
  have HS := hideP hsz
  have HBW := hideP bW
  have HZ := hideP B2
  have HG := hideP g0
  clear hW hsz bW B1 B2 hE hel hI hok
  go_enter Tryd.func9, Tryd.ntmps9
  go_upto_region 1 with fail
  rw [HW.out]
  obtain ⟨lb, hlb⟩ : ∃ lb, w.heap.size = lb := ⟨_, rfl⟩
  rw [hlb] at d0 d1 d2 d3 ⊢
  have HL := hideP hlb
  clear hlb g0
  go_wp2_with fail
  refine NM.out.mono ?_
  rintro e1 w1 ⟨rfl, b1⟩
  have g1 := (b1.cell (p := ⟨0, 0, none⟩) (World.block_lt_of_cell? _ _ HG.out)).trans HG.out
  have HB1 := hideP b1
  clear b1 d0 d1 d2 d3
  go_wp2_with fail
  refine (isSameE a w1).mono ?_
  rintro e2 w2 ⟨rfl, rfl⟩
  have e1 : w.heap.size + 1 = lb + 1 := by rw [HL.out]
  have hs2 := HS.out
  have hL := HL.out
  have Z3 : w2.heap[lb + 1]? = some (.cells #[.int .i64 0, .int .i64 0, .slice none 0 0] 28 (0, 0)) := (HB1.out.block (lb + 1) (by omega)).trans (e1 ▸ HZ.out)
  have z0 := (cells_of Z3).1 0
  have z1 := (cells_of Z3).1 1
  have z2 := (cells_of Z3).1 2
  have zf := (cells_of Z3).2
  simp at z0 z1 z2
  have P3 := hideP (put3P Z3 (.int .i64 3) (.int .i64 0) (.slice none 0 0))
  have KZ := hideP ((((But.refl (lb + 1) w2).set 0 (.int .i64 3)).set 1 (.int .i64 0)).set 2 (.slice none 0 0))
  obtain ⟨rb, hrb⟩ : ∃ rb, lb + 1 = rb := ⟨_, rfl⟩
  have HRB := hideP hrb
  rw [hrb] at z0 z1 z2 zf P3 KZ ⊢
  clear Z3 e1 hs2 hL hrb g1
  go_wp2_with fail
  refine bodyPost_ret (results_cell_row rfl _ _ rb 28 _ (0, 0) _ rfl P3.out Tryd.underlying28 rfl (by kernel_rfl)) rfl ?_
  have hl1 := HL.out
  have hl2 := HS.out
  have hl3 := HRB.out
  have hl4 := HB1.out.size
  exact ⟨rfl, (HBW.out.trans (HB1.out.mono (by omega))).trans (KZ.out.below (B := w.heap.size) (by omega) (by omega))⟩
end
end Go.Proofs.YtpkfbabgcinhhaaDoor

/- Cost. -/
namespace Go.Proofs.YtpkfbabgcinhhaaDoor
open Go.ChangeShapes Go.WideShapes Go.ChangeAt Go.RowKit
section
variable {w : World}
set_option maxHeartbeats 8000000 in
set_option maxRecDepth 100000 in
theorem cost_yes {m : Img} {B : Nat} {us : Option Addr} {cs : Nat} {ub : Option Addr} {cb : Nat} (hI : ImgIs w B #[.slice us m.sizes.length cs, .int .i64 m.params, .int .i64 m.slots, .slice ub m.code.length cb] m) {args input : List Int} (ua : Option Addr) (ca : Nat) (ui : Option Addr) (ci : Nat) (hok : runOk m args input 100000 = true) (ha : IntsIs w 0 ua args) (hi : IntsIs w 0 ui input) (hci : input.length ≤ ci ∧ ci ≤ maxLen) (alu : ∀ q, q < 6 → w.cell? ⟨1, q, none⟩ = some (.string ⟨(aluS q).toArray⟩)) (a : Addr)
    (hE : w.cell? ⟨0, 0, none⟩ = some (.iface 136 (.pointer (some a)))) (het : w.cell? ⟨2, 0, none⟩ = some (.iface 100 (.agg #[hT 50]))) :
    Calls Tryd.prog 18 #[.agg #[.slice us m.sizes.length cs, .int .i64 m.params, .int .i64 m.slots, .slice ub m.code.length cb], .slice ua args.length ca, .slice ui input.length ci] w fun en w' => en = .returned (.int .i64 (100000 - (execM m args input 100000).fuel)) ∧ Below w.heap.size w w' := by
  have him : imgOk m = true := by unfold runOk at hok; simp only [Bool.and_eq_true] at hok; exact hok.1
  have hmo := mcOk_start hok
  have hfu := execM_fuel hok
  have hel := World.block_lt_of_cell? _ _ hE
  have htl := World.block_lt_of_cell? _ _ het
  obtain ⟨lb, hlb⟩ : ∃ lb, w.heap.size = lb := ⟨_, rfl⟩
  obtain ⟨W, hW⟩ : ∃ W, (w.alloc (.cells #[.slice us m.sizes.length cs, .int .i64 m.params, .int .i64 m.slots, .slice ub m.code.length cb] 32)) = W := ⟨_, rfl⟩
  have bW := (Below.refl w.heap.size w).alloc (Nat.le_refl _) (.cells #[.slice us m.sizes.length cs, .int .i64 m.params, .int .i64 m.slots, .slice ub m.code.length cb] 32)
  have B1 := heap_new hlb (.cells #[.slice us m.sizes.length cs, .int .i64 m.params, .int .i64 m.slots, .slice ub m.code.length cb] 32)
  rw [hW] at bW B1
  have NM := hideP (newMachine_yes (w := W) (ImgKeeps.stays hI bW) ua ca ui ci hok (IntsIs.stays ha bW) (IntsIs.stays hi bW) hci (fun q hq => (bW.cell (p := ⟨1, q, none⟩) (World.block_lt_of_cell? _ _ (alu q hq))).trans (alu q hq)))
  have HET := hideP ((bW.cell (p := ⟨2, 0, none⟩) htl).trans het)
  have g0 := (bW.cell (p := ⟨0, 0, none⟩) hel).trans hE
  have EA : Hid (∀ L ui ci vo w1, PAt W L m.code ui ci vo w1 (mch0 m args input 100000) (List.replicate 16 0) 0 → Calls Tryd.prog 25 #[.pointer (some ⟨L.b, 0, none⟩)] w1 fun en w' => ∃ s2 g2 k2 ui2 ci2 vo2, (∃ z, en = .returned z) ∧ PAt W L m.code ui2 ci2 vo2 w' s2 g2 k2 ∧ s2.fuel = (execM m args input 100000).fuel) := fun L ui ci vo w1 hp =>
    (end_all him hp hmo rfl rfl rfl rfl HET.out).mono (by rintro e x ⟨s2, g2, k2, ui2, ci2, vo2, he, hp, _, hf⟩; exact ⟨s2, g2, k2, ui2, ci2, vo2, ⟨_, he⟩, hp, hf⟩)
  have d0 := (cells_of B1).1 0
  have d1 := (cells_of B1).1 1
  have d2 := (cells_of B1).1 2
  have d3 := (cells_of B1).1 3
  simp at d0 d1 d2 d3
  obtain ⟨fu, hfe⟩ : ∃ fu, (execM m args input 100000).fuel = fu := ⟨_, rfl⟩
  rw [hfe] at hfu EA ⊢
  have HW := hideP hW
  have HBW := hideP bW
  have HG := hideP g0
  have HL := hideP hlb
  have wr : wrap64 (100000 - fu) = 100000 - fu := by unfold wrap64; omega
  clear hW bW B1 hE het hel htl ha hi alu hI hok hci him hmo hfe
  go_enter Tryd.func18, Tryd.ntmps18
  go_upto_region 1 with fail
  rw [HW.out]
  clear g0
  go_wp2_with fail
  refine NM.out.mono ?_
  rintro e1 w1 ⟨L, rfl, vo, hp⟩
  have HP := hideP hp
  have g1 := (hp.bel.cell (p := ⟨0, 0, none⟩) (World.block_lt_of_cell? _ _ HG.out)).trans HG.out
  clear hp d0 d1 d2 d3
  go_wp2_with fail
  refine (isNilE w1 _ _).mono ?_
  rintro e2 w2 ⟨rfl, rfl⟩
  go_wp2_with fail
  refine (EA.out L ui ci vo w2 HP.out).mono ?_
  rintro e3 w3 ⟨s2, g2, k2, ui2, ci2, vo2, ⟨z, rfl⟩, hp, rfl⟩
  obtain ⟨cz, x1, x2, y0, y1, y2, y3, _⟩ := hp.box
  have f3 := ((cells_of x1).1 3).trans y3
  have HP3 := hideP hp
  clear hp x1 x2 y0 y1 y2 y3 hlb g1
  go_wp2_with fail
  go_ret
  exact ⟨rfl, HBW.out.trans (HP3.out.bel.mono HBW.out.size)⟩
set_option maxHeartbeats 8000000 in
set_option maxRecDepth 100000 in
theorem cost_no {m : Img} {B : Nat} {us : Option Addr} {cs : Nat} {ub : Option Addr} {cb : Nat} (hI : ImgIs w B #[.slice us m.sizes.length cs, .int .i64 m.params, .int .i64 m.slots, .slice ub m.code.length cb] m) {args input : List Int} (ua : Option Addr) (ca : Nat) (ui : Option Addr) (ci : Nat) (hok : runOk m args input 100000 = false) (a : Addr)
    (hE : w.cell? ⟨0, 0, none⟩ = some (.iface 136 (.pointer (some a)))) :
    Calls Tryd.prog 18 #[.agg #[.slice us m.sizes.length cs, .int .i64 m.params, .int .i64 m.slots, .slice ub m.code.length cb], .slice ua args.length ca, .slice ui input.length ci] w fun en w' => en = .returned (.int .i64 (-1)) ∧ Below w.heap.size w w' := by
  have hel := World.block_lt_of_cell? _ _ hE
  obtain ⟨lb, hlb⟩ : ∃ lb, w.heap.size = lb := ⟨_, rfl⟩
  obtain ⟨W, hW⟩ : ∃ W, (w.alloc (.cells #[.slice us m.sizes.length cs, .int .i64 m.params, .int .i64 m.slots, .slice ub m.code.length cb] 32)) = W := ⟨_, rfl⟩
  have bW := (Below.refl w.heap.size w).alloc (Nat.le_refl _) (.cells #[.slice us m.sizes.length cs, .int .i64 m.params, .int .i64 m.slots, .slice ub m.code.length cb] 32)
  have B1 := heap_new hlb (.cells #[.slice us m.sizes.length cs, .int .i64 m.params, .int .i64 m.slots, .slice ub m.code.length cb] 32)
  rw [hW] at bW B1
  have g0 := (bW.cell (p := ⟨0, 0, none⟩) hel).trans hE
  have NM := hideP (newMachine_no (w := W) (ImgKeeps.stays hI bW) ua ca ui ci hok _ g0)
  have d0 := (cells_of B1).1 0
  have d1 := (cells_of B1).1 1
  have d2 := (cells_of B1).1 2
  have d3 := (cells_of B1).1 3
  simp at d0 d1 d2 d3
  have HW := hideP hW
  have HBW := hideP bW
  have HG := hideP g0
  clear hW bW B1 hE hel hI hok
  go_enter Tryd.func18, Tryd.ntmps18
  go_upto_region 1 with fail
  rw [HW.out]
  clear g0
  go_wp2_with fail
  refine NM.out.mono ?_
  rintro e1 w1 ⟨rfl, b1⟩
  have g1 := (b1.cell (p := ⟨0, 0, none⟩) (World.block_lt_of_cell? _ _ HG.out)).trans HG.out
  have HB1 := hideP b1
  clear b1 d0 d1 d2 d3 hlb
  go_wp2_with fail
  refine (isSameE a w1).mono ?_
  rintro e2 w2 ⟨rfl, rfl⟩
  go_wp2_with fail
  go_ret
  exact ⟨rfl, HBW.out.trans (HB1.out.mono HBW.out.size)⟩
end
end Go.Proofs.YtpkfbabgcinhhaaDoor
