/- The walk of the law FnExactCpuEnd (written by wip/mklawe.py). -/
import Derived.Test.YtpbmnajlkgjkfabCeI
import Derived.Test.YtpbmnajlkgjkfabCeS
import Derived.Test.YtpbmnajlkgjkfabCeM
import Derived.Test.YtpbmnajlkgjkfabMarkC
import Derived.Test.YtpbmnajlkgjkfabCpuSz
import Derived.Test.YtpbmnajlkgjkfabCpuTo
import Derived.Test.YtpbmnajlkgjkfabCpuEq
import Derived.Deep.CutRange
import Derived.Deep.RegionHeld3
namespace Go.Proofs.Ytpbmnajlkgjkfab
open Go.ChangeShapes Go.WideShapes Go.ChangeAt Go.RowKit
namespace CpuEndLaw
theorem keep {W W' : World} {b : Nat} {o : Obj} (h : W.heap[b]? = some o) (bel : Below W.heap.size W W') : W'.heap[b]? = some o := (bel.block b (Array.getElem?_eq_some_iff.1 h).1).trans h
theorem blk_new (w : World) (o : Obj) : (w.alloc o).heap[w.heap.size]? = some o := by show (w.heap.push o)[w.heap.size]? = _; exact Array.getElem?_push_size
theorem pos_of {W : World} {b : Nat} {o : Obj} (h : W.heap[b]? = some o) : 0 < W.heap.size := Nat.lt_of_le_of_lt (Nat.zero_le _) (Array.getElem?_eq_some_iff.1 h).1
set_option maxRecDepth 100000 in
set_option maxHeartbeats 16000000 in
theorem walk (x0 : Cp) (v0 : Array Value) (w : World) (h0 : CpIs w 0 v0 x0) :
    Calls Try.prog 3 #[.agg v0] w fun en w' => en = .returned (.bool true) ∧ Below w.heap.size w w' := by
  obtain ⟨posa, regsa, slotsa, mema, inputa, outa, codea, overa, vala⟩ := x0
  have g0 := h0
  obtain ⟨uregsa1, cregsa1, uslotsa1, cslotsa1, umema1, cmema1, uinputa1, cinputa1, uouta1, couta1, rfl, _⟩ := g0
  simp only at *
  have SP0 : Hid (∀ W, Below w.heap.size w W → _) := fun W hW => szCpu_any (⟨posa, regsa, slotsa, mema, inputa, outa, codea, overa, vala⟩ : Cp) W 0 _ 1048576 (CpKeeps.stays h0 hW) (by omega)
  by_cases hp0 : (⟨posa, regsa, slotsa, mema, inputa, outa, codea, overa, vala⟩ : Cp).sz ≤ 1048576
  · obtain ⟨L1, hL1⟩ : ∃ L, 1048576 - (⟨posa, regsa, slotsa, mema, inputa, outa, codea, overa, vala⟩ : Cp).sz = L := ⟨_, rfl⟩
    have TO0 := hideP (toCpu_in w 0 _ h0 (by omega))
    have HSZ := hideP hp0
    obtain ⟨R, hl⟩ : ∃ R, (⟨(endOf (⟨posa, regsa, slotsa, mema, inputa, outa, codea, overa, vala⟩ : Cp)).code, (endOf (⟨posa, regsa, slotsa, mema, inputa, outa, codea, overa, vala⟩ : Cp)).val, outa⟩ : En) = R := ⟨_, rfl⟩
    have hlen : Hid (R.out.length ≤ 1048576) := by rw [← hl]; have := HSZ.out; simp only [Cp.sz] at this; show outa.length ≤ _; omega
    have SO : Hid (∀ W A0 x0, Below w.heap.size w W → CpIs W A0 x0 (⟨posa, regsa, slotsa, mema, inputa, outa, codea, overa, vala⟩ : Cp) → Calls Try.prog 5 #[.agg x0] W fun en w' => ∃ v', en = .returned (.agg #[.int .i64 R.code, .int .i64 R.val, v']) ∧ LiZ w' W.heap.size w'.heap.size v' R.out ∧ Below W.heap.size W w') := fun W A0 x0 hbw y0 => by rw [← hl]; exact spec_cpuEnd (⟨posa, regsa, slotsa, mema, inputa, outa, codea, overa, vala⟩ : Cp) W A0 x0 y0 (by have := HSZ.out; simp only [Cp.sz] at this; show outa.length ≤ _; omega)
    have IO : Hid (∀ W A0 x0, Below w.heap.size w W → CpIs W A0 x0 (⟨posa, regsa, slotsa, mema, inputa, outa, codea, overa, vala⟩ : Cp) → 0 < A0 → Calls Try.prog 7 #[.agg x0] W fun en w' => ∃ v', en = .returned (.agg #[.int .i64 R.code, .int .i64 R.val, v']) ∧ LiZ w' W.heap.size w'.heap.size v' R.out ∧ Below W.heap.size W w') := fun W A0 x0 hbw y0 hpos => by rw [← hl]; exact impl_cpuEnd (⟨posa, regsa, slotsa, mema, inputa, outa, codea, overa, vala⟩ : Cp) W A0 x0 y0 (by have := HSZ.out; simp only [Cp.sz] at this; show outa.length ≤ _; omega)
    have E0 := hideP (szR_pos hp0)
    have HL1 := hideP hL1
    clear hl hp0 h0 hL1
    obtain ⟨rc, rv, ro⟩ := R
    simp only at SO IO hlen
    go_enter Try.func3, Try.ntmps3
    go_wp2_with fail
    refine (SP0.out _ ((Below.refl _ _).alloc (Nat.le_refl _) _)).mono ?_
    rintro y0 wz0 ⟨rfl, belz⟩
    rw [E0.out, HL1.out]
    have P0 := hideP (keep (blk_new w _) belz)
    have HW := hideP (below_new belz)
    clear belz SP0 E0
    have p0 := (cells_of P0.out).1 0
    have p1 := (cells_of P0.out).1 1
    have p2 := (cells_of P0.out).1 2
    have p3 := (cells_of P0.out).1 3
    have p4 := (cells_of P0.out).1 4
    have p5 := (cells_of P0.out).1 5
    have p6 := (cells_of P0.out).1 6
    have p7 := (cells_of P0.out).1 7
    have p8 := (cells_of P0.out).1 8
    simp at p0 p1 p2 p3 p4 p5 p6 p7 p8
    go_wp2_with fail
    refine (TO0.out _ HW.out).mono ?_
    rintro y3 w3 ⟨uregsa3, cregsa3, uslotsa3, cslotsa3, umema3, cmema3, uinputa3, cinputa3, uouta3, couta3, rfl, hx3, bel3⟩
    replace HW := hideP (below_trans HW.out bel3)
    replace P0 := hideP (keep P0.out bel3)
    have HX3 := hideP hx3
    clear hx3 bel3 p0 p1 p2 p3 p4 p5 p6 p7 p8
    go_wp2_with fail
    refine (SO.out _ _ _ HW.out HX3.out).mono ?_
    rintro y4 w4 ⟨v4, rfl, o4, bel4⟩
    replace HW := hideP (below_trans HW.out bel4)
    replace P0 := hideP (keep P0.out bel4)
    obtain ⟨u4_, c4_, rfl, _⟩ := id o4
    have al4 := (Below.refl w4.heap.size w4).alloc (Nat.le_refl _) (.cells #[.int .i64 rc, .int .i64 rv, .slice u4_ ro.length c4_] 28)
    have HS := hideP ((o4.stays al4).en rc rv)
    have E4 := hideP (blk_new w4 (.cells #[.int .i64 rc, .int .i64 rv, .slice u4_ ro.length c4_] 28))
    replace HW := hideP (below_trans HW.out al4)
    replace P0 := hideP (keep P0.out al4)
    have BS := hideP (Below.refl (w4.alloc (.cells #[.int .i64 rc, .int .i64 rv, .slice u4_ ro.length c4_] 28)).heap.size (w4.alloc (.cells #[.int .i64 rc, .int .i64 rv, .slice u4_ ro.length c4_] 28)))
    have hpos : Hid (0 < (w4.alloc (.cells #[.int .i64 rc, .int .i64 rv, .slice u4_ ro.length c4_] 28)).heap.size) := pos_of P0.out
    have LP : Hid (w.heap.size < (w4.alloc (.cells #[.int .i64 rc, .int .i64 rv, .slice u4_ ro.length c4_] 28)).heap.size) := (Array.getElem?_eq_some_iff.1 P0.out).1
    clear o4 bel4 HX3 SO al4
    go_upto_region 6 with fail
    obtain ⟨wS, hwS⟩ : ∃ wS, w4.alloc (.cells #[.int .i64 rc, .int .i64 rv, .slice u4_ ro.length c4_] 28) = wS := ⟨_, rfl⟩
    rw [hwS] at HS E4 BS P0 HW hpos LP ⊢
    clear hwS
    have p0 := (cells_of P0.out).1 0
    have p1 := (cells_of P0.out).1 1
    have p2 := (cells_of P0.out).1 2
    have p3 := (cells_of P0.out).1 3
    have p4 := (cells_of P0.out).1 4
    have p5 := (cells_of P0.out).1 5
    have p6 := (cells_of P0.out).1 6
    have p7 := (cells_of P0.out).1 7
    have p8 := (cells_of P0.out).1 8
    simp at p0 p1 p2 p3 p4 p5 p6 p7 p8
    go_wp2_with fail
    refine (TO0.out _ HW.out).mono ?_
    rintro yx0 wx0 ⟨uregsax, cregsax, uslotsax, cslotsax, umemax, cmemax, uinputax, cinputax, uoutax, coutax, rfl, hx, bel⟩
    replace HW := hideP (below_trans HW.out bel)
    replace P0 := hideP (keep P0.out bel)
    replace BS := hideP (below_trans BS.out bel)
    have LX : Hid (wS.heap.size ≤ wx0.heap.size) := bel.size
    have al := (Below.refl wx0.heap.size wx0).alloc (Nat.le_refl _) (.cells #[.int .i64 posa, .slice uregsax regsa.length cregsax, .slice uslotsax slotsa.length cslotsax, .slice umemax mema.length cmemax, .slice uinputax inputa.length cinputax, .slice uoutax outa.length coutax, .int .i64 codea, .bool overa, .int .i64 vala] 30)
    have G0 := hideP (blk_new wx0 (.cells #[.int .i64 posa, .slice uregsax regsa.length cregsax, .slice uslotsax slotsa.length cslotsax, .slice umemax mema.length cmemax, .slice uinputax inputa.length cinputax, .slice uoutax outa.length coutax, .int .i64 codea, .bool overa, .int .i64 vala] 30))
    have HX0 := hideP (CpKeeps.stays hx al)
    have RM := hideP ((CpRoom.of hx hpos.out).stays al)
    replace HW := hideP (below_trans HW.out al)
    replace P0 := hideP (keep P0.out al)
    replace BS := hideP (below_trans BS.out al)
    clear hx bel al p0 p1 p2 p3 p4 p5 p6 p7 p8
    have g0_0 := (cells_of G0.out).1 0
    have g0_1 := (cells_of G0.out).1 1
    have g0_2 := (cells_of G0.out).1 2
    have g0_3 := (cells_of G0.out).1 3
    have g0_4 := (cells_of G0.out).1 4
    have g0_5 := (cells_of G0.out).1 5
    have g0_6 := (cells_of G0.out).1 6
    have g0_7 := (cells_of G0.out).1 7
    have g0_8 := (cells_of G0.out).1 8
    simp at g0_0 g0_1 g0_2 g0_3 g0_4 g0_5 g0_6 g0_7 g0_8
    go_wp2_with fail
    refine (IO.out _ _ _ HW.out HX0.out hpos.out).mono ?_
    rintro y8 w8 ⟨v8, rfl, o8, bel8⟩
    replace HW := hideP (below_trans HW.out bel8)
    replace P0 := hideP (keep P0.out bel8)
    replace BS := hideP (below_trans BS.out bel8)
    replace G0 := hideP (keep G0.out bel8)
    replace HX0 := hideP (CpKeeps.stays HX0.out bel8)
    replace RM := hideP (RM.out.stays bel8)
    obtain ⟨u8_, c8_, rfl, _⟩ := id o8
    have al8 := (Below.refl w8.heap.size w8).alloc (Nat.le_refl _) (.cells #[.int .i64 rc, .int .i64 rv, .slice u8_ ro.length c8_] 28)
    have L8 : Hid (wx0.heap.size < w8.heap.size) := by have := bel8.size; simp at this; exact this
    have HO := hideP ((o8.mono (show wx0.heap.size + 1 ≤ _ by simp) (Nat.le_refl _)).stays al8)
    have G1 := hideP (blk_new w8 (.cells #[.int .i64 rc, .int .i64 rv, .slice u8_ ro.length c8_] 28))
    replace HW := hideP (below_trans HW.out al8)
    replace P0 := hideP (keep P0.out al8)
    replace BS := hideP (below_trans BS.out al8)
    replace G0 := hideP (keep G0.out al8)
    replace HX0 := hideP (CpKeeps.stays HX0.out al8)
    replace RM := hideP (RM.out.stays al8)
    clear o8 bel8 al8 g0_0 g0_1 g0_2 g0_3 g0_4 g0_5 g0_6 g0_7 g0_8
    go_upto_region 8 with fail
    obtain ⟨wI, hwI⟩ : ∃ wI, w8.alloc (.cells #[.int .i64 rc, .int .i64 rv, .slice u8_ ro.length c8_] 28) = wI := ⟨_, rfl⟩
    rw [hwI] at P0 BS G0 HX0 RM G1 HO HW ⊢
    clear hwI
    have D0 := keep E4.out BS.out
    have d0 := (cells_of D0).1 0
    have d1 := (cells_of D0).1 1
    have d2 := (cells_of D0).1 2
    simp at d0 d1 d2
    clear D0
    have e0 := (cells_of G1.out).1 0
    have e1 := (cells_of G1.out).1 1
    have e2 := (cells_of G1.out).1 2
    simp at e0 e1 e2
    go_wp2_with fail
    refine (eqEnd_any (⟨rc, rv, ro⟩ : En) _ _ _ _ _ (HO.out.en rc rv) (HS.out.stays BS.out)).mono ?_
    rintro y9 w9 ⟨rfl, bel9⟩
    replace HW := hideP (below_trans HW.out bel9)
    replace P0 := hideP (keep P0.out bel9)
    replace BS := hideP (below_trans BS.out bel9)
    replace G0 := hideP (keep G0.out bel9)
    replace HX0 := hideP (CpKeeps.stays HX0.out bel9)
    replace RM := hideP (RM.out.stays bel9)
    replace G1 := hideP (keep G1.out bel9)
    replace HO := hideP (HO.out.stays bel9)
    clear bel9 d0 d1 d2 e0 e1 e2
    go_upto_region 10 with fail
    go_cut [31] from 27 to 31 (fun sx wx => sx = .bool false ∧ Hid (Below w9.heap.size w9 wx))
    case first =>
      have e0 := (cells_of G0.out).1
      have l0 : wx0.heap.size < w9.heap.size := (Array.getElem?_eq_some_iff.1 G0.out).1
      have e1 := (cells_of P0.out).1
      have l1 : w.heap.size < w9.heap.size := (Array.getElem?_eq_some_iff.1 P0.out).1
      have SK : Hid (∀ W', Below w9.heap.size w9 W' → W'.cell? ⟨wx0.heap.size, 0, none⟩ = some (.int .i64 posa) ∧ W'.cell? ⟨wx0.heap.size, 1, none⟩ = some (.slice uregsax regsa.length cregsax) ∧ W'.cell? ⟨wx0.heap.size, 2, none⟩ = some (.slice uslotsax slotsa.length cslotsax) ∧ W'.cell? ⟨wx0.heap.size, 3, none⟩ = some (.slice umemax mema.length cmemax) ∧ W'.cell? ⟨wx0.heap.size, 4, none⟩ = some (.slice uinputax inputa.length cinputax) ∧ W'.cell? ⟨wx0.heap.size, 5, none⟩ = some (.slice uoutax outa.length coutax) ∧ W'.cell? ⟨wx0.heap.size, 6, none⟩ = some (.int .i64 codea) ∧ W'.cell? ⟨wx0.heap.size, 7, none⟩ = some (.bool overa) ∧ W'.cell? ⟨wx0.heap.size, 8, none⟩ = some (.int .i64 vala) ∧ W'.cell? ⟨w.heap.size, 0, none⟩ = some (.int .i64 posa) ∧ W'.cell? ⟨w.heap.size, 1, none⟩ = some (.slice uregsa1 regsa.length cregsa1) ∧ W'.cell? ⟨w.heap.size, 2, none⟩ = some (.slice uslotsa1 slotsa.length cslotsa1) ∧ W'.cell? ⟨w.heap.size, 3, none⟩ = some (.slice umema1 mema.length cmema1) ∧ W'.cell? ⟨w.heap.size, 4, none⟩ = some (.slice uinputa1 inputa.length cinputa1) ∧ W'.cell? ⟨w.heap.size, 5, none⟩ = some (.slice uouta1 outa.length couta1) ∧ W'.cell? ⟨w.heap.size, 6, none⟩ = some (.int .i64 codea) ∧ W'.cell? ⟨w.heap.size, 7, none⟩ = some (.bool overa) ∧ W'.cell? ⟨w.heap.size, 8, none⟩ = some (.int .i64 vala)) := fun W' h => ⟨(h.cell (p := ⟨wx0.heap.size, 0, none⟩) l0).trans (e0 0), (h.cell (p := ⟨wx0.heap.size, 1, none⟩) l0).trans (e0 1), (h.cell (p := ⟨wx0.heap.size, 2, none⟩) l0).trans (e0 2), (h.cell (p := ⟨wx0.heap.size, 3, none⟩) l0).trans (e0 3), (h.cell (p := ⟨wx0.heap.size, 4, none⟩) l0).trans (e0 4), (h.cell (p := ⟨wx0.heap.size, 5, none⟩) l0).trans (e0 5), (h.cell (p := ⟨wx0.heap.size, 6, none⟩) l0).trans (e0 6), (h.cell (p := ⟨wx0.heap.size, 7, none⟩) l0).trans (e0 7), (h.cell (p := ⟨wx0.heap.size, 8, none⟩) l0).trans (e0 8), (h.cell (p := ⟨w.heap.size, 0, none⟩) l1).trans (e1 0), (h.cell (p := ⟨w.heap.size, 1, none⟩) l1).trans (e1 1), (h.cell (p := ⟨w.heap.size, 2, none⟩) l1).trans (e1 2), (h.cell (p := ⟨w.heap.size, 3, none⟩) l1).trans (e1 3), (h.cell (p := ⟨w.heap.size, 4, none⟩) l1).trans (e1 4), (h.cell (p := ⟨w.heap.size, 5, none⟩) l1).trans (e1 5), (h.cell (p := ⟨w.heap.size, 6, none⟩) l1).trans (e1 6), (h.cell (p := ⟨w.heap.size, 7, none⟩) l1).trans (e1 7), (h.cell (p := ⟨w.heap.size, 8, none⟩) l1).trans (e1 8)⟩
      clear e0 l0 e1 l1
      go_region_held3 (fun W' => W'.cell? ⟨wx0.heap.size, 0, none⟩ = some (.int .i64 posa) ∧ W'.cell? ⟨wx0.heap.size, 1, none⟩ = some (.slice uregsax regsa.length cregsax) ∧ W'.cell? ⟨wx0.heap.size, 2, none⟩ = some (.slice uslotsax slotsa.length cslotsax) ∧ W'.cell? ⟨wx0.heap.size, 3, none⟩ = some (.slice umemax mema.length cmemax) ∧ W'.cell? ⟨wx0.heap.size, 4, none⟩ = some (.slice uinputax inputa.length cinputax) ∧ W'.cell? ⟨wx0.heap.size, 5, none⟩ = some (.slice uoutax outa.length coutax) ∧ W'.cell? ⟨wx0.heap.size, 6, none⟩ = some (.int .i64 codea) ∧ W'.cell? ⟨wx0.heap.size, 7, none⟩ = some (.bool overa) ∧ W'.cell? ⟨wx0.heap.size, 8, none⟩ = some (.int .i64 vala) ∧ W'.cell? ⟨w.heap.size, 0, none⟩ = some (.int .i64 posa) ∧ W'.cell? ⟨w.heap.size, 1, none⟩ = some (.slice uregsa1 regsa.length cregsa1) ∧ W'.cell? ⟨w.heap.size, 2, none⟩ = some (.slice uslotsa1 slotsa.length cslotsa1) ∧ W'.cell? ⟨w.heap.size, 3, none⟩ = some (.slice umema1 mema.length cmema1) ∧ W'.cell? ⟨w.heap.size, 4, none⟩ = some (.slice uinputa1 inputa.length cinputa1) ∧ W'.cell? ⟨w.heap.size, 5, none⟩ = some (.slice uouta1 outa.length couta1) ∧ W'.cell? ⟨w.heap.size, 6, none⟩ = some (.int .i64 codea) ∧ W'.cell? ⟨w.heap.size, 7, none⟩ = some (.bool overa) ∧ W'.cell? ⟨w.heap.size, 8, none⟩ = some (.int .i64 vala)) (first | exact SK.out _ (Below.refl _ _).drew | exact SK.out _ HBb.out | exact SK.out _ HBa.out) (first
          | (go_at_call 6; refine (TO0.out _ HW.out.drew).mono ?_; rintro yya wya ⟨uregsay, cregsay, uslotsay, cslotsay, umemay, cmemay, uinputay, cinputay, uoutay, coutay, rfl, hxa, bela⟩; have HY := hideP hxa; have HBa := hideP ((Below.refl w9.heap.size w9).drew.trans (bela.mono (Nat.le_refl _))); clear bela hxa)
          | (go_at_call 9; refine (eqCpu_same (⟨posa, regsa, slotsa, mema, inputa, outa, codea, overa, vala⟩ : Cp) _ _ _ _ _ (CpKeeps.stays HX0.out HBa.out) HY.out).mono ?_; rintro yyb wyb ⟨rfl, belb⟩; have HBb := hideP (HBa.out.trans (belb.mono HBa.out.size)); clear belb))
      all_goals (go_wp2_with fail; go_meet; exact ⟨rfl, HBb⟩)
    case rest =>
    obtain ⟨rfl, hc⟩ := hcut
    replace HW := hideP (below_trans HW.out hc.out)
    replace P0 := hideP (keep P0.out hc.out)
    replace BS := hideP (below_trans BS.out hc.out)
    replace G0 := hideP (keep G0.out hc.out)
    replace HX0 := hideP (CpKeeps.stays HX0.out hc.out)
    replace RM := hideP (RM.out.stays hc.out)
    replace G1 := hideP (keep G1.out hc.out)
    replace HO := hideP (HO.out.stays hc.out)
    clear hc
    obtain ⟨wd, hwd⟩ : ∃ wd, wc = wd := ⟨_, rfl⟩
    subst hwd
    clear HX0
    have g0_0 := (cells_of G0.out).1 0
    have g0_1 := (cells_of G0.out).1 1
    have g0_2 := (cells_of G0.out).1 2
    have g0_3 := (cells_of G0.out).1 3
    have g0_4 := (cells_of G0.out).1 4
    have g0_5 := (cells_of G0.out).1 5
    have g0_6 := (cells_of G0.out).1 6
    have g0_7 := (cells_of G0.out).1 7
    have g0_8 := (cells_of G0.out).1 8
    simp at g0_0 g0_1 g0_2 g0_3 g0_4 g0_5 g0_6 g0_7 g0_8
    have LG : Hid (w8.heap.size < wc.heap.size) := (Array.getElem?_eq_some_iff.1 G1.out).1
    go_wp2_with fail
    refine (markCpu_room (⟨posa, regsa, slotsa, mema, inputa, outa, codea, overa, vala⟩ : Cp) _ _ _ _ RM.out (by have := LG.out; have := L8.out; omega) HSZ.out).mono ?_
    rintro ym wm ⟨km, rfl, om⟩
    have hup : ∀ k, wx0.heap.size + 1 ≤ k → k < wc.heap.size → wm.heap[k]? = wc.heap[k]? := fun k h1 h2 => om.out k h2 (Or.inr (by omega))
    have hbl := om.below (by have := LX.out; have := LG.out; have := L8.out; omega)
    replace HW := hideP (HW.out.trans (hbl.mono (Nat.le_of_lt LP.out)))
    replace P0 := hideP ((om.out w.heap.size (Array.getElem?_eq_some_iff.1 P0.out).1 (Or.inl LP.out)).trans P0.out)
    replace BS := hideP (BS.out.trans hbl)
    replace G1 := hideP ((hup w8.heap.size (by have := L8.out; omega) LG.out).trans G1.out)
    replace HO := hideP (HO.out.keep fun g h1 _ h3 => hup g h1 h3)
    have hkm : ¬ (km : Int) < 0 := by omega
    clear om RM G0 hup hbl g0_0 g0_1 g0_2 g0_3 g0_4 g0_5 g0_6 g0_7 g0_8
    have D0 := keep E4.out BS.out
    have d0 := (cells_of D0).1 0
    have d1 := (cells_of D0).1 1
    have d2 := (cells_of D0).1 2
    simp at d0 d1 d2
    clear D0
    have e0 := (cells_of G1.out).1 0
    have e1 := (cells_of G1.out).1 1
    have e2 := (cells_of G1.out).1 2
    simp at e0 e1 e2
    go_wp2_with fail
    refine (eqEnd_any (⟨rc, rv, ro⟩ : En) _ _ _ _ _ (HO.out.en rc rv) (HS.out.stays BS.out)).mono ?_
    rintro yn wn ⟨rfl, beln⟩
    have LN : Hid (w8.heap.size < wn.heap.size) := Nat.lt_of_lt_of_le (Array.getElem?_eq_some_iff.1 G1.out).1 beln.size
    replace HW := hideP (below_trans HW.out beln)
    replace P0 := hideP (keep P0.out beln)
    replace BS := hideP (below_trans BS.out beln)
    replace G1 := hideP (keep G1.out beln)
    replace HO := hideP (HO.out.stays beln)
    clear beln hkm d0 d1 d2 e0 e1 e2 LG
    have e0 := (cells_of G1.out).1 0
    have e1 := (cells_of G1.out).1 1
    have e2 := (cells_of G1.out).1 2
    simp at e0 e1 e2
    obtain ⟨Q, hQ⟩ : ∃ Q, 1 + ro.length = Q := ⟨_, rfl⟩
    have MG : Hid (∀ W, LiZ W (wx0.heap.size + 1) w8.heap.size (.slice u8_ ro.length c8_) ro → Calls Try.prog 11 #[.agg #[.int .i64 rc, .int .i64 rv, .slice u8_ ro.length c8_], .int .i64 1] W fun en w' => en = .returned (.int .i64 (Q : Int)) ∧ LiZ w' (wx0.heap.size + 1) w8.heap.size (.slice u8_ ro.length c8_) (marksI 1 ro.length) ∧ Over (wx0.heap.size + 1) w8.heap.size W w') := fun W hW => hQ ▸ markEnd_z rc rv ro W _ _ 1 _ hW (by have := hlen.out; omega)
    have HG : Hid (∀ W, LiZ W (wx0.heap.size + 1) w8.heap.size (.slice u8_ ro.length c8_) (marksI 1 ro.length) → Calls Try.prog 12 #[.agg #[.int .i64 rc, .int .i64 rv, .slice u8_ ro.length c8_], .int .i64 1] W fun en w' => en = .returned (.int .i64 (Q : Int)) ∧ Below W.heap.size W w') := fun W hW => hQ ▸ heldEnd_z rc rv ro.length W _ _ 1 _ hW (by have := hlen.out; omega)
    clear hQ
    go_wp2_with fail
    refine (MG.out _ HO.out).mono ?_
    rintro y7 w7 ⟨rfl, hz7, om⟩
    have hbl := om.below (by have := LN.out; have := L8.out; omega)
    replace HW := hideP (HW.out.trans (hbl.mono (by have := LP.out; have := LX.out; omega)))
    replace P0 := hideP ((om.out w.heap.size (Array.getElem?_eq_some_iff.1 P0.out).1 (Or.inl (by have := LP.out; have := LX.out; omega))).trans P0.out)
    replace BS := hideP (BS.out.trans (hbl.mono (by have := LX.out; omega)))
    replace G1 := hideP ((om.out w8.heap.size LN.out (Or.inr (Nat.le_refl _))).trans G1.out)
    have HE := hideP hz7
    have hk0 : ¬ (Q : Int) < 0 := by omega
    clear om hz7 hbl LN MG HO e0 e1 e2
    have e0 := (cells_of G1.out).1 0
    have e1 := (cells_of G1.out).1 1
    have e2 := (cells_of G1.out).1 2
    simp at e0 e1 e2
    go_wp2_with fail
    refine (HG.out _ HE.out).mono ?_
    rintro yh wh ⟨rfl, belh⟩
    replace HW := hideP (below_trans HW.out belh)
    replace P0 := hideP (keep P0.out belh)
    replace BS := hideP (below_trans BS.out belh)
    replace G1 := hideP (keep G1.out belh)
    replace HE := hideP (HE.out.stays belh)
    clear belh e0 e1 e2
    have p0 := (cells_of P0.out).1 0
    have p1 := (cells_of P0.out).1 1
    have p2 := (cells_of P0.out).1 2
    have p3 := (cells_of P0.out).1 3
    have p4 := (cells_of P0.out).1 4
    have p5 := (cells_of P0.out).1 5
    have p6 := (cells_of P0.out).1 6
    have p7 := (cells_of P0.out).1 7
    have p8 := (cells_of P0.out).1 8
    simp at p0 p1 p2 p3 p4 p5 p6 p7 p8
    go_wp2_with fail
    refine (TO0.out _ HW.out).mono ?_
    rintro ya wa ⟨uregsaa, cregsaa, uslotsaa, cslotsaa, umemaa, cmemaa, uinputaa, cinputaa, uoutaa, coutaa, rfl, hxa, bela⟩
    have hposa : Hid (0 < wh.heap.size) := pos_of P0.out
    replace HW := hideP (below_trans HW.out bela)
    replace P0 := hideP (keep P0.out bela)
    replace BS := hideP (below_trans BS.out bela)
    replace G1 := hideP (keep G1.out bela)
    replace HE := hideP (HE.out.stays bela)
    have HXA := hideP hxa
    clear hxa bela p0 p1 p2 p3 p4 p5 p6 p7 p8
    go_wp2_with fail
    refine (IO.out _ _ _ HW.out HXA.out hposa.out).mono ?_
    rintro yb wb ⟨vb, rfl, ob, belb⟩
    replace HW := hideP (below_trans HW.out belb)
    replace P0 := hideP (keep P0.out belb)
    replace BS := hideP (below_trans BS.out belb)
    replace G1 := hideP (keep G1.out belb)
    replace HE := hideP (HE.out.stays belb)
    obtain ⟨ub_, cb_, rfl, _⟩ := id ob
    have alb := (Below.refl wb.heap.size wb).alloc (Nat.le_refl _) (.cells #[.int .i64 rc, .int .i64 rv, .slice ub_ ro.length cb_] 28)
    have HO := hideP (ob.stays alb)
    have G2 := hideP (blk_new wb (.cells #[.int .i64 rc, .int .i64 rv, .slice ub_ ro.length cb_] 28))
    replace HW := hideP (below_trans HW.out alb)
    replace P0 := hideP (keep P0.out alb)
    replace BS := hideP (below_trans BS.out alb)
    replace G1 := hideP (keep G1.out alb)
    replace HE := hideP (HE.out.stays alb)
    clear ob belb alb HXA IO
    go_upto_region 25 with fail
    obtain ⟨wJ, hwJ⟩ : ∃ wJ, wb.alloc (.cells #[.int .i64 rc, .int .i64 rv, .slice ub_ ro.length cb_] 28) = wJ := ⟨_, rfl⟩
    rw [hwJ] at P0 BS G1 HE G2 HO HW ⊢
    clear hwJ
    have D0 := keep E4.out BS.out
    have d0 := (cells_of D0).1 0
    have d1 := (cells_of D0).1 1
    have d2 := (cells_of D0).1 2
    simp at d0 d1 d2
    clear D0
    have e0 := (cells_of G2.out).1 0
    have e1 := (cells_of G2.out).1 1
    have e2 := (cells_of G2.out).1 2
    simp at e0 e1 e2
    go_wp2_with fail
    refine (eqEnd_any (⟨rc, rv, ro⟩ : En) _ _ _ _ _ (HO.out.en rc rv) (HS.out.stays BS.out)).mono ?_
    rintro yc wc2 ⟨rfl, belc⟩
    replace HW := hideP (below_trans HW.out belc)
    replace P0 := hideP (keep P0.out belc)
    replace BS := hideP (below_trans BS.out belc)
    replace G1 := hideP (keep G1.out belc)
    replace HE := hideP (HE.out.stays belc)
    replace G2 := hideP (keep G2.out belc)
    replace HO := hideP (HO.out.stays belc)
    clear belc d0 d1 d2 e0 e1 e2
    have e0 := (cells_of G1.out).1 0
    have e1 := (cells_of G1.out).1 1
    have e2 := (cells_of G1.out).1 2
    simp at e0 e1 e2
    go_wp2_with fail
    refine (HG.out _ HE.out).mono ?_
    rintro yd wd ⟨rfl, beld⟩
    replace HW := hideP (below_trans HW.out beld)
    replace P0 := hideP (keep P0.out beld)
    replace BS := hideP (below_trans BS.out beld)
    replace G1 := hideP (keep G1.out beld)
    replace HE := hideP (HE.out.stays beld)
    replace G2 := hideP (keep G2.out beld)
    replace HO := hideP (HO.out.stays beld)
    clear beld e0 e1 e2
    go_wp2
    go_ret
    exact ⟨rfl, HW.out⟩
  · have E0 := hideP (szR_neg (Nat.lt_of_not_le hp0))
    clear hp0 h0 
    go_enter Try.func3, Try.ntmps3
    go_wp2_with fail
    refine (SP0.out _ ((Below.refl _ _).alloc (Nat.le_refl _) _)).mono ?_
    rintro y0 wz0 ⟨rfl, belz⟩
    rw [E0.out]
    have P0 := hideP (keep (blk_new w _) belz)
    have HW := hideP (below_new belz)
    clear belz SP0 E0
    go_wp2
    go_ret
    exact ⟨rfl, HW.out⟩
end CpuEndLaw
end Go.Proofs.Ytpbmnajlkgjkfab
