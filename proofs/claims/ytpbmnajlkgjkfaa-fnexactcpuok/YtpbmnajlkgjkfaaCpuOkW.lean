/- The walk of the law FnExactCpuOk (written by wip/mklaw.py). -/
import Derived.Test.YtpbmnajlkgjkfaaCkI
import Derived.Test.YtpbmnajlkgjkfaaCkS
import Derived.Test.YtpbmnajlkgjkfaaImageSz
import Derived.Test.YtpbmnajlkgjkfaaImageTo
import Derived.Test.YtpbmnajlkgjkfaaImageEq
import Derived.Test.YtpbmnajlkgjkfaaCpuSz
import Derived.Test.YtpbmnajlkgjkfaaCpuTo
import Derived.Test.YtpbmnajlkgjkfaaCpuEq
import Derived.Deep.CutRange
import Derived.Deep.RegionHeld3
namespace Go.Proofs.Ytpbmnajlkgjkfaa
open Go.ChangeShapes Go.WideShapes Go.ChangeAt Go.RowKit
namespace CpuOkLaw
theorem keep {W W' : World} {b : Nat} {o : Obj} (h : W.heap[b]? = some o) (bel : Below W.heap.size W W') : W'.heap[b]? = some o := (bel.block b (Array.getElem?_eq_some_iff.1 h).1).trans h
theorem blk_new (w : World) (o : Obj) : (w.alloc o).heap[w.heap.size]? = some o := by show (w.heap.push o)[w.heap.size]? = _; exact Array.getElem?_push_size
theorem pos_of {W : World} {b : Nat} {o : Obj} (h : W.heap[b]? = some o) : 0 < W.heap.size := Nat.lt_of_le_of_lt (Nat.zero_le _) (Array.getElem?_eq_some_iff.1 h).1
set_option maxRecDepth 100000 in
set_option maxHeartbeats 16000000 in
theorem walk (x0 : Img) (v0 : Array Value) (x1 : Cp) (v1 : Array Value) (w : World) (h0 : ImgIs w 0 v0 x0) (h1 : CpIs w 0 v1 x1) :
    Calls Try.prog 3 #[.agg v0, .agg v1] w fun en w' => en = .returned (.bool true) ∧ Below w.heap.size w w' := by
  obtain ⟨sizesa, paramsa, slotsa, codea⟩ := x0
  have g0 := h0
  obtain ⟨usizesa1, csizesa1, ucodea1, ccodea1, rfl, _⟩ := g0
  obtain ⟨posb, regsb, slotsb, memb, inputb, outb, codeb, overb, valb⟩ := x1
  have g1 := h1
  obtain ⟨uregsb1, cregsb1, uslotsb1, cslotsb1, umemb1, cmemb1, uinputb1, cinputb1, uoutb1, coutb1, rfl, _⟩ := g1
  simp only at *
  have SP0 : Hid (∀ W, Below w.heap.size w W → _) := fun W hW => szImage_any (⟨sizesa, paramsa, slotsa, codea⟩ : Img) W 0 _ 1048576 (ImgKeeps.stays h0 hW) (by omega)
  by_cases hp0 : (⟨sizesa, paramsa, slotsa, codea⟩ : Img).sz ≤ 1048576
  · obtain ⟨L1, hL1⟩ : ∃ L, 1048576 - (⟨sizesa, paramsa, slotsa, codea⟩ : Img).sz = L := ⟨_, rfl⟩
    have SP1 : Hid (∀ W, Below w.heap.size w W → _) := fun W hW => szCpu_any (⟨posb, regsb, slotsb, memb, inputb, outb, codeb, overb, valb⟩ : Cp) W 0 _ L1 (CpKeeps.stays h1 hW) (by omega)
    by_cases hp1 : (⟨posb, regsb, slotsb, memb, inputb, outb, codeb, overb, valb⟩ : Cp).sz ≤ L1
    · obtain ⟨L2, hL2⟩ : ∃ L, L1 - (⟨posb, regsb, slotsb, memb, inputb, outb, codeb, overb, valb⟩ : Cp).sz = L := ⟨_, rfl⟩
      have TO0 := hideP (toImage_in w 0 _ h0 (by omega))
      have TO1 := hideP (toCpu_in w 0 _ h1 (by omega))
      obtain ⟨r, hr⟩ : ∃ r : Bool, cpuOk (⟨sizesa, paramsa, slotsa, codea⟩ : Img) (⟨posb, regsb, slotsb, memb, inputb, outb, codeb, overb, valb⟩ : Cp) = r := ⟨_, rfl⟩
      have SO : Hid (∀ W A0 x0 A1 x1, Below w.heap.size w W → ImgIs W A0 x0 (⟨sizesa, paramsa, slotsa, codea⟩ : Img) → CpIs W A1 x1 (⟨posb, regsb, slotsb, memb, inputb, outb, codeb, overb, valb⟩ : Cp) → Calls Try.prog 6 #[.agg x0, .agg x1] W fun en w' => en = .returned (.bool r) ∧ Below W.heap.size W w') := fun W A0 x0 A1 x1 hbw y0 y1 => by rw [← hr]; exact spec_cpuOk _ _ W A0 A1 x0 x1 y0 y1
      have IO : Hid (∀ W A0 x0 A1 x1, Below w.heap.size w W → ImgIs W A0 x0 (⟨sizesa, paramsa, slotsa, codea⟩ : Img) → CpIs W A1 x1 (⟨posb, regsb, slotsb, memb, inputb, outb, codeb, overb, valb⟩ : Cp) → 0 < A0 → Calls Try.prog 9 #[.agg x0, .agg x1] W fun en w' => en = .returned (.bool r) ∧ Below W.heap.size W w') := fun W A0 x0 A1 x1 hbw y0 y1 hpos => by rw [← hr]; exact impl_cpuOk _ _ W A0 A1 x0 x1 y0 y1
      have E0 := hideP (szR_pos hp0)
      have HL1 := hideP hL1
      have E1 := hideP (szR_pos hp1)
      have HL2 := hideP hL2
      clear hr hp0 h0 hL1 hp1 h1 hL2
      go_enter Try.func3, Try.ntmps3
      go_wp2_with fail
      refine (SP0.out _ (below2 w _ _)).mono ?_
      rintro y0 wz0 ⟨rfl, belz⟩
      rw [E0.out, HL1.out]
      obtain ⟨q1, q2, _, hw⟩ := two belz
      have HW := hideP hw
      have P0 := hideP q1
      have P1 := hideP q2
      clear q1 q2 hw belz SP0 E0
      have f0 := (cells_of P1.out).1 0
      have f1 := (cells_of P1.out).1 1
      have f2 := (cells_of P1.out).1 2
      have f3 := (cells_of P1.out).1 3
      have f4 := (cells_of P1.out).1 4
      have f5 := (cells_of P1.out).1 5
      have f6 := (cells_of P1.out).1 6
      have f7 := (cells_of P1.out).1 7
      have f8 := (cells_of P1.out).1 8
      simp at f0 f1 f2 f3 f4 f5 f6 f7 f8
      go_wp2_with fail
      refine (SP1.out _ HW.out).mono ?_
      rintro y1 wz1 ⟨rfl, belz⟩
      rw [E1.out, HL2.out]
      replace HW := hideP (below_trans HW.out belz)
      replace P0 := hideP (keep P0.out belz)
      replace P1 := hideP (keep P1.out belz)
      clear belz SP1 E1 f0 f1 f2 f3 f4 f5 f6 f7 f8
      go_upto_region 8 with fail
      go_cut [6] from 20 to 24 (fun sx wx => sx = .bool r ∧ Hid (Below wz1.heap.size wz1 wx))
      case first =>
        have e0 := (cells_of P0.out).1
        have l0 : w.heap.size < wz1.heap.size := (Array.getElem?_eq_some_iff.1 P0.out).1
        have e1 := (cells_of P1.out).1
        have l1 : w.heap.size + 1 < wz1.heap.size := (Array.getElem?_eq_some_iff.1 P1.out).1
        have SK : Hid (∀ W', Below wz1.heap.size wz1 W' → W'.cell? ⟨w.heap.size, 0, none⟩ = some (.slice usizesa1 sizesa.length csizesa1) ∧ W'.cell? ⟨w.heap.size, 1, none⟩ = some (.int .i64 paramsa) ∧ W'.cell? ⟨w.heap.size, 2, none⟩ = some (.int .i64 slotsa) ∧ W'.cell? ⟨w.heap.size, 3, none⟩ = some (.slice ucodea1 codea.length ccodea1) ∧ W'.cell? ⟨w.heap.size + 1, 0, none⟩ = some (.int .i64 posb) ∧ W'.cell? ⟨w.heap.size + 1, 1, none⟩ = some (.slice uregsb1 regsb.length cregsb1) ∧ W'.cell? ⟨w.heap.size + 1, 2, none⟩ = some (.slice uslotsb1 slotsb.length cslotsb1) ∧ W'.cell? ⟨w.heap.size + 1, 3, none⟩ = some (.slice umemb1 memb.length cmemb1) ∧ W'.cell? ⟨w.heap.size + 1, 4, none⟩ = some (.slice uinputb1 inputb.length cinputb1) ∧ W'.cell? ⟨w.heap.size + 1, 5, none⟩ = some (.slice uoutb1 outb.length coutb1) ∧ W'.cell? ⟨w.heap.size + 1, 6, none⟩ = some (.int .i64 codeb) ∧ W'.cell? ⟨w.heap.size + 1, 7, none⟩ = some (.bool overb) ∧ W'.cell? ⟨w.heap.size + 1, 8, none⟩ = some (.int .i64 valb)) := fun W' h => ⟨(h.cell (p := ⟨w.heap.size, 0, none⟩) l0).trans (e0 0), (h.cell (p := ⟨w.heap.size, 1, none⟩) l0).trans (e0 1), (h.cell (p := ⟨w.heap.size, 2, none⟩) l0).trans (e0 2), (h.cell (p := ⟨w.heap.size, 3, none⟩) l0).trans (e0 3), (h.cell (p := ⟨w.heap.size + 1, 0, none⟩) l1).trans (e1 0), (h.cell (p := ⟨w.heap.size + 1, 1, none⟩) l1).trans (e1 1), (h.cell (p := ⟨w.heap.size + 1, 2, none⟩) l1).trans (e1 2), (h.cell (p := ⟨w.heap.size + 1, 3, none⟩) l1).trans (e1 3), (h.cell (p := ⟨w.heap.size + 1, 4, none⟩) l1).trans (e1 4), (h.cell (p := ⟨w.heap.size + 1, 5, none⟩) l1).trans (e1 5), (h.cell (p := ⟨w.heap.size + 1, 6, none⟩) l1).trans (e1 6), (h.cell (p := ⟨w.heap.size + 1, 7, none⟩) l1).trans (e1 7), (h.cell (p := ⟨w.heap.size + 1, 8, none⟩) l1).trans (e1 8)⟩
        clear e0 l0 e1 l1
        go_region_held3 (fun W' => W'.cell? ⟨w.heap.size, 0, none⟩ = some (.slice usizesa1 sizesa.length csizesa1) ∧ W'.cell? ⟨w.heap.size, 1, none⟩ = some (.int .i64 paramsa) ∧ W'.cell? ⟨w.heap.size, 2, none⟩ = some (.int .i64 slotsa) ∧ W'.cell? ⟨w.heap.size, 3, none⟩ = some (.slice ucodea1 codea.length ccodea1) ∧ W'.cell? ⟨w.heap.size + 1, 0, none⟩ = some (.int .i64 posb) ∧ W'.cell? ⟨w.heap.size + 1, 1, none⟩ = some (.slice uregsb1 regsb.length cregsb1) ∧ W'.cell? ⟨w.heap.size + 1, 2, none⟩ = some (.slice uslotsb1 slotsb.length cslotsb1) ∧ W'.cell? ⟨w.heap.size + 1, 3, none⟩ = some (.slice umemb1 memb.length cmemb1) ∧ W'.cell? ⟨w.heap.size + 1, 4, none⟩ = some (.slice uinputb1 inputb.length cinputb1) ∧ W'.cell? ⟨w.heap.size + 1, 5, none⟩ = some (.slice uoutb1 outb.length coutb1) ∧ W'.cell? ⟨w.heap.size + 1, 6, none⟩ = some (.int .i64 codeb) ∧ W'.cell? ⟨w.heap.size + 1, 7, none⟩ = some (.bool overb) ∧ W'.cell? ⟨w.heap.size + 1, 8, none⟩ = some (.int .i64 valb)) (first | exact SK.out _ (Below.refl _ _).drew | exact SK.out _ HB9.out | exact SK.out _ HB1.out | exact SK.out _ HB0.out) (first
            | (go_at_call 7; have tk := TO0; refine (TO0.out _ HW.out.drew).mono ?_; rintro yy0 wy0 ⟨usizesas0, csizesas0, ucodeas0, ccodeas0, rfl, hx0, bel0⟩; have HX0 := hideP hx0; have HB0 := hideP ((Below.refl wz1.heap.size wz1).drew.trans (bel0.mono (Nat.le_refl _))); clear bel0 hx0 tk TO0)
            | (go_at_call 8; have tk := TO1; refine (TO1.out _ (HW.out.trans (HB0.out.mono HW.out.size))).mono ?_; rintro yy1 wy1 ⟨uregsbs1, cregsbs1, uslotsbs1, cslotsbs1, umembs1, cmembs1, uinputbs1, cinputbs1, uoutbs1, coutbs1, rfl, hx1, bel1⟩; have HX1 := hideP hx1; have HX0 := hideP (ImgKeeps.stays HX0.out bel1); have HB1 := hideP (HB0.out.trans (bel1.mono HB0.out.size)); clear bel1 hx1 tk TO1)
            | (go_at_call 6; refine (SO.out _ _ _ _ _ (HW.out.trans (HB1.out.mono HW.out.size)) HX0.out HX1.out).mono ?_; rintro yy9 wy9 ⟨rfl, bel9⟩; have HB9 := hideP (HB1.out.trans (bel9.mono HB1.out.size)); clear bel9))
        all_goals (go_wp2_with fail; go_meet; exact ⟨rfl, HB9⟩)
      case rest =>
      obtain ⟨rfl, hc⟩ := hcut
      replace HW := hideP (below_trans HW.out hc.out)
      replace P0 := hideP (keep P0.out hc.out)
      replace P1 := hideP (keep P1.out hc.out)
      clear hc SO
      obtain ⟨wd, hwd⟩ : ∃ wd, wc = wd := ⟨_, rfl⟩
      subst hwd
      have hpos : Hid (0 < wc.heap.size) := pos_of P0.out
      have p0 := (cells_of P0.out).1 0
      have p1 := (cells_of P0.out).1 1
      have p2 := (cells_of P0.out).1 2
      have p3 := (cells_of P0.out).1 3
      simp at p0 p1 p2 p3
      go_wp2_with fail
      refine (TO0.out _ HW.out).mono ?_
      rintro yx0 wx0 ⟨usizesax, csizesax, ucodeax, ccodeax, rfl, hx, bel⟩
      replace HW := hideP (below_trans HW.out bel)
      replace P0 := hideP (keep P0.out bel)
      replace P1 := hideP (keep P1.out bel)
      have al := (Below.refl wx0.heap.size wx0).alloc (Nat.le_refl _) (.cells #[.slice usizesax sizesa.length csizesax, .int .i64 paramsa, .int .i64 slotsa, .slice ucodeax codea.length ccodeax] 34)
      have G0 := hideP (blk_new wx0 (.cells #[.slice usizesax sizesa.length csizesax, .int .i64 paramsa, .int .i64 slotsa, .slice ucodeax codea.length ccodeax] 34))
      have HX0 := hideP (ImgKeeps.stays hx al)
      replace HW := hideP (below_trans HW.out al)
      replace P0 := hideP (keep P0.out al)
      replace P1 := hideP (keep P1.out al)
      clear hx bel al p0 p1 p2 p3
      have p0 := (cells_of P1.out).1 0
      have p1 := (cells_of P1.out).1 1
      have p2 := (cells_of P1.out).1 2
      have p3 := (cells_of P1.out).1 3
      have p4 := (cells_of P1.out).1 4
      have p5 := (cells_of P1.out).1 5
      have p6 := (cells_of P1.out).1 6
      have p7 := (cells_of P1.out).1 7
      have p8 := (cells_of P1.out).1 8
      simp at p0 p1 p2 p3 p4 p5 p6 p7 p8
      go_wp2_with fail
      refine (TO1.out _ HW.out).mono ?_
      rintro yx1 wx1 ⟨uregsbx, cregsbx, uslotsbx, cslotsbx, umembx, cmembx, uinputbx, cinputbx, uoutbx, coutbx, rfl, hx, bel⟩
      replace HW := hideP (below_trans HW.out bel)
      replace P0 := hideP (keep P0.out bel)
      replace P1 := hideP (keep P1.out bel)
      replace G0 := hideP (keep G0.out bel)
      replace HX0 := hideP (ImgKeeps.stays HX0.out bel)
      have al := (Below.refl wx1.heap.size wx1).alloc (Nat.le_refl _) (.cells #[.int .i64 posb, .slice uregsbx regsb.length cregsbx, .slice uslotsbx slotsb.length cslotsbx, .slice umembx memb.length cmembx, .slice uinputbx inputb.length cinputbx, .slice uoutbx outb.length coutbx, .int .i64 codeb, .bool overb, .int .i64 valb] 36)
      have G1 := hideP (blk_new wx1 (.cells #[.int .i64 posb, .slice uregsbx regsb.length cregsbx, .slice uslotsbx slotsb.length cslotsbx, .slice umembx memb.length cmembx, .slice uinputbx inputb.length cinputbx, .slice uoutbx outb.length coutbx, .int .i64 codeb, .bool overb, .int .i64 valb] 36))
      have HX1 := hideP (CpKeeps.stays hx al)
      replace HW := hideP (below_trans HW.out al)
      replace P0 := hideP (keep P0.out al)
      replace P1 := hideP (keep P1.out al)
      replace G0 := hideP (keep G0.out al)
      replace HX0 := hideP (ImgKeeps.stays HX0.out al)
      clear hx bel al p0 p1 p2 p3 p4 p5 p6 p7 p8
      have g0_0 := (cells_of G0.out).1 0
      have g0_1 := (cells_of G0.out).1 1
      have g0_2 := (cells_of G0.out).1 2
      have g0_3 := (cells_of G0.out).1 3
      simp at g0_0 g0_1 g0_2 g0_3
      have g1_0 := (cells_of G1.out).1 0
      have g1_1 := (cells_of G1.out).1 1
      have g1_2 := (cells_of G1.out).1 2
      have g1_3 := (cells_of G1.out).1 3
      have g1_4 := (cells_of G1.out).1 4
      have g1_5 := (cells_of G1.out).1 5
      have g1_6 := (cells_of G1.out).1 6
      have g1_7 := (cells_of G1.out).1 7
      have g1_8 := (cells_of G1.out).1 8
      simp at g1_0 g1_1 g1_2 g1_3 g1_4 g1_5 g1_6 g1_7 g1_8
      go_wp2_with fail
      refine (IO.out _ _ _ _ _ HW.out HX0.out HX1.out hpos.out).mono ?_
      rintro y8 w8 ⟨rfl, bel8⟩
      replace HW := hideP (below_trans HW.out bel8)
      replace P0 := hideP (keep P0.out bel8)
      replace P1 := hideP (keep P1.out bel8)
      replace G0 := hideP (keep G0.out bel8)
      replace HX0 := hideP (ImgKeeps.stays HX0.out bel8)
      replace G1 := hideP (keep G1.out bel8)
      replace HX1 := hideP (CpKeeps.stays HX1.out bel8)
      clear bel8 IO hpos g0_0 g0_1 g0_2 g0_3 g1_0 g1_1 g1_2 g1_3 g1_4 g1_5 g1_6 g1_7 g1_8
      go_upto_region 14 with fail
      go_cut [39] from 35 to 39 (fun sx wx => sx = .bool false ∧ Hid (Below w8.heap.size w8 wx))
      case first =>
        have e0 := (cells_of G0.out).1
        have l0 : wx0.heap.size < w8.heap.size := (Array.getElem?_eq_some_iff.1 G0.out).1
        have e1 := (cells_of P0.out).1
        have l1 : w.heap.size < w8.heap.size := (Array.getElem?_eq_some_iff.1 P0.out).1
        have SK : Hid (∀ W', Below w8.heap.size w8 W' → W'.cell? ⟨wx0.heap.size, 0, none⟩ = some (.slice usizesax sizesa.length csizesax) ∧ W'.cell? ⟨wx0.heap.size, 1, none⟩ = some (.int .i64 paramsa) ∧ W'.cell? ⟨wx0.heap.size, 2, none⟩ = some (.int .i64 slotsa) ∧ W'.cell? ⟨wx0.heap.size, 3, none⟩ = some (.slice ucodeax codea.length ccodeax) ∧ W'.cell? ⟨w.heap.size, 0, none⟩ = some (.slice usizesa1 sizesa.length csizesa1) ∧ W'.cell? ⟨w.heap.size, 1, none⟩ = some (.int .i64 paramsa) ∧ W'.cell? ⟨w.heap.size, 2, none⟩ = some (.int .i64 slotsa) ∧ W'.cell? ⟨w.heap.size, 3, none⟩ = some (.slice ucodea1 codea.length ccodea1)) := fun W' h => ⟨(h.cell (p := ⟨wx0.heap.size, 0, none⟩) l0).trans (e0 0), (h.cell (p := ⟨wx0.heap.size, 1, none⟩) l0).trans (e0 1), (h.cell (p := ⟨wx0.heap.size, 2, none⟩) l0).trans (e0 2), (h.cell (p := ⟨wx0.heap.size, 3, none⟩) l0).trans (e0 3), (h.cell (p := ⟨w.heap.size, 0, none⟩) l1).trans (e1 0), (h.cell (p := ⟨w.heap.size, 1, none⟩) l1).trans (e1 1), (h.cell (p := ⟨w.heap.size, 2, none⟩) l1).trans (e1 2), (h.cell (p := ⟨w.heap.size, 3, none⟩) l1).trans (e1 3)⟩
        clear e0 l0 e1 l1
        go_region_held3 (fun W' => W'.cell? ⟨wx0.heap.size, 0, none⟩ = some (.slice usizesax sizesa.length csizesax) ∧ W'.cell? ⟨wx0.heap.size, 1, none⟩ = some (.int .i64 paramsa) ∧ W'.cell? ⟨wx0.heap.size, 2, none⟩ = some (.int .i64 slotsa) ∧ W'.cell? ⟨wx0.heap.size, 3, none⟩ = some (.slice ucodeax codea.length ccodeax) ∧ W'.cell? ⟨w.heap.size, 0, none⟩ = some (.slice usizesa1 sizesa.length csizesa1) ∧ W'.cell? ⟨w.heap.size, 1, none⟩ = some (.int .i64 paramsa) ∧ W'.cell? ⟨w.heap.size, 2, none⟩ = some (.int .i64 slotsa) ∧ W'.cell? ⟨w.heap.size, 3, none⟩ = some (.slice ucodea1 codea.length ccodea1)) (first | exact SK.out _ (Below.refl _ _).drew | exact SK.out _ HBb.out | exact SK.out _ HBa.out) (first
            | (go_at_call 7; refine (TO0.out _ HW.out.drew).mono ?_; rintro yya wya ⟨usizesay, csizesay, ucodeay, ccodeay, rfl, hxa, bela⟩; have HY := hideP hxa; have HBa := hideP ((Below.refl w8.heap.size w8).drew.trans (bela.mono (Nat.le_refl _))); clear bela hxa)
            | (go_at_call 10; refine (eqImage_same (⟨sizesa, paramsa, slotsa, codea⟩ : Img) _ _ _ _ _ (ImgKeeps.stays HX0.out HBa.out) HY.out).mono ?_; rintro yyb wyb ⟨rfl, belb⟩; have HBb := hideP (HBa.out.trans (belb.mono HBa.out.size)); clear belb))
        all_goals (go_wp2_with fail; go_meet; exact ⟨rfl, HBb⟩)
      case rest =>
      obtain ⟨rfl, hc⟩ := hcut
      replace HW := hideP (below_trans HW.out hc.out)
      replace P0 := hideP (keep P0.out hc.out)
      replace P1 := hideP (keep P1.out hc.out)
      replace G0 := hideP (keep G0.out hc.out)
      replace HX0 := hideP (ImgKeeps.stays HX0.out hc.out)
      replace G1 := hideP (keep G1.out hc.out)
      replace HX1 := hideP (CpKeeps.stays HX1.out hc.out)
      clear hc
      obtain ⟨wd, hwd⟩ : ∃ wd, wc = wd := ⟨_, rfl⟩
      subst hwd
      go_upto_region 16 with fail
      go_cut [44] from 40 to 44 (fun sx wx => sx = .bool false ∧ Hid (Below wc.heap.size wc wx))
      case first =>
        have e0 := (cells_of G1.out).1
        have l0 : wx1.heap.size < wc.heap.size := (Array.getElem?_eq_some_iff.1 G1.out).1
        have e1 := (cells_of P1.out).1
        have l1 : w.heap.size + 1 < wc.heap.size := (Array.getElem?_eq_some_iff.1 P1.out).1
        have SK : Hid (∀ W', Below wc.heap.size wc W' → W'.cell? ⟨wx1.heap.size, 0, none⟩ = some (.int .i64 posb) ∧ W'.cell? ⟨wx1.heap.size, 1, none⟩ = some (.slice uregsbx regsb.length cregsbx) ∧ W'.cell? ⟨wx1.heap.size, 2, none⟩ = some (.slice uslotsbx slotsb.length cslotsbx) ∧ W'.cell? ⟨wx1.heap.size, 3, none⟩ = some (.slice umembx memb.length cmembx) ∧ W'.cell? ⟨wx1.heap.size, 4, none⟩ = some (.slice uinputbx inputb.length cinputbx) ∧ W'.cell? ⟨wx1.heap.size, 5, none⟩ = some (.slice uoutbx outb.length coutbx) ∧ W'.cell? ⟨wx1.heap.size, 6, none⟩ = some (.int .i64 codeb) ∧ W'.cell? ⟨wx1.heap.size, 7, none⟩ = some (.bool overb) ∧ W'.cell? ⟨wx1.heap.size, 8, none⟩ = some (.int .i64 valb) ∧ W'.cell? ⟨w.heap.size + 1, 0, none⟩ = some (.int .i64 posb) ∧ W'.cell? ⟨w.heap.size + 1, 1, none⟩ = some (.slice uregsb1 regsb.length cregsb1) ∧ W'.cell? ⟨w.heap.size + 1, 2, none⟩ = some (.slice uslotsb1 slotsb.length cslotsb1) ∧ W'.cell? ⟨w.heap.size + 1, 3, none⟩ = some (.slice umemb1 memb.length cmemb1) ∧ W'.cell? ⟨w.heap.size + 1, 4, none⟩ = some (.slice uinputb1 inputb.length cinputb1) ∧ W'.cell? ⟨w.heap.size + 1, 5, none⟩ = some (.slice uoutb1 outb.length coutb1) ∧ W'.cell? ⟨w.heap.size + 1, 6, none⟩ = some (.int .i64 codeb) ∧ W'.cell? ⟨w.heap.size + 1, 7, none⟩ = some (.bool overb) ∧ W'.cell? ⟨w.heap.size + 1, 8, none⟩ = some (.int .i64 valb)) := fun W' h => ⟨(h.cell (p := ⟨wx1.heap.size, 0, none⟩) l0).trans (e0 0), (h.cell (p := ⟨wx1.heap.size, 1, none⟩) l0).trans (e0 1), (h.cell (p := ⟨wx1.heap.size, 2, none⟩) l0).trans (e0 2), (h.cell (p := ⟨wx1.heap.size, 3, none⟩) l0).trans (e0 3), (h.cell (p := ⟨wx1.heap.size, 4, none⟩) l0).trans (e0 4), (h.cell (p := ⟨wx1.heap.size, 5, none⟩) l0).trans (e0 5), (h.cell (p := ⟨wx1.heap.size, 6, none⟩) l0).trans (e0 6), (h.cell (p := ⟨wx1.heap.size, 7, none⟩) l0).trans (e0 7), (h.cell (p := ⟨wx1.heap.size, 8, none⟩) l0).trans (e0 8), (h.cell (p := ⟨w.heap.size + 1, 0, none⟩) l1).trans (e1 0), (h.cell (p := ⟨w.heap.size + 1, 1, none⟩) l1).trans (e1 1), (h.cell (p := ⟨w.heap.size + 1, 2, none⟩) l1).trans (e1 2), (h.cell (p := ⟨w.heap.size + 1, 3, none⟩) l1).trans (e1 3), (h.cell (p := ⟨w.heap.size + 1, 4, none⟩) l1).trans (e1 4), (h.cell (p := ⟨w.heap.size + 1, 5, none⟩) l1).trans (e1 5), (h.cell (p := ⟨w.heap.size + 1, 6, none⟩) l1).trans (e1 6), (h.cell (p := ⟨w.heap.size + 1, 7, none⟩) l1).trans (e1 7), (h.cell (p := ⟨w.heap.size + 1, 8, none⟩) l1).trans (e1 8)⟩
        clear e0 l0 e1 l1
        go_region_held3 (fun W' => W'.cell? ⟨wx1.heap.size, 0, none⟩ = some (.int .i64 posb) ∧ W'.cell? ⟨wx1.heap.size, 1, none⟩ = some (.slice uregsbx regsb.length cregsbx) ∧ W'.cell? ⟨wx1.heap.size, 2, none⟩ = some (.slice uslotsbx slotsb.length cslotsbx) ∧ W'.cell? ⟨wx1.heap.size, 3, none⟩ = some (.slice umembx memb.length cmembx) ∧ W'.cell? ⟨wx1.heap.size, 4, none⟩ = some (.slice uinputbx inputb.length cinputbx) ∧ W'.cell? ⟨wx1.heap.size, 5, none⟩ = some (.slice uoutbx outb.length coutbx) ∧ W'.cell? ⟨wx1.heap.size, 6, none⟩ = some (.int .i64 codeb) ∧ W'.cell? ⟨wx1.heap.size, 7, none⟩ = some (.bool overb) ∧ W'.cell? ⟨wx1.heap.size, 8, none⟩ = some (.int .i64 valb) ∧ W'.cell? ⟨w.heap.size + 1, 0, none⟩ = some (.int .i64 posb) ∧ W'.cell? ⟨w.heap.size + 1, 1, none⟩ = some (.slice uregsb1 regsb.length cregsb1) ∧ W'.cell? ⟨w.heap.size + 1, 2, none⟩ = some (.slice uslotsb1 slotsb.length cslotsb1) ∧ W'.cell? ⟨w.heap.size + 1, 3, none⟩ = some (.slice umemb1 memb.length cmemb1) ∧ W'.cell? ⟨w.heap.size + 1, 4, none⟩ = some (.slice uinputb1 inputb.length cinputb1) ∧ W'.cell? ⟨w.heap.size + 1, 5, none⟩ = some (.slice uoutb1 outb.length coutb1) ∧ W'.cell? ⟨w.heap.size + 1, 6, none⟩ = some (.int .i64 codeb) ∧ W'.cell? ⟨w.heap.size + 1, 7, none⟩ = some (.bool overb) ∧ W'.cell? ⟨w.heap.size + 1, 8, none⟩ = some (.int .i64 valb)) (first | exact SK.out _ (Below.refl _ _).drew | exact SK.out _ HBb.out | exact SK.out _ HBa.out) (first
            | (go_at_call 8; refine (TO1.out _ HW.out.drew).mono ?_; rintro yya wya ⟨uregsby, cregsby, uslotsby, cslotsby, umemby, cmemby, uinputby, cinputby, uoutby, coutby, rfl, hxa, bela⟩; have HY := hideP hxa; have HBa := hideP ((Below.refl wc.heap.size wc).drew.trans (bela.mono (Nat.le_refl _))); clear bela hxa)
            | (go_at_call 11; refine (eqCpu_same (⟨posb, regsb, slotsb, memb, inputb, outb, codeb, overb, valb⟩ : Cp) _ _ _ _ _ (CpKeeps.stays HX1.out HBa.out) HY.out).mono ?_; rintro yyb wyb ⟨rfl, belb⟩; have HBb := hideP (HBa.out.trans (belb.mono HBa.out.size)); clear belb))
        all_goals (go_wp2_with fail; go_meet; exact ⟨rfl, HBb⟩)
      case rest =>
      obtain ⟨rfl, hc⟩ := hcut
      replace HW := hideP (below_trans HW.out hc.out)
      replace P0 := hideP (keep P0.out hc.out)
      replace P1 := hideP (keep P1.out hc.out)
      replace G0 := hideP (keep G0.out hc.out)
      replace HX0 := hideP (ImgKeeps.stays HX0.out hc.out)
      replace G1 := hideP (keep G1.out hc.out)
      replace HX1 := hideP (CpKeeps.stays HX1.out hc.out)
      clear hc
      obtain ⟨wd, hwd⟩ : ∃ wd, wc = wd := ⟨_, rfl⟩
      subst hwd
      go_wp2
      go_ret
      exact ⟨rfl, HW.out⟩
    · have E0 := hideP (szR_pos hp0)
      have HL1 := hideP hL1
      have E1 := hideP (szR_neg (Nat.lt_of_not_le hp1))
      clear hp0 hp1 h0 h1 hL1
      go_enter Try.func3, Try.ntmps3
      go_wp2_with fail
      refine (SP0.out _ (below2 w _ _)).mono ?_
      rintro y0 wz0 ⟨rfl, belz⟩
      rw [E0.out, HL1.out]
      obtain ⟨q1, q2, _, hw⟩ := two belz
      have HW := hideP hw
      have P0 := hideP q1
      have P1 := hideP q2
      clear q1 q2 hw belz SP0 E0
      have f0 := (cells_of P1.out).1 0
      have f1 := (cells_of P1.out).1 1
      have f2 := (cells_of P1.out).1 2
      have f3 := (cells_of P1.out).1 3
      have f4 := (cells_of P1.out).1 4
      have f5 := (cells_of P1.out).1 5
      have f6 := (cells_of P1.out).1 6
      have f7 := (cells_of P1.out).1 7
      have f8 := (cells_of P1.out).1 8
      simp at f0 f1 f2 f3 f4 f5 f6 f7 f8
      go_wp2_with fail
      refine (SP1.out _ HW.out).mono ?_
      rintro y1 wz1 ⟨rfl, belz⟩
      rw [E1.out]
      replace HW := hideP (below_trans HW.out belz)
      replace P0 := hideP (keep P0.out belz)
      replace P1 := hideP (keep P1.out belz)
      clear belz SP1 E1 f0 f1 f2 f3 f4 f5 f6 f7 f8
      go_wp2
      go_ret
      exact ⟨rfl, HW.out⟩
  · have E0 := hideP (szR_neg (Nat.lt_of_not_le hp0))
    clear hp0 h0 h1 
    go_enter Try.func3, Try.ntmps3
    go_wp2_with fail
    refine (SP0.out _ (below2 w _ _)).mono ?_
    rintro y0 wz0 ⟨rfl, belz⟩
    rw [E0.out]
    obtain ⟨q1, q2, _, hw⟩ := two belz
    have HW := hideP hw
    have P0 := hideP q1
    have P1 := hideP q2
    clear q1 q2 hw belz SP0 E0
    go_wp2
    go_ret
    exact ⟨rfl, HW.out⟩
end CpuOkLaw
end Go.Proofs.Ytpbmnajlkgjkfaa
