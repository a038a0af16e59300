/- The walk of the law FnExactExec (written by wip/mkexew.py). -/
import Derived.Test.YtpkfbabgcinhhaaDoorExeQ
import Derived.Test.YtpkfbabgcinhhaaDoorCeM
import Derived.Test.YtpkfbabgcinhhaaDoorCkE
import Derived.Test.YtpkfbabgcinhhaaDoorCkO
import Derived.Deep.CutRange
import Derived.Deep.RegionHeld3
namespace Go.Proofs.YtpkfbabgcinhhaaDoor
open Go.ChangeShapes Go.WideShapes Go.ChangeAt Go.RowKit
namespace ExecLaw
theorem keep {W W' : World} {b : Nat} {o : Obj} (h : W.heap[b]? = some o) (bel : Below W.heap.size W W') : W'.heap[b]? = some o := (bel.block b (Array.getElem?_eq_some_iff.1 h).1).trans h
theorem blk_new (w : World) (o : Obj) : (w.alloc o).heap[w.heap.size]? = some o := by show (w.heap.push o)[w.heap.size]? = _; exact Array.getElem?_push_size
theorem pos_of {W : World} {b : Nat} {o : Obj} (h : W.heap[b]? = some o) : 0 < W.heap.size := Nat.lt_of_le_of_lt (Nat.zero_le _) (Array.getElem?_eq_some_iff.1 h).1
set_option maxRecDepth 100000 in
set_option maxHeartbeats 16000000 in
theorem walk (x0 : Img) (v0 : Array Value) (La : List Int) (u1 : Option Addr) (k1 : Nat) (Lb : List Int) (u2 : Option Addr) (k2 : Nat) (n0 : Int) (w : World) (h0 : ImgIs w 0 v0 x0) (hL1 : IntsIs w 0 u1 La) (hL2 : IntsIs w 0 u2 Lb) (hv : VarsC w) :
    Calls Tryd.prog 3 #[.agg v0, .slice u1 La.length k1, .slice u2 Lb.length k2, .int .i64 n0] w fun en w' => en = .returned (.bool true) ∧ Below w.heap.size w w' := by
  obtain ⟨sizesa, paramsa, slotsa, codea⟩ := x0
  have g0 := h0
  obtain ⟨usizesa1, csizesa1, ucodea1, ccodea1, rfl, _⟩ := g0
  simp only at *
  have HV := hideP hv
  have H1 := hideP hL1
  have H2 := hideP hL2
  have hmL := maxLen_lt
  have hl1 := hL1.1
  have hl2 := hL2.1
  clear hL1 hL2 hv
  rcases Nat.lt_or_ge 1048576 La.length with hA | hA
  · have hAn : (1048576 : Int) < (La.length : Int) := by omega
    go_enter Tryd.func3, Tryd.ntmps3
    go_wp2
    go_ret
    exact ⟨rfl, (Below.refl _ _).alloc (Nat.le_refl _) _⟩
  have hAn : ¬ (1048576 : Int) < (La.length : Int) := by omega
  rcases Nat.lt_or_ge 1048576 Lb.length with hB | hB
  · have hBn : (1048576 : Int) < (Lb.length : Int) := by omega
    go_enter Tryd.func3, Tryd.ntmps3
    go_wp2
    go_ret
    exact ⟨rfl, (Below.refl _ _).alloc (Nat.le_refl _) _⟩
  have hBn : ¬ (1048576 : Int) < (Lb.length : Int) := by omega
  have TO1 : Hid (∀ W, Below w.heap.size w W → Calls Tryd.prog 8 #[.slice u1 La.length k1] W fun en w' => ∃ g, en = .returned (.slice (some ⟨g, 0, none⟩) La.length La.length) ∧ IntsIs w' W.heap.size (some ⟨g, 0, none⟩) La ∧ Below W.heap.size W w') := fun W hW => toIntS_any La W 0 u1 k1 (H1.out.stays hW) hA
  have TO2 : Hid (∀ W, Below w.heap.size w W → Calls Tryd.prog 8 #[.slice u2 Lb.length k2] W fun en w' => ∃ g, en = .returned (.slice (some ⟨g, 0, none⟩) Lb.length Lb.length) ∧ IntsIs w' W.heap.size (some ⟨g, 0, none⟩) Lb ∧ Below W.heap.size W w') := fun W hW => toIntS_any Lb W 0 u2 k2 (H2.out.stays hW) hB
  have SP0 : Hid (∀ W, Below w.heap.size w W → _) := fun W hW => szImage_any (⟨sizesa, paramsa, slotsa, codea⟩ : Img) W 0 _ 1048576 (ImgKeeps.stays h0 hW) (by omega)
  by_cases hp0 : (⟨sizesa, paramsa, slotsa, codea⟩ : Img).sz ≤ 1048576
  · obtain ⟨L1, hL1⟩ : ∃ L, 1048576 - (⟨sizesa, paramsa, slotsa, codea⟩ : Img).sz = L := ⟨_, rfl⟩
    have TO0 := hideP (toImage_in w 0 _ h0 (by omega))
    have HSZ := hideP hp0
    obtain ⟨R, hl⟩ : ∃ R, execE (⟨sizesa, paramsa, slotsa, codea⟩ : Img) La Lb n0 = R := ⟨_, rfl⟩
    have hlen : Hid (R.out.length ≤ 1048576) := by rw [← hl]; exact execE_out _ _ _ _
    have SO : Hid (∀ W A0 x0 A1 a1 A2 a2, Below w.heap.size w W → ImgIs W A0 x0 (⟨sizesa, paramsa, slotsa, codea⟩ : Img) → IntsIs W A1 a1 La → IntsIs W A2 a2 Lb → Calls Tryd.prog 6 #[.agg x0, .slice a1 La.length La.length, .slice a2 Lb.length Lb.length, .int .i64 n0] W fun en w' => ∃ v', en = .returned (.agg #[.int .i64 R.code, .int .i64 R.val, v']) ∧ LiZ w' W.heap.size w'.heap.size v' R.out ∧ Below W.heap.size W w') := fun W A0 x0 A1 a1 A2 a2 hbw y0 y1 y2 => by rw [← hl]; exact spec_exec _ _ _ n0 W A0 x0 A1 a1 A2 a2 _ y0 y1 y2 hB
    have IO : Hid (∀ W A0 x0 A1 a1 A2 a2, Below w.heap.size w W → ImgIs W A0 x0 (⟨sizesa, paramsa, slotsa, codea⟩ : Img) → IntsIs W A1 a1 La → IntsIs W A2 a2 Lb → 0 < A0 → Calls Tryd.prog 9 #[.agg x0, .slice a1 La.length La.length, .slice a2 Lb.length Lb.length, .int .i64 n0] W fun en w' => ∃ v', en = .returned (.agg #[.int .i64 R.code, .int .i64 R.val, v']) ∧ LiZ w' W.heap.size w'.heap.size v' R.out ∧ Below W.heap.size W w') := fun W A0 x0 A1 a1 A2 a2 hbw y0 y1 y2 hpos => by rw [← hl]; exact impl_exec _ _ _ n0 W A0 x0 A1 a1 A2 a2 _ y0 y1 y2 hB (HV.out.stays hbw)
    have E0 := hideP (szR_pos hp0)
    have HL1 := hideP hL1
    clear hl hp0 h0 hL1
    obtain ⟨rc, rv, ro⟩ := R
    simp only at SO IO hlen
    go_enter Tryd.func3, Tryd.ntmps3
    go_wp2_with fail
    refine (SP0.out _ ((Below.refl _ _).alloc (Nat.le_refl _) _)).mono ?_
    rintro y0 wz0 ⟨rfl, belz⟩
    rw [E0.out, HL1.out]
    have P0 := hideP (keep (blk_new w _) belz)
    have HW := hideP (below_new belz)
    clear belz SP0 E0
    have p0 := (cells_of P0.out).1 0
    have p1 := (cells_of P0.out).1 1
    have p2 := (cells_of P0.out).1 2
    have p3 := (cells_of P0.out).1 3
    simp at p0 p1 p2 p3
    go_wp2_with fail
    refine (TO0.out _ HW.out).mono ?_
    rintro y3 w3 ⟨usizesa3, csizesa3, ucodea3, ccodea3, rfl, hx3, bel3⟩
    replace HW := hideP (below_trans HW.out bel3)
    replace P0 := hideP (keep P0.out bel3)
    have HX3 := hideP hx3
    clear hx3 bel3 p0 p1 p2 p3
    go_wp2_with fail
    refine (TO1.out _ HW.out).mono ?_
    rintro yls1 wls1 ⟨gls1, rfl, hls1, bls1⟩
    replace HW := hideP (below_trans HW.out bls1)
    replace P0 := hideP (keep P0.out bls1)
    replace HX3 := hideP (ImgKeeps.stays HX3.out bls1)
    have Hs1 := hideP hls1
    clear hls1 bls1
    go_wp2_with fail
    refine (TO2.out _ HW.out).mono ?_
    rintro yls2 wls2 ⟨gls2, rfl, hls2, bls2⟩
    replace HW := hideP (below_trans HW.out bls2)
    replace P0 := hideP (keep P0.out bls2)
    replace HX3 := hideP (ImgKeeps.stays HX3.out bls2)
    replace Hs1 := hideP (Hs1.out.stays bls2)
    have Hs2 := hideP hls2
    clear hls2 bls2
    go_wp2_with fail
    refine (SO.out _ _ _ _ _ _ _ HW.out HX3.out Hs1.out Hs2.out).mono ?_
    rintro y4 w4 ⟨v4, rfl, o4, bel4⟩
    replace HW := hideP (below_trans HW.out bel4)
    replace P0 := hideP (keep P0.out bel4)
    obtain ⟨u4_, c4_, rfl, _⟩ := id o4
    have al4 := (Below.refl w4.heap.size w4).alloc (Nat.le_refl _) (.cells #[.int .i64 rc, .int .i64 rv, .slice u4_ ro.length c4_] 28)
    have HS := hideP ((o4.stays al4).en rc rv)
    have E4 := hideP (blk_new w4 (.cells #[.int .i64 rc, .int .i64 rv, .slice u4_ ro.length c4_] 28))
    replace HW := hideP (below_trans HW.out al4)
    replace P0 := hideP (keep P0.out al4)
    have BS := hideP (Below.refl (w4.alloc (.cells #[.int .i64 rc, .int .i64 rv, .slice u4_ ro.length c4_] 28)).heap.size (w4.alloc (.cells #[.int .i64 rc, .int .i64 rv, .slice u4_ ro.length c4_] 28)))
    have hpos : Hid (0 < (w4.alloc (.cells #[.int .i64 rc, .int .i64 rv, .slice u4_ ro.length c4_] 28)).heap.size) := pos_of P0.out
    have LP : Hid (w.heap.size < (w4.alloc (.cells #[.int .i64 rc, .int .i64 rv, .slice u4_ ro.length c4_] 28)).heap.size) := (Array.getElem?_eq_some_iff.1 P0.out).1
    clear o4 bel4 HX3 SO al4 Hs1 Hs2
    go_upto_region 10 with fail
    obtain ⟨wS, hwS⟩ : ∃ wS, w4.alloc (.cells #[.int .i64 rc, .int .i64 rv, .slice u4_ ro.length c4_] 28) = wS := ⟨_, rfl⟩
    rw [hwS] at HS E4 BS P0 HW hpos LP ⊢
    clear hwS
    have p0 := (cells_of P0.out).1 0
    have p1 := (cells_of P0.out).1 1
    have p2 := (cells_of P0.out).1 2
    have p3 := (cells_of P0.out).1 3
    simp at p0 p1 p2 p3
    go_wp2_with fail
    refine (TO0.out _ HW.out).mono ?_
    rintro yx0 wx0 ⟨usizesax, csizesax, ucodeax, ccodeax, rfl, hx, bel⟩
    replace HW := hideP (below_trans HW.out bel)
    replace P0 := hideP (keep P0.out bel)
    replace BS := hideP (below_trans BS.out bel)
    have LX : Hid (wS.heap.size ≤ wx0.heap.size) := bel.size
    have al := (Below.refl wx0.heap.size wx0).alloc (Nat.le_refl _) (.cells #[.slice usizesax sizesa.length csizesax, .int .i64 paramsa, .int .i64 slotsa, .slice ucodeax codea.length ccodeax] 32)
    have G0 := hideP (blk_new wx0 (.cells #[.slice usizesax sizesa.length csizesax, .int .i64 paramsa, .int .i64 slotsa, .slice ucodeax codea.length ccodeax] 32))
    have HX0 := hideP (ImgKeeps.stays hx al)
    have RM := hideP ((ImgRoom.of hx hpos.out).stays al)
    replace HW := hideP (below_trans HW.out al)
    replace P0 := hideP (keep P0.out al)
    replace BS := hideP (below_trans BS.out al)
    clear hx bel al p0 p1 p2 p3
    go_wp2_with fail
    refine (TO1.out _ HW.out).mono ?_
    rintro ylx1 wlx1 ⟨glx1, rfl, hlx1, blx1⟩
    replace HW := hideP (below_trans HW.out blx1)
    replace P0 := hideP (keep P0.out blx1)
    replace BS := hideP (below_trans BS.out blx1)
    replace G0 := hideP (keep G0.out blx1)
    replace HX0 := hideP (ImgKeeps.stays HX0.out blx1)
    replace RM := hideP (RM.out.stays blx1)
    obtain ⟨BL, hlx1, hBL1, hBL2⟩ : ∃ BL, IntsIs wlx1 BL (some ⟨glx1, 0, none⟩) La ∧ wx0.heap.size < BL ∧ BL ≤ wlx1.heap.size := ⟨_, hlx1, by simp, blx1.size⟩
    have RL1 := hideP (IntRoom.of hlx1 (by omega))
    have LB1 : Hid (wx0.heap.size < BL) := hBL1
    have LB2 : Hid (BL ≤ wlx1.heap.size) := hBL2
    clear hBL1 hBL2
    have Hx1 := hideP hlx1
    clear hlx1 blx1
    go_wp2_with fail
    refine (TO2.out _ HW.out).mono ?_
    rintro ylx2 wlx2 ⟨glx2, rfl, hlx2, blx2⟩
    replace HW := hideP (below_trans HW.out blx2)
    replace P0 := hideP (keep P0.out blx2)
    replace BS := hideP (below_trans BS.out blx2)
    replace G0 := hideP (keep G0.out blx2)
    replace HX0 := hideP (ImgKeeps.stays HX0.out blx2)
    replace RM := hideP (RM.out.stays blx2)
    replace Hx1 := hideP (Hx1.out.stays blx2)
    replace RL1 := hideP (RL1.out.stays blx2)
    have RL2 := hideP (IntRoom.of hlx2 (by have := LB1.out; have := LB2.out; omega))
    have LB3 : Hid (wlx1.heap.size ≤ wlx2.heap.size) := blx2.size
    have LX3 : Hid (wx0.heap.size + 1 ≤ wlx2.heap.size) := by have := LB1.out; have := LB2.out; have := LB3.out; show _ ≤ _; omega
    have Hx2 := hideP hlx2
    clear hlx2 blx2
    have g0_0 := (cells_of G0.out).1 0
    have g0_1 := (cells_of G0.out).1 1
    have g0_2 := (cells_of G0.out).1 2
    have g0_3 := (cells_of G0.out).1 3
    simp at g0_0 g0_1 g0_2 g0_3
    go_wp2_with fail
    refine (IO.out _ _ _ _ _ _ _ HW.out HX0.out Hx1.out Hx2.out hpos.out).mono ?_
    rintro y8 w8 ⟨v8, rfl, o8, bel8⟩
    replace HW := hideP (below_trans HW.out bel8)
    replace P0 := hideP (keep P0.out bel8)
    replace BS := hideP (below_trans BS.out bel8)
    replace G0 := hideP (keep G0.out bel8)
    replace HX0 := hideP (ImgKeeps.stays HX0.out bel8)
    replace RM := hideP (RM.out.stays bel8)
    replace Hx1 := hideP (Hx1.out.stays bel8)
    replace Hx2 := hideP (Hx2.out.stays bel8)
    replace RL1 := hideP (RL1.out.stays bel8)
    replace RL2 := hideP (RL2.out.stays bel8)
    obtain ⟨u8_, c8_, rfl, _⟩ := id o8
    have al8 := (Below.refl w8.heap.size w8).alloc (Nat.le_refl _) (.cells #[.int .i64 rc, .int .i64 rv, .slice u8_ ro.length c8_] 28)
    have L8b : Hid (wlx2.heap.size ≤ w8.heap.size) := bel8.size
    have L8 : Hid (wx0.heap.size < w8.heap.size) := by have := L8b.out; have := LX3.out; show _ < _; omega
    have HO := hideP (o8.stays al8)
    have G1 := hideP (blk_new w8 (.cells #[.int .i64 rc, .int .i64 rv, .slice u8_ ro.length c8_] 28))
    replace HW := hideP (below_trans HW.out al8)
    replace P0 := hideP (keep P0.out al8)
    replace BS := hideP (below_trans BS.out al8)
    replace G0 := hideP (keep G0.out al8)
    replace HX0 := hideP (ImgKeeps.stays HX0.out al8)
    replace RM := hideP (RM.out.stays al8)
    replace Hx1 := hideP (Hx1.out.stays al8)
    replace Hx2 := hideP (Hx2.out.stays al8)
    replace RL1 := hideP (RL1.out.stays al8)
    replace RL2 := hideP (RL2.out.stays al8)
    clear o8 bel8 al8 g0_0 g0_1 g0_2 g0_3
    go_upto_region 14 with fail
    obtain ⟨wI, hwI⟩ : ∃ wI, w8.alloc (.cells #[.int .i64 rc, .int .i64 rv, .slice u8_ ro.length c8_] 28) = wI := ⟨_, rfl⟩
    rw [hwI] at P0 BS G0 HX0 RM Hx1 Hx2 RL1 RL2 G1 HO HW ⊢
    clear hwI
    have D0 := keep E4.out BS.out
    have d0 := (cells_of D0).1 0
    have d1 := (cells_of D0).1 1
    have d2 := (cells_of D0).1 2
    simp at d0 d1 d2
    clear D0
    have e0 := (cells_of G1.out).1 0
    have e1 := (cells_of G1.out).1 1
    have e2 := (cells_of G1.out).1 2
    simp at e0 e1 e2
    go_wp2_with fail
    refine (eqEnd_any (⟨rc, rv, ro⟩ : En) _ _ _ _ _ (HO.out.en rc rv) (HS.out.stays BS.out)).mono ?_
    rintro y9 w9 ⟨rfl, bel9⟩
    replace HW := hideP (below_trans HW.out bel9)
    replace P0 := hideP (keep P0.out bel9)
    replace BS := hideP (below_trans BS.out bel9)
    replace G0 := hideP (keep G0.out bel9)
    replace HX0 := hideP (ImgKeeps.stays HX0.out bel9)
    replace RM := hideP (RM.out.stays bel9)
    replace Hx1 := hideP (Hx1.out.stays bel9)
    replace Hx2 := hideP (Hx2.out.stays bel9)
    replace RL1 := hideP (RL1.out.stays bel9)
    replace RL2 := hideP (RL2.out.stays bel9)
    replace G1 := hideP (keep G1.out bel9)
    replace HO := hideP (HO.out.stays bel9)
    clear bel9 d0 d1 d2 e0 e1 e2
    go_upto_region 16 with fail
    go_cut [57] from 53 to 57 (fun sx wx => sx = .bool false ∧ Hid (Below w9.heap.size w9 wx))
    case first =>
      have e0 := (cells_of G0.out).1
      have l0 : wx0.heap.size < w9.heap.size := (Array.getElem?_eq_some_iff.1 G0.out).1
      have e1 := (cells_of P0.out).1
      have l1 : w.heap.size < w9.heap.size := (Array.getElem?_eq_some_iff.1 P0.out).1
      have SK : Hid (∀ W', Below w9.heap.size w9 W' → W'.cell? ⟨wx0.heap.size, 0, none⟩ = some (.slice usizesax sizesa.length csizesax) ∧ W'.cell? ⟨wx0.heap.size, 1, none⟩ = some (.int .i64 paramsa) ∧ W'.cell? ⟨wx0.heap.size, 2, none⟩ = some (.int .i64 slotsa) ∧ W'.cell? ⟨wx0.heap.size, 3, none⟩ = some (.slice ucodeax codea.length ccodeax) ∧ W'.cell? ⟨w.heap.size, 0, none⟩ = some (.slice usizesa1 sizesa.length csizesa1) ∧ W'.cell? ⟨w.heap.size, 1, none⟩ = some (.int .i64 paramsa) ∧ W'.cell? ⟨w.heap.size, 2, none⟩ = some (.int .i64 slotsa) ∧ W'.cell? ⟨w.heap.size, 3, none⟩ = some (.slice ucodea1 codea.length ccodea1)) := fun W' h => ⟨(h.cell (p := ⟨wx0.heap.size, 0, none⟩) l0).trans (e0 0), (h.cell (p := ⟨wx0.heap.size, 1, none⟩) l0).trans (e0 1), (h.cell (p := ⟨wx0.heap.size, 2, none⟩) l0).trans (e0 2), (h.cell (p := ⟨wx0.heap.size, 3, none⟩) l0).trans (e0 3), (h.cell (p := ⟨w.heap.size, 0, none⟩) l1).trans (e1 0), (h.cell (p := ⟨w.heap.size, 1, none⟩) l1).trans (e1 1), (h.cell (p := ⟨w.heap.size, 2, none⟩) l1).trans (e1 2), (h.cell (p := ⟨w.heap.size, 3, none⟩) l1).trans (e1 3)⟩
      clear e0 l0 e1 l1
      go_region_held3 (fun W' => W'.cell? ⟨wx0.heap.size, 0, none⟩ = some (.slice usizesax sizesa.length csizesax) ∧ W'.cell? ⟨wx0.heap.size, 1, none⟩ = some (.int .i64 paramsa) ∧ W'.cell? ⟨wx0.heap.size, 2, none⟩ = some (.int .i64 slotsa) ∧ W'.cell? ⟨wx0.heap.size, 3, none⟩ = some (.slice ucodeax codea.length ccodeax) ∧ W'.cell? ⟨w.heap.size, 0, none⟩ = some (.slice usizesa1 sizesa.length csizesa1) ∧ W'.cell? ⟨w.heap.size, 1, none⟩ = some (.int .i64 paramsa) ∧ W'.cell? ⟨w.heap.size, 2, none⟩ = some (.int .i64 slotsa) ∧ W'.cell? ⟨w.heap.size, 3, none⟩ = some (.slice ucodea1 codea.length ccodea1)) (first | exact SK.out _ (Below.refl _ _).drew | exact SK.out _ HBb.out | exact SK.out _ HBa.out) (first
          | (go_at_call 7; refine (TO0.out _ HW.out.drew).mono ?_; rintro yya wya ⟨usizesay, csizesay, ucodeay, ccodeay, rfl, hxa, bela⟩; have HY := hideP hxa; have HBa := hideP ((Below.refl w9.heap.size w9).drew.trans (bela.mono (Nat.le_refl _))); clear bela hxa)
          | (go_at_call 11; refine (eqImage_same (⟨sizesa, paramsa, slotsa, codea⟩ : Img) _ _ _ _ _ (ImgKeeps.stays HX0.out HBa.out) HY.out).mono ?_; rintro yyb wyb ⟨rfl, belb⟩; have HBb := hideP (HBa.out.trans (belb.mono HBa.out.size)); clear belb))
      all_goals (go_wp2_with fail; go_meet; exact ⟨rfl, HBb⟩)
    case rest =>
    obtain ⟨rfl, hc⟩ := hcut
    replace HW := hideP (below_trans HW.out hc.out)
    replace P0 := hideP (keep P0.out hc.out)
    replace BS := hideP (below_trans BS.out hc.out)
    replace G0 := hideP (keep G0.out hc.out)
    replace HX0 := hideP (ImgKeeps.stays HX0.out hc.out)
    replace RM := hideP (RM.out.stays hc.out)
    replace Hx1 := hideP (Hx1.out.stays hc.out)
    replace Hx2 := hideP (Hx2.out.stays hc.out)
    replace RL1 := hideP (RL1.out.stays hc.out)
    replace RL2 := hideP (RL2.out.stays hc.out)
    replace G1 := hideP (keep G1.out hc.out)
    replace HO := hideP (HO.out.stays hc.out)
    clear hc
    obtain ⟨wd, hwd⟩ : ∃ wd, wc = wd := ⟨_, rfl⟩
    subst hwd
    clear HX0
    go_wp2_with fail
    refine (TO1.out _ HW.out).mono ?_
    rintro ylz1 wlz1 ⟨glz1, rfl, hlz1, blz1⟩
    replace HW := hideP (below_trans HW.out blz1)
    replace P0 := hideP (keep P0.out blz1)
    replace BS := hideP (below_trans BS.out blz1)
    replace G0 := hideP (keep G0.out blz1)
    replace RM := hideP (RM.out.stays blz1)
    replace G1 := hideP (keep G1.out blz1)
    replace HO := hideP (HO.out.stays blz1)
    replace Hx1 := hideP (Hx1.out.stays blz1)
    replace Hx2 := hideP (Hx2.out.stays blz1)
    replace RL1 := hideP (RL1.out.stays blz1)
    replace RL2 := hideP (RL2.out.stays blz1)
    have Hz1 := hideP hlz1
    clear hlz1 blz1
    go_wp2_with fail
    refine (eqIntS_same La _ _ _ _ _ _ _ Hx1.out Hz1.out).mono ?_
    rintro yez1 wez1 ⟨rfl, bez1⟩
    replace HW := hideP (below_trans HW.out bez1)
    replace P0 := hideP (keep P0.out bez1)
    replace BS := hideP (below_trans BS.out bez1)
    replace G0 := hideP (keep G0.out bez1)
    replace RM := hideP (RM.out.stays bez1)
    replace G1 := hideP (keep G1.out bez1)
    replace HO := hideP (HO.out.stays bez1)
    replace Hx1 := hideP (Hx1.out.stays bez1)
    replace Hx2 := hideP (Hx2.out.stays bez1)
    replace RL1 := hideP (RL1.out.stays bez1)
    replace RL2 := hideP (RL2.out.stays bez1)
    clear bez1 Hz1
    go_wp2_with fail
    refine (TO2.out _ HW.out).mono ?_
    rintro ylz2 wlz2 ⟨glz2, rfl, hlz2, blz2⟩
    replace HW := hideP (below_trans HW.out blz2)
    replace P0 := hideP (keep P0.out blz2)
    replace BS := hideP (below_trans BS.out blz2)
    replace G0 := hideP (keep G0.out blz2)
    replace RM := hideP (RM.out.stays blz2)
    replace G1 := hideP (keep G1.out blz2)
    replace HO := hideP (HO.out.stays blz2)
    replace Hx1 := hideP (Hx1.out.stays blz2)
    replace Hx2 := hideP (Hx2.out.stays blz2)
    replace RL1 := hideP (RL1.out.stays blz2)
    replace RL2 := hideP (RL2.out.stays blz2)
    have Hz2 := hideP hlz2
    clear hlz2 blz2
    go_wp2_with fail
    refine (eqIntS_same Lb _ _ _ _ _ _ _ Hx2.out Hz2.out).mono ?_
    rintro yez2 wez2 ⟨rfl, bez2⟩
    replace HW := hideP (below_trans HW.out bez2)
    replace P0 := hideP (keep P0.out bez2)
    replace BS := hideP (below_trans BS.out bez2)
    replace G0 := hideP (keep G0.out bez2)
    replace RM := hideP (RM.out.stays bez2)
    replace G1 := hideP (keep G1.out bez2)
    replace HO := hideP (HO.out.stays bez2)
    replace Hx1 := hideP (Hx1.out.stays bez2)
    replace Hx2 := hideP (Hx2.out.stays bez2)
    replace RL1 := hideP (RL1.out.stays bez2)
    replace RL2 := hideP (RL2.out.stays bez2)
    clear bez2 Hz2
    clear Hx1 Hx2
    have g0_0 := (cells_of G0.out).1 0
    have g0_1 := (cells_of G0.out).1 1
    have g0_2 := (cells_of G0.out).1 2
    have g0_3 := (cells_of G0.out).1 3
    simp at g0_0 g0_1 g0_2 g0_3
    have LG : Hid (w8.heap.size < wez2.heap.size) := (Array.getElem?_eq_some_iff.1 G1.out).1
    go_wp2_with fail
    refine (markImage_roomK (⟨sizesa, paramsa, slotsa, codea⟩ : Img) _ _ _ _ RM.out (by have := LG.out; have := L8.out; omega) HSZ.out).mono ?_
    rintro ym wm ⟨km, rfl, hkb, om⟩
    have hup : ∀ k, wx0.heap.size + 1 ≤ k → k < wez2.heap.size → wm.heap[k]? = wez2.heap[k]? := fun k h1 h2 => om.out k h2 (Or.inr (by omega))
    have hbl := om.below (by have := LX.out; have := LG.out; have := L8.out; omega)
    replace HW := hideP (HW.out.trans (hbl.mono (Nat.le_of_lt LP.out)))
    replace P0 := hideP ((om.out w.heap.size (Array.getElem?_eq_some_iff.1 P0.out).1 (Or.inl LP.out)).trans P0.out)
    replace BS := hideP (BS.out.trans hbl)
    replace G1 := hideP ((hup w8.heap.size (by have := L8.out; omega) LG.out).trans G1.out)
    replace HO := hideP (HO.out.keep fun g h1 _ h3 => hup g (by have := LX3.out; omega) h3)
    replace RL1 := hideP (RL1.out.overE om)
    replace RL2 := hideP (RL2.out.overE om)
    have szm : Hid (wez2.heap.size ≤ wm.heap.size) := om.size
    have hkm : ¬ (km : Int) < 0 := by omega
    clear om RM G0 hup hbl g0_0 g0_1 g0_2 g0_3
    go_wp2_with fail
    refine (markIntS_roomW La.length _ _ _ (km) _ _ RL1.out (by omega)).mono ?_
    rintro ym1 wm1 ⟨rfl, om1⟩
    have hupm1 : ∀ k, wlx2.heap.size ≤ k → k < wm.heap.size → wm1.heap[k]? = wm.heap[k]? := fun k h1 h2 => om1.out k h2 (Or.inr (by have := LB3.out; omega))
    have hblm1 := om1.below (by have := LB1.out; have := LB2.out; have := LB3.out; have := L8b.out; have := LG.out; have := szm.out; omega)
    have sz1 : Hid (wm.heap.size ≤ wm1.heap.size) := om1.size
    replace HW := hideP (HW.out.trans (hblm1.mono (by have := LP.out; have := LX.out; have := LB1.out; omega)))
    replace P0 := hideP ((om1.out w.heap.size (Array.getElem?_eq_some_iff.1 P0.out).1 (Or.inl (by have := LP.out; have := LX.out; have := LB1.out; omega))).trans P0.out)
    replace BS := hideP (BS.out.trans (hblm1.mono (by have := LX.out; have := LB1.out; omega)))
    replace G1 := hideP ((hupm1 w8.heap.size L8b.out (Array.getElem?_eq_some_iff.1 G1.out).1).trans G1.out)
    replace HO := hideP (HO.out.keep fun g h1 _ h3 => hupm1 g h1 h3)
    replace RL2 := hideP (RL2.out.overE om1)
    clear om1 hupm1 hblm1
    clear RL1
    go_wp2_with fail
    refine (markIntS_roomW Lb.length _ _ _ (km + La.length) _ _ RL2.out (by omega)).mono ?_
    rintro ym2 wm2 ⟨rfl, om2⟩
    have hupm2 : ∀ k, wlx2.heap.size ≤ k → k < wm1.heap.size → wm2.heap[k]? = wm1.heap[k]? := fun k h1 h2 => om2.out k h2 (Or.inr (by skip; omega))
    have hblm2 := om2.below (by have := LB1.out; have := LB2.out; have := LB3.out; have := L8b.out; have := LG.out; have := szm.out; have := sz1.out; omega)
    have sz2 : Hid (wm1.heap.size ≤ wm2.heap.size) := om2.size
    replace HW := hideP (HW.out.trans (hblm2.mono (by have := LP.out; have := LX.out; have := LB1.out; have := LB2.out; omega)))
    replace P0 := hideP ((om2.out w.heap.size (Array.getElem?_eq_some_iff.1 P0.out).1 (Or.inl (by have := LP.out; have := LX.out; have := LB1.out; have := LB2.out; omega))).trans P0.out)
    replace BS := hideP (BS.out.trans (hblm2.mono (by have := LX.out; have := LB1.out; have := LB2.out; omega)))
    replace G1 := hideP ((hupm2 w8.heap.size L8b.out (Array.getElem?_eq_some_iff.1 G1.out).1).trans G1.out)
    replace HO := hideP (HO.out.keep fun g h1 _ h3 => hupm2 g h1 h3)
    clear om2 hupm2 hblm2
    clear RL2
    have hkm3 : ¬ ((km + La.length + Lb.length : Nat) : Int) < 0 := by omega
    have D0 := keep E4.out BS.out
    have d0 := (cells_of D0).1 0
    have d1 := (cells_of D0).1 1
    have d2 := (cells_of D0).1 2
    simp at d0 d1 d2
    clear D0
    have e0 := (cells_of G1.out).1 0
    have e1 := (cells_of G1.out).1 1
    have e2 := (cells_of G1.out).1 2
    simp at e0 e1 e2
    go_wp2_with fail
    refine (eqEnd_any (⟨rc, rv, ro⟩ : En) _ _ _ _ _ (HO.out.en rc rv) (HS.out.stays BS.out)).mono ?_
    rintro yn wn ⟨rfl, beln⟩
    have LN : Hid (w8.heap.size < wn.heap.size) := Nat.lt_of_lt_of_le (Array.getElem?_eq_some_iff.1 G1.out).1 beln.size
    replace HW := hideP (below_trans HW.out beln)
    replace P0 := hideP (keep P0.out beln)
    replace BS := hideP (below_trans BS.out beln)
    replace G1 := hideP (keep G1.out beln)
    replace HO := hideP (HO.out.stays beln)
    clear beln hkm hkm3 hkb d0 d1 d2 e0 e1 e2 LG
    have e0 := (cells_of G1.out).1 0
    have e1 := (cells_of G1.out).1 1
    have e2 := (cells_of G1.out).1 2
    simp at e0 e1 e2
    obtain ⟨Q, hQ⟩ : ∃ Q, 1 + ro.length = Q := ⟨_, rfl⟩
    have MG : Hid (∀ W, LiZ W wlx2.heap.size w8.heap.size (.slice u8_ ro.length c8_) ro → Calls Tryd.prog 15 #[.agg #[.int .i64 rc, .int .i64 rv, .slice u8_ ro.length c8_], .int .i64 1] W fun en w' => en = .returned (.int .i64 (Q : Int)) ∧ LiZ w' wlx2.heap.size w8.heap.size (.slice u8_ ro.length c8_) (marksI 1 ro.length) ∧ Over wlx2.heap.size w8.heap.size W w') := fun W hW => hQ ▸ markEnd_z rc rv ro W _ _ 1 _ hW (by have := hlen.out; omega)
    have HG : Hid (∀ W, LiZ W wlx2.heap.size w8.heap.size (.slice u8_ ro.length c8_) (marksI 1 ro.length) → Calls Tryd.prog 16 #[.agg #[.int .i64 rc, .int .i64 rv, .slice u8_ ro.length c8_], .int .i64 1] W fun en w' => en = .returned (.int .i64 (Q : Int)) ∧ Below W.heap.size W w') := fun W hW => hQ ▸ heldEnd_z rc rv ro.length W _ _ 1 _ hW (by have := hlen.out; omega)
    clear hQ
    go_wp2_with fail
    refine (MG.out _ HO.out).mono ?_
    rintro y7 w7 ⟨rfl, hz7, om⟩
    have hbl := om.below (by have := LN.out; have := L8b.out; omega)
    replace HW := hideP (HW.out.trans (hbl.mono (by have := LP.out; have := LX.out; have := LX3.out; omega)))
    replace P0 := hideP ((om.out w.heap.size (Array.getElem?_eq_some_iff.1 P0.out).1 (Or.inl (by have := LP.out; have := LX.out; have := LX3.out; omega))).trans P0.out)
    replace BS := hideP (BS.out.trans (hbl.mono (by have := LX.out; have := LX3.out; omega)))
    replace G1 := hideP ((om.out w8.heap.size LN.out (Or.inr (Nat.le_refl _))).trans G1.out)
    have HE := hideP hz7
    have hk0 : ¬ (Q : Int) < 0 := by omega
    clear om hz7 hbl LN MG HO e0 e1 e2
    have e0 := (cells_of G1.out).1 0
    have e1 := (cells_of G1.out).1 1
    have e2 := (cells_of G1.out).1 2
    simp at e0 e1 e2
    go_wp2_with fail
    refine (HG.out _ HE.out).mono ?_
    rintro yh wh ⟨rfl, belh⟩
    replace HW := hideP (below_trans HW.out belh)
    replace P0 := hideP (keep P0.out belh)
    replace BS := hideP (below_trans BS.out belh)
    replace G1 := hideP (keep G1.out belh)
    replace HE := hideP (HE.out.stays belh)
    clear belh e0 e1 e2
    have p0 := (cells_of P0.out).1 0
    have p1 := (cells_of P0.out).1 1
    have p2 := (cells_of P0.out).1 2
    have p3 := (cells_of P0.out).1 3
    simp at p0 p1 p2 p3
    go_wp2_with fail
    refine (TO0.out _ HW.out).mono ?_
    rintro ya wa ⟨usizesaa, csizesaa, ucodeaa, ccodeaa, rfl, hxa, bela⟩
    have hposa : Hid (0 < wh.heap.size) := pos_of P0.out
    replace HW := hideP (below_trans HW.out bela)
    replace P0 := hideP (keep P0.out bela)
    replace BS := hideP (below_trans BS.out bela)
    replace G1 := hideP (keep G1.out bela)
    replace HE := hideP (HE.out.stays bela)
    have HXA := hideP hxa
    clear hxa bela p0 p1 p2 p3
    go_wp2_with fail
    refine (TO1.out _ HW.out).mono ?_
    rintro yla1 wla1 ⟨gla1, rfl, hla1, bla1⟩
    replace HW := hideP (below_trans HW.out bla1)
    replace P0 := hideP (keep P0.out bla1)
    replace BS := hideP (below_trans BS.out bla1)
    replace G1 := hideP (keep G1.out bla1)
    replace HE := hideP (HE.out.stays bla1)
    replace HXA := hideP (ImgKeeps.stays HXA.out bla1)
    have Ha1 := hideP hla1
    clear hla1 bla1
    go_wp2_with fail
    refine (TO2.out _ HW.out).mono ?_
    rintro yla2 wla2 ⟨gla2, rfl, hla2, bla2⟩
    replace HW := hideP (below_trans HW.out bla2)
    replace P0 := hideP (keep P0.out bla2)
    replace BS := hideP (below_trans BS.out bla2)
    replace G1 := hideP (keep G1.out bla2)
    replace HE := hideP (HE.out.stays bla2)
    replace HXA := hideP (ImgKeeps.stays HXA.out bla2)
    replace Ha1 := hideP (Ha1.out.stays bla2)
    have Ha2 := hideP hla2
    clear hla2 bla2
    go_wp2_with fail
    refine (IO.out _ _ _ _ _ _ _ HW.out HXA.out Ha1.out Ha2.out hposa.out).mono ?_
    rintro yb wb ⟨vb, rfl, ob, belb⟩
    replace HW := hideP (below_trans HW.out belb)
    replace P0 := hideP (keep P0.out belb)
    replace BS := hideP (below_trans BS.out belb)
    replace G1 := hideP (keep G1.out belb)
    replace HE := hideP (HE.out.stays belb)
    obtain ⟨ub_, cb_, rfl, _⟩ := id ob
    have alb := (Below.refl wb.heap.size wb).alloc (Nat.le_refl _) (.cells #[.int .i64 rc, .int .i64 rv, .slice ub_ ro.length cb_] 28)
    have HO := hideP (ob.stays alb)
    have G2 := hideP (blk_new wb (.cells #[.int .i64 rc, .int .i64 rv, .slice ub_ ro.length cb_] 28))
    replace HW := hideP (below_trans HW.out alb)
    replace P0 := hideP (keep P0.out alb)
    replace BS := hideP (below_trans BS.out alb)
    replace G1 := hideP (keep G1.out alb)
    replace HE := hideP (HE.out.stays alb)
    clear ob belb alb HXA IO Ha1 Ha2
    go_upto_region 37 with fail
    obtain ⟨wJ, hwJ⟩ : ∃ wJ, wb.alloc (.cells #[.int .i64 rc, .int .i64 rv, .slice ub_ ro.length cb_] 28) = wJ := ⟨_, rfl⟩
    rw [hwJ] at P0 BS G1 HE G2 HO HW ⊢
    clear hwJ
    have D0 := keep E4.out BS.out
    have d0 := (cells_of D0).1 0
    have d1 := (cells_of D0).1 1
    have d2 := (cells_of D0).1 2
    simp at d0 d1 d2
    clear D0
    have e0 := (cells_of G2.out).1 0
    have e1 := (cells_of G2.out).1 1
    have e2 := (cells_of G2.out).1 2
    simp at e0 e1 e2
    go_wp2_with fail
    refine (eqEnd_any (⟨rc, rv, ro⟩ : En) _ _ _ _ _ (HO.out.en rc rv) (HS.out.stays BS.out)).mono ?_
    rintro yc wc2 ⟨rfl, belc⟩
    replace HW := hideP (below_trans HW.out belc)
    replace P0 := hideP (keep P0.out belc)
    replace BS := hideP (below_trans BS.out belc)
    replace G1 := hideP (keep G1.out belc)
    replace HE := hideP (HE.out.stays belc)
    replace G2 := hideP (keep G2.out belc)
    replace HO := hideP (HO.out.stays belc)
    clear belc d0 d1 d2 e0 e1 e2
    have e0 := (cells_of G1.out).1 0
    have e1 := (cells_of G1.out).1 1
    have e2 := (cells_of G1.out).1 2
    simp at e0 e1 e2
    go_wp2_with fail
    refine (HG.out _ HE.out).mono ?_
    rintro yd wd ⟨rfl, beld⟩
    replace HW := hideP (below_trans HW.out beld)
    replace P0 := hideP (keep P0.out beld)
    replace BS := hideP (below_trans BS.out beld)
    replace G1 := hideP (keep G1.out beld)
    replace HE := hideP (HE.out.stays beld)
    replace G2 := hideP (keep G2.out beld)
    replace HO := hideP (HO.out.stays beld)
    clear beld e0 e1 e2
    go_wp2
    go_ret
    exact ⟨rfl, HW.out⟩
  · have E0 := hideP (szR_neg (Nat.lt_of_not_le hp0))
    clear hp0 h0 
    go_enter Tryd.func3, Tryd.ntmps3
    go_wp2_with fail
    refine (SP0.out _ ((Below.refl _ _).alloc (Nat.le_refl _) _)).mono ?_
    rintro y0 wz0 ⟨rfl, belz⟩
    rw [E0.out]
    have P0 := hideP (keep (blk_new w _) belz)
    have HW := hideP (below_new belz)
    clear belz SP0 E0
    go_wp2
    go_ret
    exact ⟨rfl, HW.out⟩
end ExecLaw
end Go.Proofs.YtpkfbabgcinhhaaDoor
