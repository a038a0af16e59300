/- The walk of the law FnExactDead (written by wip/mklawi.py). -/
import Derived.Test.YtfoelnblnfcaiaaDeaI
import Derived.Test.YtfoelnblnfcaiaaDeaS
import Derived.Test.YtfoelnblnfcaiaaImgI
import Derived.Test.YtfoelnblnfcaiaaImgS
import Derived.Test.YtfoelnblnfcaiaaImgSz
import Derived.Test.YtfoelnblnfcaiaaOwnIntM
import Derived.Test.YtfoelnblnfcaiaaOwnOver
import Derived.Test.YtfoelnblnfcaiaaMarkW
import Derived.Test.YtfoelnblnfcaiaaImageSz
import Derived.Test.YtfoelnblnfcaiaaImageTo
import Derived.Test.YtfoelnblnfcaiaaImageEq
import Derived.Deep.CutRange
import Derived.Deep.RegionHeld3
namespace Go.Proofs.Ytfoelnblnfcaiaa
open Go.ChangeShapes Go.WideShapes Go.ChangeAt Go.RowKit
namespace DeadLaw
theorem keep {W W' : World} {b : Nat} {o : Obj} (h : W.heap[b]? = some o) (bel : Below W.heap.size W W') : W'.heap[b]? = some o := (bel.block b (Array.getElem?_eq_some_iff.1 h).1).trans h
theorem blk_new (w : World) (o : Obj) : (w.alloc o).heap[w.heap.size]? = some o := by show (w.heap.push o)[w.heap.size]? = _; exact Array.getElem?_push_size
theorem pos_of {W : World} {b : Nat} {o : Obj} (h : W.heap[b]? = some o) : 0 < W.heap.size := Nat.lt_of_le_of_lt (Nat.zero_le _) (Array.getElem?_eq_some_iff.1 h).1
set_option maxRecDepth 100000 in
set_option maxHeartbeats 16000000 in
theorem walk (x0 : Img) (v0 : Array Value) (w : World) (h0 : ImgIs w 0 v0 x0) :
    Calls Try.prog 7 #[.agg v0] w fun en w' => en = .returned (.bool true) ∧ Below w.heap.size w w' := by
  obtain ⟨sizesa, paramsa, slotsa, codea⟩ := x0
  have g0 := h0
  obtain ⟨usizesa1, csizesa1, ucodea1, ccodea1, rfl, _⟩ := g0
  simp only at *
  have SP0 : Hid (∀ W, Below w.heap.size w W → _) := fun W hW => szImage_any (⟨sizesa, paramsa, slotsa, codea⟩ : Img) W 0 _ 1048576 (ImgKeeps.stays h0 hW) (by omega)
  by_cases hp0 : (⟨sizesa, paramsa, slotsa, codea⟩ : Img).sz ≤ 1048576
  · obtain ⟨L1, hL1⟩ : ∃ L, 1048576 - (⟨sizesa, paramsa, slotsa, codea⟩ : Img).sz = L := ⟨_, rfl⟩
    have TO0 := hideP (toImage_in w 0 _ h0 (by omega))
    have HSZ := hideP hp0
    obtain ⟨l, hl⟩ : ∃ l, deadP (⟨sizesa, paramsa, slotsa, codea⟩ : Img) = l := ⟨_, rfl⟩
    have hlen : Hid (l.length ≤ 3000000) := by rw [← hl]; exact deadP_len _ (by have := code_sz hp0; omega)
    have SO : Hid (∀ W A0 x0, Below w.heap.size w W → ImgIs W A0 x0 (⟨sizesa, paramsa, slotsa, codea⟩ : Img) → Calls Try.prog 24 #[.agg x0] W fun en w' => ∃ v', en = .returned v' ∧ OwnI w' W.heap.size v' l ∧ Below W.heap.size W w') := fun W A0 x0 hbw y0 => by rw [← hl]; exact spec_dead _ W A0 x0 y0 (fun W A v h => spec_imageOk _ W A v h)
    have IO : Hid (∀ W A0 x0, Below w.heap.size w W → ImgIs W A0 x0 (⟨sizesa, paramsa, slotsa, codea⟩ : Img) → 0 < A0 → Calls Try.prog 25 #[.agg x0] W fun en w' => ∃ v', en = .returned v' ∧ OwnI w' W.heap.size v' l ∧ Below W.heap.size W w') := fun W A0 x0 hbw y0 hpos => by rw [← hl]; exact impl_dead _ W A0 x0 y0 (fun W A v h => impl_imageOk _ W A v h)
    have E0 := hideP (szR_pos hp0)
    have HL1 := hideP hL1
    clear hl hp0 h0 hL1
    go_enter Try.func7, Try.ntmps7
    go_wp2_with fail
    refine (SP0.out _ ((Below.refl _ _).alloc (Nat.le_refl _) _)).mono ?_
    rintro y0 wz0 ⟨rfl, belz⟩
    rw [E0.out, HL1.out]
    have P0 := hideP (keep (blk_new w _) belz)
    have HW := hideP (below_new belz)
    clear belz SP0 E0
    have p0 := (cells_of P0.out).1 0
    have p1 := (cells_of P0.out).1 1
    have p2 := (cells_of P0.out).1 2
    have p3 := (cells_of P0.out).1 3
    simp at p0 p1 p2 p3
    go_wp2_with fail
    refine (TO0.out _ HW.out).mono ?_
    rintro y3 w3 ⟨usizesa3, csizesa3, ucodea3, ccodea3, rfl, hx3, bel3⟩
    replace HW := hideP (below_trans HW.out bel3)
    replace P0 := hideP (keep P0.out bel3)
    have HX3 := hideP hx3
    clear hx3 bel3 p0 p1 p2 p3
    go_wp2_with fail
    refine (SO.out _ _ _ HW.out HX3.out).mono ?_
    rintro y4 w4 ⟨v4, rfl, o4, bel4⟩
    replace HW := hideP (below_trans HW.out bel4)
    replace P0 := hideP (keep P0.out bel4)
    obtain ⟨gs, cs, rfl, _⟩ := id o4
    have OS := hideP (o4.mono (Nat.zero_le _))
    have LS := hideP (o4.low gs rfl).2
    clear o4 bel4 HX3 SO
    have hpos : Hid (0 < w4.heap.size) := pos_of P0.out
    have LP : Hid (w.heap.size < w4.heap.size) := (Array.getElem?_eq_some_iff.1 P0.out).1
    have p0 := (cells_of P0.out).1 0
    have p1 := (cells_of P0.out).1 1
    have p2 := (cells_of P0.out).1 2
    have p3 := (cells_of P0.out).1 3
    simp at p0 p1 p2 p3
    go_wp2_with fail
    refine (TO0.out _ HW.out).mono ?_
    rintro yx0 wx0 ⟨usizesax, csizesax, ucodeax, ccodeax, rfl, hx, bel⟩
    replace HW := hideP (below_trans HW.out bel)
    replace P0 := hideP (keep P0.out bel)
    replace OS := hideP (OS.out.stays bel)
    have LX : Hid (w4.heap.size ≤ wx0.heap.size) := bel.size
    have al := (Below.refl wx0.heap.size wx0).alloc (Nat.le_refl _) (.cells #[.slice usizesax sizesa.length csizesax, .int .i64 paramsa, .int .i64 slotsa, .slice ucodeax codea.length ccodeax] 30)
    have G0 := hideP (blk_new wx0 (.cells #[.slice usizesax sizesa.length csizesax, .int .i64 paramsa, .int .i64 slotsa, .slice ucodeax codea.length ccodeax] 30))
    have HX0 := hideP (ImgKeeps.stays hx al)
    have RM := hideP ((ImgRoom.of hx hpos.out).stays al)
    replace HW := hideP (below_trans HW.out al)
    replace P0 := hideP (keep P0.out al)
    replace OS := hideP (OS.out.stays al)
    clear hx bel al p0 p1 p2 p3
    have g0_0 := (cells_of G0.out).1 0
    have g0_1 := (cells_of G0.out).1 1
    have g0_2 := (cells_of G0.out).1 2
    have g0_3 := (cells_of G0.out).1 3
    simp at g0_0 g0_1 g0_2 g0_3
    go_wp2_with fail
    refine (IO.out _ _ _ HW.out HX0.out hpos.out).mono ?_
    rintro y8 w8 ⟨v8, rfl, o8, bel8⟩
    replace HW := hideP (below_trans HW.out bel8)
    replace P0 := hideP (keep P0.out bel8)
    replace OS := hideP (OS.out.stays bel8)
    replace G0 := hideP (keep G0.out bel8)
    replace HX0 := hideP (ImgKeeps.stays HX0.out bel8)
    replace RM := hideP (RM.out.stays bel8)
    obtain ⟨gi, ci, rfl, _⟩ := id o8
    have LI : Hid (wx0.heap.size < gi) := by have := (o8.low gi rfl).1; simp at this; exact this
    have OI := hideP (o8.mono (Nat.zero_le _))
    clear o8 bel8 g0_0 g0_1 g0_2 g0_3
    go_wp2_with fail
    refine (eqIntS_same l _ _ _ _ _ _ _ OI.out.is.2 OS.out.is.2).mono ?_
    rintro y9 w9 ⟨rfl, bel9⟩
    replace HW := hideP (below_trans HW.out bel9)
    replace P0 := hideP (keep P0.out bel9)
    replace OS := hideP (OS.out.stays bel9)
    replace G0 := hideP (keep G0.out bel9)
    replace HX0 := hideP (ImgKeeps.stays HX0.out bel9)
    replace RM := hideP (RM.out.stays bel9)
    replace OI := hideP (OI.out.stays bel9)
    clear bel9
    go_upto_region 10 with fail
    go_cut [31] from 27 to 31 (fun sx wx => sx = .bool false ∧ Hid (Below w9.heap.size w9 wx))
    case first =>
      have e0 := (cells_of G0.out).1
      have l0 : wx0.heap.size < w9.heap.size := (Array.getElem?_eq_some_iff.1 G0.out).1
      have e1 := (cells_of P0.out).1
      have l1 : w.heap.size < w9.heap.size := (Array.getElem?_eq_some_iff.1 P0.out).1
      have SK : Hid (∀ W', Below w9.heap.size w9 W' → W'.cell? ⟨wx0.heap.size, 0, none⟩ = some (.slice usizesax sizesa.length csizesax) ∧ W'.cell? ⟨wx0.heap.size, 1, none⟩ = some (.int .i64 paramsa) ∧ W'.cell? ⟨wx0.heap.size, 2, none⟩ = some (.int .i64 slotsa) ∧ W'.cell? ⟨wx0.heap.size, 3, none⟩ = some (.slice ucodeax codea.length ccodeax) ∧ W'.cell? ⟨w.heap.size, 0, none⟩ = some (.slice usizesa1 sizesa.length csizesa1) ∧ W'.cell? ⟨w.heap.size, 1, none⟩ = some (.int .i64 paramsa) ∧ W'.cell? ⟨w.heap.size, 2, none⟩ = some (.int .i64 slotsa) ∧ W'.cell? ⟨w.heap.size, 3, none⟩ = some (.slice ucodea1 codea.length ccodea1)) := fun W' h => ⟨(h.cell (p := ⟨wx0.heap.size, 0, none⟩) l0).trans (e0 0), (h.cell (p := ⟨wx0.heap.size, 1, none⟩) l0).trans (e0 1), (h.cell (p := ⟨wx0.heap.size, 2, none⟩) l0).trans (e0 2), (h.cell (p := ⟨wx0.heap.size, 3, none⟩) l0).trans (e0 3), (h.cell (p := ⟨w.heap.size, 0, none⟩) l1).trans (e1 0), (h.cell (p := ⟨w.heap.size, 1, none⟩) l1).trans (e1 1), (h.cell (p := ⟨w.heap.size, 2, none⟩) l1).trans (e1 2), (h.cell (p := ⟨w.heap.size, 3, none⟩) l1).trans (e1 3)⟩
      clear e0 l0 e1 l1
      go_region_held3 (fun W' => W'.cell? ⟨wx0.heap.size, 0, none⟩ = some (.slice usizesax sizesa.length csizesax) ∧ W'.cell? ⟨wx0.heap.size, 1, none⟩ = some (.int .i64 paramsa) ∧ W'.cell? ⟨wx0.heap.size, 2, none⟩ = some (.int .i64 slotsa) ∧ W'.cell? ⟨wx0.heap.size, 3, none⟩ = some (.slice ucodeax codea.length ccodeax) ∧ W'.cell? ⟨w.heap.size, 0, none⟩ = some (.slice usizesa1 sizesa.length csizesa1) ∧ W'.cell? ⟨w.heap.size, 1, none⟩ = some (.int .i64 paramsa) ∧ W'.cell? ⟨w.heap.size, 2, none⟩ = some (.int .i64 slotsa) ∧ W'.cell? ⟨w.heap.size, 3, none⟩ = some (.slice ucodea1 codea.length ccodea1)) (first | exact SK.out _ (Below.refl _ _).drew | exact SK.out _ HBb.out | exact SK.out _ HBa.out) (first
          | (go_at_call 10; refine (TO0.out _ HW.out.drew).mono ?_; rintro yya wya ⟨usizesay, csizesay, ucodeay, ccodeay, rfl, hxa, bela⟩; have HY := hideP hxa; have HBa := hideP ((Below.refl w9.heap.size w9).drew.trans (bela.mono (Nat.le_refl _))); clear bela hxa)
          | (go_at_call 12; refine (eqImage_same (⟨sizesa, paramsa, slotsa, codea⟩ : Img) _ _ _ _ _ (ImgKeeps.stays HX0.out HBa.out) HY.out).mono ?_; rintro yyb wyb ⟨rfl, belb⟩; have HBb := hideP (HBa.out.trans (belb.mono HBa.out.size)); clear belb))
      all_goals (go_wp2_with fail; go_meet; exact ⟨rfl, HBb⟩)
    case rest =>
    obtain ⟨rfl, hc⟩ := hcut
    replace HW := hideP (below_trans HW.out hc.out)
    replace P0 := hideP (keep P0.out hc.out)
    replace OS := hideP (OS.out.stays hc.out)
    replace G0 := hideP (keep G0.out hc.out)
    replace HX0 := hideP (ImgKeeps.stays HX0.out hc.out)
    replace RM := hideP (RM.out.stays hc.out)
    replace OI := hideP (OI.out.stays hc.out)
    clear hc
    obtain ⟨wd, hwd⟩ : ∃ wd, wc = wd := ⟨_, rfl⟩
    subst hwd
    clear HX0
    have g0_0 := (cells_of G0.out).1 0
    have g0_1 := (cells_of G0.out).1 1
    have g0_2 := (cells_of G0.out).1 2
    have g0_3 := (cells_of G0.out).1 3
    simp at g0_0 g0_1 g0_2 g0_3
    have LG : Hid (wx0.heap.size < wc.heap.size) := (Array.getElem?_eq_some_iff.1 G0.out).1
    go_wp2_with fail
    refine (markImage_room (⟨sizesa, paramsa, slotsa, codea⟩ : Img) _ _ _ _ RM.out (Nat.le_of_lt LG.out) HSZ.out).mono ?_
    rintro ym wm ⟨km, rfl, om⟩
    replace HW := hideP (HW.out.trans ((om.below (by have := LX.out; have := LG.out; omega)).mono (Nat.le_of_lt LP.out)))
    replace P0 := hideP ((om.out w.heap.size (Array.getElem?_eq_some_iff.1 P0.out).1 (Or.inl LP.out)).trans P0.out)
    replace OS := hideP (OS.out.over om (fun g hg => Or.inl (by have := own_blk hg; subst this; exact LS.out)))
    replace OI := hideP (OI.out.over om (fun g hg => Or.inr (by have := own_blk hg; subst this; exact Nat.le_of_lt LI.out)))
    have hkm : ¬ (km : Int) < 0 := by omega
    clear om RM G0 LG g0_0 g0_1 g0_2 g0_3
    go_wp2_with fail
    refine (eqIntS_same l _ _ _ _ _ _ _ OI.out.is.2 OS.out.is.2).mono ?_
    rintro yn wn ⟨rfl, beln⟩
    replace HW := hideP (below_trans HW.out beln)
    replace P0 := hideP (keep P0.out beln)
    replace OS := hideP (OS.out.stays beln)
    replace OI := hideP (OI.out.stays beln)
    clear beln hkm
    go_wp2_with fail
    refine (markIntS_any l _ 0 1 _ OI.out (by omega) (by have := hlen.out; omega)).mono ?_
    rintro y7 w7 ⟨rfl, o7, g7, hg7, but7⟩
    have hgi := own_blk hg7
    subst hgi
    replace OI := hideP o7
    replace OS := hideP (OS.out.butG but7 (by have := LI.out; have := LS.out; have := LX.out; simp [Value.ownBlock]; omega))
    replace P0 := hideP ((but7.block w.heap.size (Array.getElem?_eq_some_iff.1 P0.out).1 (by have := LI.out; have := LP.out; have := LX.out; omega)).trans P0.out)
    replace HW := hideP (HW.out.trans (but7.below (B := w.heap.size) (by have := LI.out; have := LP.out; have := LX.out; omega) HW.out.size))
    clear o7 hg7 but7
    go_wp2_with fail
    refine (heldIntS_any l.length _ 0 1 _ OI.out (by omega) (by have := hlen.out; omega)).mono ?_
    rintro yh wh ⟨rfl, rfl⟩
    have hk : Hid (((1 + l.length : Nat) : Int) = 1 + (l.length : Int)) := by show _ = _; omega
    have hk0 : ¬ ((1 + l.length : Nat) : Int) < 0 := by omega
    have p0 := (cells_of P0.out).1 0
    have p1 := (cells_of P0.out).1 1
    have p2 := (cells_of P0.out).1 2
    have p3 := (cells_of P0.out).1 3
    simp at p0 p1 p2 p3
    go_wp2_with fail
    refine (TO0.out _ HW.out).mono ?_
    rintro ya wa ⟨usizesaa, csizesaa, ucodeaa, ccodeaa, rfl, hxa, bela⟩
    have hposa : Hid (0 < wh.heap.size) := pos_of P0.out
    replace HW := hideP (below_trans HW.out bela)
    replace P0 := hideP (keep P0.out bela)
    replace OS := hideP (OS.out.stays bela)
    replace OI := hideP (OI.out.stays bela)
    have HXA := hideP hxa
    clear hxa bela p0 p1 p2 p3
    go_wp2_with fail
    refine (IO.out _ _ _ HW.out HXA.out hposa.out).mono ?_
    rintro yb wb ⟨vb, rfl, ob, belb⟩
    replace HW := hideP (below_trans HW.out belb)
    replace P0 := hideP (keep P0.out belb)
    replace OS := hideP (OS.out.stays belb)
    replace OI := hideP (OI.out.stays belb)
    obtain ⟨gb, cb, rfl, _⟩ := id ob
    have OB := hideP ob
    clear ob belb HXA IO
    go_wp2_with fail
    refine (eqIntS_same l _ _ _ _ _ _ _ OB.out.is.2 OS.out.is.2).mono ?_
    rintro yc wc2 ⟨rfl, belc⟩
    replace HW := hideP (below_trans HW.out belc)
    replace P0 := hideP (keep P0.out belc)
    replace OS := hideP (OS.out.stays belc)
    replace OI := hideP (OI.out.stays belc)
    clear belc OB
    go_wp2_with fail
    refine (heldIntS_any l.length _ 0 1 _ OI.out (by omega) (by have := hlen.out; omega)).mono ?_
    rintro yd wd ⟨rfl, rfl⟩
    go_wp2
    go_ret
    exact ⟨rfl, HW.out⟩
  · have E0 := hideP (szR_neg (Nat.lt_of_not_le hp0))
    clear hp0 h0 
    go_enter Try.func7, Try.ntmps7
    go_wp2_with fail
    refine (SP0.out _ ((Below.refl _ _).alloc (Nat.le_refl _) _)).mono ?_
    rintro y0 wz0 ⟨rfl, belz⟩
    rw [E0.out]
    have P0 := hideP (keep (blk_new w _) belz)
    have HW := hideP (below_new belz)
    clear belz SP0 E0
    go_wp2
    go_ret
    exact ⟨rfl, HW.out⟩
end DeadLaw
end Go.Proofs.Ytfoelnblnfcaiaa
