/- The walk of the law FnExactCost (written by wip/mkcosw.py). -/
import Derived.Test.YtpkfbabgcinhhaaDoorCkN
import Derived.Test.YtpkfbabgcinhhaaDoorCkO
import Derived.Deep.CutRange
import Derived.Deep.RegionHeld3
namespace Go.Proofs.YtpkfbabgcinhhaaDoor
open Go.ChangeShapes Go.WideShapes Go.ChangeAt Go.RowKit
namespace CostLaw
theorem keep {W W' : World} {b : Nat} {o : Obj} (h : W.heap[b]? = some o) (bel : Below W.heap.size W W') : W'.heap[b]? = some o := (bel.block b (Array.getElem?_eq_some_iff.1 h).1).trans h
theorem blk_new (w : World) (o : Obj) : (w.alloc o).heap[w.heap.size]? = some o := by show (w.heap.push o)[w.heap.size]? = _; exact Array.getElem?_push_size
theorem pos_of {W : World} {b : Nat} {o : Obj} (h : W.heap[b]? = some o) : 0 < W.heap.size := Nat.lt_of_le_of_lt (Nat.zero_le _) (Array.getElem?_eq_some_iff.1 h).1
set_option maxRecDepth 100000 in
set_option maxHeartbeats 16000000 in
theorem walk (x0 : Img) (v0 : Array Value) (La : List Int) (u1 : Option Addr) (k1 : Nat) (Lb : List Int) (u2 : Option Addr) (k2 : Nat) (w : World) (h0 : ImgIs w 0 v0 x0) (hL1 : IntsIs w 0 u1 La) (hL2 : IntsIs w 0 u2 Lb) (hv : VarsC w) :
    Calls Tryd.prog 4 #[.agg v0, .slice u1 La.length k1, .slice u2 Lb.length k2] w fun en w' => en = .returned (.bool true) ∧ Below w.heap.size w w' := by
  obtain ⟨sizesa, paramsa, slotsa, codea⟩ := x0
  have g0 := h0
  obtain ⟨usizesa1, csizesa1, ucodea1, ccodea1, rfl, _⟩ := g0
  simp only at *
  have HV := hideP hv
  have H1 := hideP hL1
  have H2 := hideP hL2
  have hmL := maxLen_lt
  have hl1 := hL1.1
  have hl2 := hL2.1
  clear hL1 hL2 hv
  rcases Nat.lt_or_ge 1048576 La.length with hA | hA
  · have hAn : (1048576 : Int) < (La.length : Int) := by omega
    go_enter Tryd.func4, Tryd.ntmps4
    go_wp2
    go_ret
    exact ⟨rfl, (Below.refl _ _).alloc (Nat.le_refl _) _⟩
  have hAn : ¬ (1048576 : Int) < (La.length : Int) := by omega
  rcases Nat.lt_or_ge 1048576 Lb.length with hB | hB
  · have hBn : (1048576 : Int) < (Lb.length : Int) := by omega
    go_enter Tryd.func4, Tryd.ntmps4
    go_wp2
    go_ret
    exact ⟨rfl, (Below.refl _ _).alloc (Nat.le_refl _) _⟩
  have hBn : ¬ (1048576 : Int) < (Lb.length : Int) := by omega
  have TO1 : Hid (∀ W, Below w.heap.size w W → Calls Tryd.prog 8 #[.slice u1 La.length k1] W fun en w' => ∃ g, en = .returned (.slice (some ⟨g, 0, none⟩) La.length La.length) ∧ IntsIs w' W.heap.size (some ⟨g, 0, none⟩) La ∧ Below W.heap.size W w') := fun W hW => toIntS_any La W 0 u1 k1 (H1.out.stays hW) hA
  have TO2 : Hid (∀ W, Below w.heap.size w W → Calls Tryd.prog 8 #[.slice u2 Lb.length k2] W fun en w' => ∃ g, en = .returned (.slice (some ⟨g, 0, none⟩) Lb.length Lb.length) ∧ IntsIs w' W.heap.size (some ⟨g, 0, none⟩) Lb ∧ Below W.heap.size W w') := fun W hW => toIntS_any Lb W 0 u2 k2 (H2.out.stays hW) hB
  have SP0 : Hid (∀ W, Below w.heap.size w W → _) := fun W hW => szImage_any (⟨sizesa, paramsa, slotsa, codea⟩ : Img) W 0 _ 1048576 (ImgKeeps.stays h0 hW) (by omega)
  by_cases hp0 : (⟨sizesa, paramsa, slotsa, codea⟩ : Img).sz ≤ 1048576
  · obtain ⟨L1, hL1⟩ : ∃ L, 1048576 - (⟨sizesa, paramsa, slotsa, codea⟩ : Img).sz = L := ⟨_, rfl⟩
    have TO0 := hideP (toImage_in w 0 _ h0 (by omega))
    obtain ⟨r, hr⟩ : ∃ r : Int, costR (⟨sizesa, paramsa, slotsa, codea⟩ : Img) La Lb = r := ⟨_, rfl⟩
    have SO : Hid (∀ W A0 x0 A1 a1 A2 a2, Below w.heap.size w W → ImgIs W A0 x0 (⟨sizesa, paramsa, slotsa, codea⟩ : Img) → IntsIs W A1 a1 La → IntsIs W A2 a2 Lb → Calls Tryd.prog 17 #[.agg x0, .slice a1 La.length La.length, .slice a2 Lb.length Lb.length] W fun en w' => en = .returned (.int .i64 r) ∧ Below W.heap.size W w') := fun W A0 x0 A1 a1 A2 a2 hbw y0 y1 y2 => by rw [← hr]; exact spec_cost _ _ _ W A0 x0 A1 a1 A2 a2 _ y0 y1 y2 hB
    have IO : Hid (∀ W A0 x0 A1 a1 A2 a2, Below w.heap.size w W → ImgIs W A0 x0 (⟨sizesa, paramsa, slotsa, codea⟩ : Img) → IntsIs W A1 a1 La → IntsIs W A2 a2 Lb → Calls Tryd.prog 18 #[.agg x0, .slice a1 La.length La.length, .slice a2 Lb.length Lb.length] W fun en w' => en = .returned (.int .i64 r) ∧ Below W.heap.size W w') := fun W A0 x0 A1 a1 A2 a2 hbw y0 y1 y2 => by rw [← hr]; exact impl_cost _ _ _ W A0 x0 A1 a1 A2 a2 _ y0 y1 y2 hB (HV.out.stays hbw)
    have E0 := hideP (szR_pos hp0)
    have HL1 := hideP hL1
    clear hr hp0 h0 hL1
    go_enter Tryd.func4, Tryd.ntmps4
    go_wp2_with fail
    refine (SP0.out _ ((Below.refl _ _).alloc (Nat.le_refl _) _)).mono ?_
    rintro y0 wz0 ⟨rfl, belz⟩
    rw [E0.out, HL1.out]
    have P0 := hideP (keep (blk_new w _) belz)
    have HW := hideP (below_new belz)
    clear belz SP0 E0
    have p0 := (cells_of P0.out).1 0
    have p1 := (cells_of P0.out).1 1
    have p2 := (cells_of P0.out).1 2
    have p3 := (cells_of P0.out).1 3
    simp at p0 p1 p2 p3
    go_wp2_with fail
    refine (TO0.out _ HW.out).mono ?_
    rintro y3 w3 ⟨usizesa3, csizesa3, ucodea3, ccodea3, rfl, hx3, bel3⟩
    replace HW := hideP (below_trans HW.out bel3)
    replace P0 := hideP (keep P0.out bel3)
    have HX3 := hideP hx3
    clear hx3 bel3 p0 p1 p2 p3
    go_wp2_with fail
    refine (TO1.out _ HW.out).mono ?_
    rintro yls1 wls1 ⟨gls1, rfl, hls1, bls1⟩
    replace HW := hideP (below_trans HW.out bls1)
    replace P0 := hideP (keep P0.out bls1)
    replace HX3 := hideP (ImgKeeps.stays HX3.out bls1)
    have Hs1 := hideP hls1
    clear hls1 bls1
    go_wp2_with fail
    refine (TO2.out _ HW.out).mono ?_
    rintro yls2 wls2 ⟨gls2, rfl, hls2, bls2⟩
    replace HW := hideP (below_trans HW.out bls2)
    replace P0 := hideP (keep P0.out bls2)
    replace HX3 := hideP (ImgKeeps.stays HX3.out bls2)
    replace Hs1 := hideP (Hs1.out.stays bls2)
    have Hs2 := hideP hls2
    clear hls2 bls2
    go_wp2_with fail
    refine (SO.out _ _ _ _ _ _ _ HW.out HX3.out Hs1.out Hs2.out).mono ?_
    rintro y4 w4 ⟨rfl, bel4⟩
    replace HW := hideP (below_trans HW.out bel4)
    replace P0 := hideP (keep P0.out bel4)
    clear bel4 HX3 SO Hs1 Hs2
    have p0 := (cells_of P0.out).1 0
    have p1 := (cells_of P0.out).1 1
    have p2 := (cells_of P0.out).1 2
    have p3 := (cells_of P0.out).1 3
    simp at p0 p1 p2 p3
    go_wp2_with fail
    refine (TO0.out _ HW.out).mono ?_
    rintro yx0 wx0 ⟨usizesax, csizesax, ucodeax, ccodeax, rfl, hx, bel⟩
    replace HW := hideP (below_trans HW.out bel)
    replace P0 := hideP (keep P0.out bel)
    have al := (Below.refl wx0.heap.size wx0).alloc (Nat.le_refl _) (.cells #[.slice usizesax sizesa.length csizesax, .int .i64 paramsa, .int .i64 slotsa, .slice ucodeax codea.length ccodeax] 32)
    have G0 := hideP (blk_new wx0 (.cells #[.slice usizesax sizesa.length csizesax, .int .i64 paramsa, .int .i64 slotsa, .slice ucodeax codea.length ccodeax] 32))
    have HX0 := hideP (ImgKeeps.stays hx al)
    replace HW := hideP (below_trans HW.out al)
    replace P0 := hideP (keep P0.out al)
    clear hx bel al p0 p1 p2 p3
    go_wp2_with fail
    refine (TO1.out _ HW.out).mono ?_
    rintro ylx1 wlx1 ⟨glx1, rfl, hlx1, blx1⟩
    replace HW := hideP (below_trans HW.out blx1)
    replace P0 := hideP (keep P0.out blx1)
    replace G0 := hideP (keep G0.out blx1)
    replace HX0 := hideP (ImgKeeps.stays HX0.out blx1)
    have Hx1 := hideP hlx1
    clear hlx1 blx1
    go_wp2_with fail
    refine (TO2.out _ HW.out).mono ?_
    rintro ylx2 wlx2 ⟨glx2, rfl, hlx2, blx2⟩
    replace HW := hideP (below_trans HW.out blx2)
    replace P0 := hideP (keep P0.out blx2)
    replace G0 := hideP (keep G0.out blx2)
    replace HX0 := hideP (ImgKeeps.stays HX0.out blx2)
    replace Hx1 := hideP (Hx1.out.stays blx2)
    have Hx2 := hideP hlx2
    clear hlx2 blx2
    have g0_0 := (cells_of G0.out).1 0
    have g0_1 := (cells_of G0.out).1 1
    have g0_2 := (cells_of G0.out).1 2
    have g0_3 := (cells_of G0.out).1 3
    simp at g0_0 g0_1 g0_2 g0_3
    go_wp2_with fail
    refine (IO.out _ _ _ _ _ _ _ HW.out HX0.out Hx1.out Hx2.out).mono ?_
    rintro y8 w8 ⟨rfl, bel8⟩
    replace HW := hideP (below_trans HW.out bel8)
    replace P0 := hideP (keep P0.out bel8)
    replace G0 := hideP (keep G0.out bel8)
    replace HX0 := hideP (ImgKeeps.stays HX0.out bel8)
    replace Hx1 := hideP (Hx1.out.stays bel8)
    replace Hx2 := hideP (Hx2.out.stays bel8)
    clear bel8 IO g0_0 g0_1 g0_2 g0_3
    go_upto_region 16 with fail
    go_cut [48] from 44 to 48 (fun sx wx => sx = .bool false ∧ Hid (Below w8.heap.size w8 wx))
    case first =>
      have e0 := (cells_of G0.out).1
      have l0 : wx0.heap.size < w8.heap.size := (Array.getElem?_eq_some_iff.1 G0.out).1
      have e1 := (cells_of P0.out).1
      have l1 : w.heap.size < w8.heap.size := (Array.getElem?_eq_some_iff.1 P0.out).1
      have SK : Hid (∀ W', Below w8.heap.size w8 W' → W'.cell? ⟨wx0.heap.size, 0, none⟩ = some (.slice usizesax sizesa.length csizesax) ∧ W'.cell? ⟨wx0.heap.size, 1, none⟩ = some (.int .i64 paramsa) ∧ W'.cell? ⟨wx0.heap.size, 2, none⟩ = some (.int .i64 slotsa) ∧ W'.cell? ⟨wx0.heap.size, 3, none⟩ = some (.slice ucodeax codea.length ccodeax) ∧ W'.cell? ⟨w.heap.size, 0, none⟩ = some (.slice usizesa1 sizesa.length csizesa1) ∧ W'.cell? ⟨w.heap.size, 1, none⟩ = some (.int .i64 paramsa) ∧ W'.cell? ⟨w.heap.size, 2, none⟩ = some (.int .i64 slotsa) ∧ W'.cell? ⟨w.heap.size, 3, none⟩ = some (.slice ucodea1 codea.length ccodea1)) := fun W' h => ⟨(h.cell (p := ⟨wx0.heap.size, 0, none⟩) l0).trans (e0 0), (h.cell (p := ⟨wx0.heap.size, 1, none⟩) l0).trans (e0 1), (h.cell (p := ⟨wx0.heap.size, 2, none⟩) l0).trans (e0 2), (h.cell (p := ⟨wx0.heap.size, 3, none⟩) l0).trans (e0 3), (h.cell (p := ⟨w.heap.size, 0, none⟩) l1).trans (e1 0), (h.cell (p := ⟨w.heap.size, 1, none⟩) l1).trans (e1 1), (h.cell (p := ⟨w.heap.size, 2, none⟩) l1).trans (e1 2), (h.cell (p := ⟨w.heap.size, 3, none⟩) l1).trans (e1 3)⟩
      clear e0 l0 e1 l1
      go_region_held3 (fun W' => W'.cell? ⟨wx0.heap.size, 0, none⟩ = some (.slice usizesax sizesa.length csizesax) ∧ W'.cell? ⟨wx0.heap.size, 1, none⟩ = some (.int .i64 paramsa) ∧ W'.cell? ⟨wx0.heap.size, 2, none⟩ = some (.int .i64 slotsa) ∧ W'.cell? ⟨wx0.heap.size, 3, none⟩ = some (.slice ucodeax codea.length ccodeax) ∧ W'.cell? ⟨w.heap.size, 0, none⟩ = some (.slice usizesa1 sizesa.length csizesa1) ∧ W'.cell? ⟨w.heap.size, 1, none⟩ = some (.int .i64 paramsa) ∧ W'.cell? ⟨w.heap.size, 2, none⟩ = some (.int .i64 slotsa) ∧ W'.cell? ⟨w.heap.size, 3, none⟩ = some (.slice ucodea1 codea.length ccodea1)) (first | exact SK.out _ (Below.refl _ _).drew | exact SK.out _ HBb.out | exact SK.out _ HBa.out) (first
          | (go_at_call 7; refine (TO0.out _ HW.out.drew).mono ?_; rintro yya wya ⟨usizesay, csizesay, ucodeay, ccodeay, rfl, hxa, bela⟩; have HY := hideP hxa; have HBa := hideP ((Below.refl w8.heap.size w8).drew.trans (bela.mono (Nat.le_refl _))); clear bela hxa)
          | (go_at_call 11; refine (eqImage_same (⟨sizesa, paramsa, slotsa, codea⟩ : Img) _ _ _ _ _ (ImgKeeps.stays HX0.out HBa.out) HY.out).mono ?_; rintro yyb wyb ⟨rfl, belb⟩; have HBb := hideP (HBa.out.trans (belb.mono HBa.out.size)); clear belb))
      all_goals (go_wp2_with fail; go_meet; exact ⟨rfl, HBb⟩)
    case rest =>
    obtain ⟨rfl, hc⟩ := hcut
    replace HW := hideP (below_trans HW.out hc.out)
    replace P0 := hideP (keep P0.out hc.out)
    replace G0 := hideP (keep G0.out hc.out)
    replace Hx1 := hideP (Hx1.out.stays hc.out)
    replace Hx2 := hideP (Hx2.out.stays hc.out)
    clear hc
    obtain ⟨wd, hwd⟩ : ∃ wd, wc = wd := ⟨_, rfl⟩
    subst hwd
    go_wp2_with fail
    refine (TO1.out _ HW.out).mono ?_
    rintro ylz1 wlz1 ⟨glz1, rfl, hlz1, blz1⟩
    replace HW := hideP (below_trans HW.out blz1)
    replace P0 := hideP (keep P0.out blz1)
    replace Hx1 := hideP (Hx1.out.stays blz1)
    replace Hx2 := hideP (Hx2.out.stays blz1)
    have Hz1 := hideP hlz1
    clear hlz1 blz1
    go_wp2_with fail
    refine (eqIntS_same La _ _ _ _ _ _ _ Hx1.out Hz1.out).mono ?_
    rintro yez1 wez1 ⟨rfl, bez1⟩
    replace HW := hideP (below_trans HW.out bez1)
    replace Hx1 := hideP (Hx1.out.stays bez1)
    replace Hx2 := hideP (Hx2.out.stays bez1)
    replace P0 := hideP (keep P0.out bez1)
    clear bez1
    go_wp2_with fail
    refine (TO2.out _ HW.out).mono ?_
    rintro ylz2 wlz2 ⟨glz2, rfl, hlz2, blz2⟩
    replace HW := hideP (below_trans HW.out blz2)
    replace P0 := hideP (keep P0.out blz2)
    replace Hx2 := hideP (Hx2.out.stays blz2)
    have Hz2 := hideP hlz2
    clear hlz2 blz2
    go_wp2_with fail
    refine (eqIntS_same Lb _ _ _ _ _ _ _ Hx2.out Hz2.out).mono ?_
    rintro yez2 wez2 ⟨rfl, bez2⟩
    replace HW := hideP (below_trans HW.out bez2)
    replace Hx2 := hideP (Hx2.out.stays bez2)
    replace P0 := hideP (keep P0.out bez2)
    clear bez2
    go_wp2
    go_ret
    exact ⟨rfl, HW.out⟩
  · have E0 := hideP (szR_neg (Nat.lt_of_not_le hp0))
    clear hp0 h0 
    go_enter Tryd.func4, Tryd.ntmps4
    go_wp2_with fail
    refine (SP0.out _ ((Below.refl _ _).alloc (Nat.le_refl _) _)).mono ?_
    rintro y0 wz0 ⟨rfl, belz⟩
    rw [E0.out]
    have P0 := hideP (keep (blk_new w _) belz)
    have HW := hideP (below_new belz)
    clear belz SP0 E0
    go_wp2
    go_ret
    exact ⟨rfl, HW.out⟩
end CostLaw
end Go.Proofs.YtpkfbabgcinhhaaDoor
