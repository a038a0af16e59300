/- The walk of the law FnExactAsm (written by wip/mklaw.py). -/
import Derived.Test.YtheholgdfmipbaaDoorAmY
import Derived.Test.YtheholgdfmipbaaDoorImageSz
import Derived.Test.YtheholgdfmipbaaDoorImageTo
import Derived.Test.YtheholgdfmipbaaDoorImageEq
import Derived.Deep.CutRange
import Derived.Deep.RegionHeld3
namespace Go.Proofs.YtheholgdfmipbaaDoor
open Go.ChangeShapes Go.WideShapes Go.ChangeAt Go.RowKit
namespace AsmLaw
theorem keep {W W' : World} {b : Nat} {o : Obj} (h : W.heap[b]? = some o) (bel : Below W.heap.size W W') : W'.heap[b]? = some o := (bel.block b (Array.getElem?_eq_some_iff.1 h).1).trans h
theorem blk_new (w : World) (o : Obj) : (w.alloc o).heap[w.heap.size]? = some o := by show (w.heap.push o)[w.heap.size]? = _; exact Array.getElem?_push_size
theorem pos_of {W : World} {b : Nat} {o : Obj} (h : W.heap[b]? = some o) : 0 < W.heap.size := Nat.lt_of_le_of_lt (Nat.zero_le _) (Array.getElem?_eq_some_iff.1 h).1
set_option maxRecDepth 100000 in
set_option maxHeartbeats 16000000 in
theorem walk (x0 : Img) (v0 : Array Value) (w : World) (h0 : ImgIs w 0 v0 x0) (htab : TabM w) :
    Calls Tryd.prog 4 #[.agg v0] w fun en w' => en = .returned (.bool true) ∧ Below w.heap.size w w' := by
  obtain ⟨sizesa, paramsa, slotsa, codea⟩ := x0
  have g0 := h0
  obtain ⟨usizesa1, csizesa1, ucodea1, ccodea1, rfl, _⟩ := g0
  simp only at *
  have HT := hideP htab
  clear htab
  have SP0 : Hid (∀ W, Below w.heap.size w W → _) := fun W hW => szImage_any (⟨sizesa, paramsa, slotsa, codea⟩ : Img) W 0 _ 1048576 (ImgKeeps.stays h0 hW) (by omega)
  by_cases hp0 : (⟨sizesa, paramsa, slotsa, codea⟩ : Img).sz ≤ 1048576
  · obtain ⟨L1, hL1⟩ : ∃ L, 1048576 - (⟨sizesa, paramsa, slotsa, codea⟩ : Img).sz = L := ⟨_, rfl⟩
    have TO0 := hideP (toImage_in w 0 _ h0 (by omega))
    obtain ⟨r, hr⟩ : ∃ r : ByteArray, ⟨(asmL (⟨sizesa, paramsa, slotsa, codea⟩ : Img)).toArray⟩ = r := ⟨_, rfl⟩
    have SO : Hid (∀ W A0 x0, Below w.heap.size w W → ImgIs W A0 x0 (⟨sizesa, paramsa, slotsa, codea⟩ : Img) → Calls Tryd.prog 10 #[.agg x0] W fun en w' => en = .returned (.string r) ∧ Below W.heap.size W w') := fun W A0 x0 hbw y0 => by rw [← hr]; exact spec_asm _ W A0 x0 y0
    have IO : Hid (∀ W A0 x0, Below w.heap.size w W → ImgIs W A0 x0 (⟨sizesa, paramsa, slotsa, codea⟩ : Img) → 0 < A0 → Calls Tryd.prog 12 #[.agg x0] W fun en w' => en = .returned (.string r) ∧ Below W.heap.size W w') := fun W A0 x0 hbw y0 hpos => by rw [← hr]; exact impl_asmQ _ W A0 x0 y0 (HT.out.stays hbw)
    have E0 := hideP (szR_pos hp0)
    have HL1 := hideP hL1
    clear hr hp0 h0 hL1
    go_enter Tryd.func4, Tryd.ntmps4
    go_wp2_with fail
    refine (SP0.out _ ((Below.refl _ _).alloc (Nat.le_refl _) _)).mono ?_
    rintro y0 wz0 ⟨rfl, belz⟩
    rw [E0.out, HL1.out]
    have P0 := hideP (keep (blk_new w _) belz)
    have HW := hideP (below_new belz)
    clear belz SP0 E0
    have p0 := (cells_of P0.out).1 0
    have p1 := (cells_of P0.out).1 1
    have p2 := (cells_of P0.out).1 2
    have p3 := (cells_of P0.out).1 3
    simp at p0 p1 p2 p3
    go_wp2_with fail
    refine (TO0.out _ HW.out).mono ?_
    rintro y3 w3 ⟨usizesa3, csizesa3, ucodea3, ccodea3, rfl, hx3, bel3⟩
    replace HW := hideP (below_trans HW.out bel3)
    replace P0 := hideP (keep P0.out bel3)
    have HX3 := hideP hx3
    clear hx3 bel3 p0 p1 p2 p3
    go_wp2_with fail
    refine (SO.out _ _ _ HW.out HX3.out).mono ?_
    rintro y4 w4 ⟨rfl, bel4⟩
    replace HW := hideP (below_trans HW.out bel4)
    replace P0 := hideP (keep P0.out bel4)
    clear bel4 HX3 SO
    have hpos : Hid (0 < w4.heap.size) := pos_of P0.out
    have p0 := (cells_of P0.out).1 0
    have p1 := (cells_of P0.out).1 1
    have p2 := (cells_of P0.out).1 2
    have p3 := (cells_of P0.out).1 3
    simp at p0 p1 p2 p3
    go_wp2_with fail
    refine (TO0.out _ HW.out).mono ?_
    rintro yx0 wx0 ⟨usizesax, csizesax, ucodeax, ccodeax, rfl, hx, bel⟩
    replace HW := hideP (below_trans HW.out bel)
    replace P0 := hideP (keep P0.out bel)
    have al := (Below.refl wx0.heap.size wx0).alloc (Nat.le_refl _) (.cells #[.slice usizesax sizesa.length csizesax, .int .i64 paramsa, .int .i64 slotsa, .slice ucodeax codea.length ccodeax] 33)
    have G0 := hideP (blk_new wx0 (.cells #[.slice usizesax sizesa.length csizesax, .int .i64 paramsa, .int .i64 slotsa, .slice ucodeax codea.length ccodeax] 33))
    have HX0 := hideP (ImgKeeps.stays hx al)
    replace HW := hideP (below_trans HW.out al)
    replace P0 := hideP (keep P0.out al)
    clear hx bel al p0 p1 p2 p3
    have g0_0 := (cells_of G0.out).1 0
    have g0_1 := (cells_of G0.out).1 1
    have g0_2 := (cells_of G0.out).1 2
    have g0_3 := (cells_of G0.out).1 3
    simp at g0_0 g0_1 g0_2 g0_3
    go_wp2_with fail
    refine (IO.out _ _ _ HW.out HX0.out hpos.out).mono ?_
    rintro y8 w8 ⟨rfl, bel8⟩
    replace HW := hideP (below_trans HW.out bel8)
    replace P0 := hideP (keep P0.out bel8)
    replace G0 := hideP (keep G0.out bel8)
    replace HX0 := hideP (ImgKeeps.stays HX0.out bel8)
    clear bel8 IO hpos g0_0 g0_1 g0_2 g0_3
    go_upto_region 10 with fail
    go_cut [26] from 22 to 26 (fun sx wx => sx = .bool false ∧ Hid (Below w8.heap.size w8 wx))
    case first =>
      have e0 := (cells_of G0.out).1
      have l0 : wx0.heap.size < w8.heap.size := (Array.getElem?_eq_some_iff.1 G0.out).1
      have e1 := (cells_of P0.out).1
      have l1 : w.heap.size < w8.heap.size := (Array.getElem?_eq_some_iff.1 P0.out).1
      have SK : Hid (∀ W', Below w8.heap.size w8 W' → W'.cell? ⟨wx0.heap.size, 0, none⟩ = some (.slice usizesax sizesa.length csizesax) ∧ W'.cell? ⟨wx0.heap.size, 1, none⟩ = some (.int .i64 paramsa) ∧ W'.cell? ⟨wx0.heap.size, 2, none⟩ = some (.int .i64 slotsa) ∧ W'.cell? ⟨wx0.heap.size, 3, none⟩ = some (.slice ucodeax codea.length ccodeax) ∧ W'.cell? ⟨w.heap.size, 0, none⟩ = some (.slice usizesa1 sizesa.length csizesa1) ∧ W'.cell? ⟨w.heap.size, 1, none⟩ = some (.int .i64 paramsa) ∧ W'.cell? ⟨w.heap.size, 2, none⟩ = some (.int .i64 slotsa) ∧ W'.cell? ⟨w.heap.size, 3, none⟩ = some (.slice ucodea1 codea.length ccodea1)) := fun W' h => ⟨(h.cell (p := ⟨wx0.heap.size, 0, none⟩) l0).trans (e0 0), (h.cell (p := ⟨wx0.heap.size, 1, none⟩) l0).trans (e0 1), (h.cell (p := ⟨wx0.heap.size, 2, none⟩) l0).trans (e0 2), (h.cell (p := ⟨wx0.heap.size, 3, none⟩) l0).trans (e0 3), (h.cell (p := ⟨w.heap.size, 0, none⟩) l1).trans (e1 0), (h.cell (p := ⟨w.heap.size, 1, none⟩) l1).trans (e1 1), (h.cell (p := ⟨w.heap.size, 2, none⟩) l1).trans (e1 2), (h.cell (p := ⟨w.heap.size, 3, none⟩) l1).trans (e1 3)⟩
      clear e0 l0 e1 l1
      go_region_held3 (fun W' => W'.cell? ⟨wx0.heap.size, 0, none⟩ = some (.slice usizesax sizesa.length csizesax) ∧ W'.cell? ⟨wx0.heap.size, 1, none⟩ = some (.int .i64 paramsa) ∧ W'.cell? ⟨wx0.heap.size, 2, none⟩ = some (.int .i64 slotsa) ∧ W'.cell? ⟨wx0.heap.size, 3, none⟩ = some (.slice ucodeax codea.length ccodeax) ∧ W'.cell? ⟨w.heap.size, 0, none⟩ = some (.slice usizesa1 sizesa.length csizesa1) ∧ W'.cell? ⟨w.heap.size, 1, none⟩ = some (.int .i64 paramsa) ∧ W'.cell? ⟨w.heap.size, 2, none⟩ = some (.int .i64 slotsa) ∧ W'.cell? ⟨w.heap.size, 3, none⟩ = some (.slice ucodea1 codea.length ccodea1)) (first | exact SK.out _ (Below.refl _ _).drew | exact SK.out _ HBb.out | exact SK.out _ HBa.out) (first
          | (go_at_call 11; refine (TO0.out _ HW.out.drew).mono ?_; rintro yya wya ⟨usizesay, csizesay, ucodeay, ccodeay, rfl, hxa, bela⟩; have HY := hideP hxa; have HBa := hideP ((Below.refl w8.heap.size w8).drew.trans (bela.mono (Nat.le_refl _))); clear bela hxa)
          | (go_at_call 13; refine (eqImage_same (⟨sizesa, paramsa, slotsa, codea⟩ : Img) _ _ _ _ _ (ImgKeeps.stays HX0.out HBa.out) HY.out).mono ?_; rintro yyb wyb ⟨rfl, belb⟩; have HBb := hideP (HBa.out.trans (belb.mono HBa.out.size)); clear belb))
      all_goals (go_wp2_with fail; go_meet; exact ⟨rfl, HBb⟩)
    case rest =>
    obtain ⟨rfl, hc⟩ := hcut
    replace HW := hideP (below_trans HW.out hc.out)
    replace P0 := hideP (keep P0.out hc.out)
    replace G0 := hideP (keep G0.out hc.out)
    replace HX0 := hideP (ImgKeeps.stays HX0.out hc.out)
    clear hc
    obtain ⟨wd, hwd⟩ : ∃ wd, wc = wd := ⟨_, rfl⟩
    subst hwd
    go_wp2
    go_ret
    exact ⟨rfl, HW.out⟩
  · have E0 := hideP (szR_neg (Nat.lt_of_not_le hp0))
    clear hp0 h0 
    go_enter Tryd.func4, Tryd.ntmps4
    go_wp2_with fail
    refine (SP0.out _ ((Below.refl _ _).alloc (Nat.le_refl _) _)).mono ?_
    rintro y0 wz0 ⟨rfl, belz⟩
    rw [E0.out]
    have P0 := hideP (keep (blk_new w _) belz)
    have HW := hideP (below_new belz)
    clear belz SP0 E0
    go_wp2
    go_ret
    exact ⟨rfl, HW.out⟩
end AsmLaw
end Go.Proofs.YtheholgdfmipbaaDoor
