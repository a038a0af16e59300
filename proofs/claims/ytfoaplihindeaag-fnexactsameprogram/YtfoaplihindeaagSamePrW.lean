/- The walk of the law FnExactSameProgram (written by wip/mklaw3.py). -/
import Derived.Test.YtfoaplihindeaagSamePrS
import Derived.Test.YtfoaplihindeaagToIn
import Derived.Test.YtfoaplihindeaagEqT
namespace Go.Proofs.Ytfoaplihindeaag
open Go.ChangeShapes Go.WideShapes Go.ChangeAt Go.RowKit
namespace SameProgramLaw
theorem keep {W W' : World} {b : Nat} {o : Obj} (h : W.heap[b]? = some o) (bel : Below W.heap.size W W') : W'.heap[b]? = some o := (bel.block b (Array.getElem?_eq_some_iff.1 h).1).trans h
theorem blk_new (w : World) (o : Obj) : (w.alloc o).heap[w.heap.size]? = some o := by show (w.heap.push o)[w.heap.size]? = _; exact Array.getElem?_push_size
theorem pos_of {W : World} {b : Nat} {o : Obj} (h : W.heap[b]? = some o) : 0 < W.heap.size := Nat.lt_of_le_of_lt (Nat.zero_le _) (Array.getElem?_eq_some_iff.1 h).1
set_option maxRecDepth 100000 in
set_option maxHeartbeats 16000000 in
theorem walk (x : Pr) (y : Pr) (v1 v2 : Array Value) (w : World) (h1 : PrIs w 0 v1 x) (h2 : PrIs w 0 v2 y) :
    Calls Try.prog 4 #[.agg v1, .agg v2] w fun en w' => en = .returned (.bool true) ∧ Below w.heap.size w w' := by
  obtain ⟨sizesa, paramsa, varsa, bodya⟩ := x
  obtain ⟨sizesb, paramsb, varsb, bodyb⟩ := y
  have g1 := h1
  obtain ⟨u1, c1, d1, m1, rfl, _⟩ := g1
  have g2 := h2
  obtain ⟨u2, c2, d2, m2, rfl, _⟩ := g2
  simp only at *
  have SP : Hid (∀ W, Below w.heap.size w W → _) := fun W hW => szProgram_any (⟨sizesa, paramsa, varsa, bodya⟩ : Pr) W 0 _ 1048576 (h1.stays hW) (by omega)
  by_cases hp : (⟨sizesa, paramsa, varsa, bodya⟩ : Pr).sz ≤ 1048576
  · obtain ⟨L, hL⟩ : ∃ L, 1048576 - (⟨sizesa, paramsa, varsa, bodya⟩ : Pr).sz = L := ⟨_, rfl⟩
    have SE : Hid (∀ W, Below w.heap.size w W → _) := fun W hW => szProgram_any (⟨sizesb, paramsb, varsb, bodyb⟩ : Pr) W 0 _ L (h2.stays hW) (by omega)
    by_cases he : (⟨sizesb, paramsb, varsb, bodyb⟩ : Pr).sz ≤ L
    · have TP := hideP (toProgram_in (⟨sizesa, paramsa, varsa, bodya⟩ : Pr) w 0 _ h1 hp)
      have TE := hideP (toProgram_in (⟨sizesb, paramsb, varsb, bodyb⟩ : Pr) w 0 _ h2 (by omega))
      have hez : (⟨sizesb, paramsb, varsb, bodyb⟩ : Pr).sz ≤ 1048576 := by omega
      obtain ⟨r, hr⟩ : ∃ r : Bool, (r = true ↔ (⟨sizesa, paramsa, varsa, bodya⟩ : Pr) = (⟨sizesb, paramsb, varsb, bodyb⟩ : Pr)) := by
        by_cases h : (⟨sizesa, paramsa, varsa, bodya⟩ : Pr) = (⟨sizesb, paramsb, varsb, bodyb⟩ : Pr)
        · exact ⟨true, fun _ => h, fun _ => rfl⟩
        · exact ⟨false, fun h0 => Bool.noConfusion h0, fun h0 => absurd h0 h⟩
      have SO : Hid (∀ W A1 A2 x1 x2, PrIs W A1 x1 (⟨sizesa, paramsa, varsa, bodya⟩ : Pr) → PrIs W A2 x2 (⟨sizesb, paramsb, varsb, bodyb⟩ : Pr) → Calls Try.prog 12 #[.agg x1, .agg x2] W fun en w' => en = .returned (.bool r) ∧ Below W.heap.size W w') := fun W A1 A2 x1 x2 y1 y2 => spec_sameProgram _ _ W A1 A2 x1 x2 r hr y1 y2
      have IO : Hid (∀ W A1 A2 x1 x2, PrIs W A1 x1 (⟨sizesa, paramsa, varsa, bodya⟩ : Pr) → PrIs W A2 x2 (⟨sizesb, paramsb, varsb, bodyb⟩ : Pr) → 0 < A1 → 0 < A2 → Calls Try.prog 13 #[.agg x1, .agg x2] W fun en w' => en = .returned (.bool r) ∧ Below W.heap.size W w') := fun W A1 A2 x1 x2 y1 y2 z1 z2 => impl_sameProgram _ _ W A1 A2 x1 x2 r hr y1 y2 z1 z2 hp hez
      simp only at TP TE
      have E1 := hideP (szR_pos hp)
      have E2 := hideP (szR_pos he)
      have HL := hideP hL
      clear hr hp he h1 h2 hL hez 
      go_enter Try.func4, Try.ntmps4
      go_wp2_with fail
      refine (SP.out _ (below2 w _ _)).mono ?_
      rintro y1 w1 ⟨rfl, bel1⟩
      rw [E1.out, HL.out]
      obtain ⟨q1, q2, hz, hw⟩ := two bel1
      have HW := hideP hw
      have Q1 := hideP q1
      have Q2 := hideP q2
      clear q1 q2 hw bel1 SP E1
      have f0 := (cells_of Q2.out).1 0
      have f1 := (cells_of Q2.out).1 1
      have f2 := (cells_of Q2.out).1 2
      have f3 := (cells_of Q2.out).1 3
      simp at f0 f1 f2 f3
      go_wp2_with fail
      refine (SE.out _ HW.out).mono ?_
      rintro y1 w2 ⟨rfl, bel2⟩
      rw [E2.out]
      have HW2 := hideP (below_trans HW.out bel2)
      have P2 := hideP (keep Q1.out bel2)
      have X2 := hideP (keep Q2.out bel2)
      clear f0 f1 f2 f3 bel2 SE E2 HW Q1 Q2
      go_upto_region 8 with fail
      go_cut [6] from 20 to 24 (fun s6 wx => s6 = .bool r ∧ Hid (Below w2.heap.size w2 wx))
      case first =>
        have e0 := (cells_of P2.out).1
        have l0 : w.heap.size < w2.heap.size := (Array.getElem?_eq_some_iff.1 P2.out).1
        have e1 := (cells_of X2.out).1
        have l1 : w.heap.size + 1 < w2.heap.size := (Array.getElem?_eq_some_iff.1 X2.out).1
        have SK : Hid (∀ W', Below w2.heap.size w2 W' → W'.cell? ⟨w.heap.size, 0, none⟩ = some (.slice u1 sizesa.length c1) ∧ W'.cell? ⟨w.heap.size, 1, none⟩ = some (.int .i64 paramsa) ∧ W'.cell? ⟨w.heap.size, 2, none⟩ = some (.int .i64 varsa) ∧ W'.cell? ⟨w.heap.size, 3, none⟩ = some (.slice d1 bodya.length m1) ∧ W'.cell? ⟨w.heap.size + 1, 0, none⟩ = some (.slice u2 sizesb.length c2) ∧ W'.cell? ⟨w.heap.size + 1, 1, none⟩ = some (.int .i64 paramsb) ∧ W'.cell? ⟨w.heap.size + 1, 2, none⟩ = some (.int .i64 varsb) ∧ W'.cell? ⟨w.heap.size + 1, 3, none⟩ = some (.slice d2 bodyb.length m2)) := fun W' h => ⟨(h.cell (p := ⟨w.heap.size, 0, none⟩) l0).trans (e0 0), (h.cell (p := ⟨w.heap.size, 1, none⟩) l0).trans (e0 1), (h.cell (p := ⟨w.heap.size, 2, none⟩) l0).trans (e0 2), (h.cell (p := ⟨w.heap.size, 3, none⟩) l0).trans (e0 3), (h.cell (p := ⟨w.heap.size + 1, 0, none⟩) l1).trans (e1 0), (h.cell (p := ⟨w.heap.size + 1, 1, none⟩) l1).trans (e1 1), (h.cell (p := ⟨w.heap.size + 1, 2, none⟩) l1).trans (e1 2), (h.cell (p := ⟨w.heap.size + 1, 3, none⟩) l1).trans (e1 3)⟩
        clear e0 l0 e1 l1
        go_region_held3 (fun W' => W'.cell? ⟨w.heap.size, 0, none⟩ = some (.slice u1 sizesa.length c1) ∧ W'.cell? ⟨w.heap.size, 1, none⟩ = some (.int .i64 paramsa) ∧ W'.cell? ⟨w.heap.size, 2, none⟩ = some (.int .i64 varsa) ∧ W'.cell? ⟨w.heap.size, 3, none⟩ = some (.slice d1 bodya.length m1) ∧ W'.cell? ⟨w.heap.size + 1, 0, none⟩ = some (.slice u2 sizesb.length c2) ∧ W'.cell? ⟨w.heap.size + 1, 1, none⟩ = some (.int .i64 paramsb) ∧ W'.cell? ⟨w.heap.size + 1, 2, none⟩ = some (.int .i64 varsb) ∧ W'.cell? ⟨w.heap.size + 1, 3, none⟩ = some (.slice d2 bodyb.length m2)) (first | exact SK.out _ (Below.refl _ _).drew | exact SK.out _ HB5.out | exact SK.out _ HB4.out | exact SK.out _ HB3.out) (first
          | (go_at_call 9; have tk := TP; refine (TP.out _ HW2.out.drew).mono ?_; rintro y3 w3 ⟨u3, c3, d3, m3, rfl, hp3, bel3⟩; have HP3 := hideP hp3; have HB3 := hideP ((Below.refl w2.heap.size w2).drew.trans (bel3.mono (Nat.le_refl _))); clear bel3 hp3 tk TP)
          | (go_at_call 9; refine (TE.out _ (HW2.out.trans (HB3.out.mono HW2.out.size))).mono ?_; rintro y4 w4 ⟨u4, c4, d4, m4, rfl, hx4, bel4⟩; have HX4 := hideP hx4; have HP4 := hideP (HP3.out.stays bel4); have HB4 := hideP (HB3.out.trans (bel4.mono HB3.out.size)); clear bel4 hx4)
          | (go_at_call 12; refine (SO.out _ _ _ _ _ HP4.out HX4.out).mono ?_; rintro y5 w5 ⟨rfl, bel5⟩; have HB5 := hideP (HB4.out.trans (bel5.mono HB4.out.size)); clear bel5))
        all_goals (go_wp2_with fail; go_meet; exact ⟨rfl, HB5⟩)
      case rest =>
      obtain ⟨rfl, hc⟩ := hcut
      have HW5 := hideP (HW2.out.trans (hc.out.mono HW2.out.size))
      have P5 := hideP (keep P2.out hc.out)
      have X5 := hideP (keep X2.out hc.out)
      have S1 := hideP (pos_of P5.out)
      clear hc SO HW2 P2 X2
      have p0 := (cells_of P5.out).1 0
      have p1 := (cells_of P5.out).1 1
      have p2 := (cells_of P5.out).1 2
      have p3 := (cells_of P5.out).1 3
      simp at p0 p1 p2 p3
      go_wp2_with fail
      refine (TP.out _ HW5.out).mono ?_
      rintro y6 w6 ⟨u6, c6, d6, m6, rfl, hp6, bel6⟩
      have al := (Below.refl w6.heap.size w6).alloc (Nat.le_refl _) (.cells #[.slice u6 sizesa.length c6, .int .i64 paramsa, .int .i64 varsa, .slice d6 bodya.length m6] 30)
      have HP6 := hideP (hp6.stays al)
      have HW6 := hideP ((below_trans HW5.out bel6).trans (al.mono (below_trans HW5.out bel6).size))
      have P6 := hideP (keep (keep P5.out bel6) al)
      have X6 := hideP (keep (keep X5.out bel6) al)
      have S2 := hideP (pos_of X6.out)
      clear p0 p1 p2 p3 hp6 bel6 P5 X5 HW5 al
      have f0 := (cells_of X6.out).1 0
      have f1 := (cells_of X6.out).1 1
      have f2 := (cells_of X6.out).1 2
      have f3 := (cells_of X6.out).1 3
      simp at f0 f1 f2 f3
      go_wp2_with fail
      refine (TE.out _ HW6.out).mono ?_
      rintro y7 w7 ⟨u7, c7, d7, m7, rfl, hx7, bel7⟩
      have al := (Below.refl w7.heap.size w7).alloc (Nat.le_refl _) (.cells #[.slice u7 sizesb.length c7, .int .i64 paramsb, .int .i64 varsb, .slice d7 bodyb.length m7] 30)
      have G7 := hideP (keep (keep (blk_new w6 _) bel7) al)
      have H7 := hideP (blk_new w7 (.cells #[.slice u7 sizesb.length c7, .int .i64 paramsb, .int .i64 varsb, .slice d7 bodyb.length m7] 30))
      have HP7 := hideP ((HP6.out.stays bel7).stays al)
      have HX7 := hideP (hx7.stays al)
      have HW7 := hideP ((below_trans HW6.out bel7).trans (al.mono (below_trans HW6.out bel7).size))
      have P7 := hideP (keep (keep P6.out bel7) al)
      have X7 := hideP (keep (keep X6.out bel7) al)
      clear f0 f1 f2 f3 hx7 bel7 al P6 X6 HW6 HP6
      have g0 := (cells_of G7.out).1 0
      have g1 := (cells_of G7.out).1 1
      have g2 := (cells_of G7.out).1 2
      have g3 := (cells_of G7.out).1 3
      simp at g0 g1 g2 g3
      have h0 := (cells_of H7.out).1 0
      have h1 := (cells_of H7.out).1 1
      have h2 := (cells_of H7.out).1 2
      have h3 := (cells_of H7.out).1 3
      simp at h0 h1 h2 h3
      go_wp2_with fail
      refine (IO.out _ _ _ _ _ HP7.out HX7.out S1.out S2.out).mono ?_
      rintro y8 w8 ⟨rfl, bel8⟩
      have G8 := hideP (keep G7.out bel8)
      have H8 := hideP (keep H7.out bel8)
      have HP8 := hideP (HP7.out.stays bel8)
      have HX8 := hideP (HX7.out.stays bel8)
      have HW8 := hideP (below_trans HW7.out bel8)
      have P8 := hideP (keep P7.out bel8)
      have X8 := hideP (keep X7.out bel8)
      clear g0 g1 g2 g3 h0 h1 h2 h3 bel8 P7 X7 HW7 HP7 HX7 G7 H7 IO
      go_upto_region 14 with fail
      go_cut [39] from 35 to 39 (fun s39 wx => s39 = .bool false ∧ Hid (Below w8.heap.size w8 wx))
      case first =>
        have e0 := (cells_of G8.out).1
        have l0 : w6.heap.size < w8.heap.size := (Array.getElem?_eq_some_iff.1 G8.out).1
        have e1 := (cells_of P8.out).1
        have l1 : w.heap.size < w8.heap.size := (Array.getElem?_eq_some_iff.1 P8.out).1
        have SK : Hid (∀ W', Below w8.heap.size w8 W' → W'.cell? ⟨w6.heap.size, 0, none⟩ = some (.slice u6 sizesa.length c6) ∧ W'.cell? ⟨w6.heap.size, 1, none⟩ = some (.int .i64 paramsa) ∧ W'.cell? ⟨w6.heap.size, 2, none⟩ = some (.int .i64 varsa) ∧ W'.cell? ⟨w6.heap.size, 3, none⟩ = some (.slice d6 bodya.length m6) ∧ W'.cell? ⟨w.heap.size, 0, none⟩ = some (.slice u1 sizesa.length c1) ∧ W'.cell? ⟨w.heap.size, 1, none⟩ = some (.int .i64 paramsa) ∧ W'.cell? ⟨w.heap.size, 2, none⟩ = some (.int .i64 varsa) ∧ W'.cell? ⟨w.heap.size, 3, none⟩ = some (.slice d1 bodya.length m1)) := fun W' h => ⟨(h.cell (p := ⟨w6.heap.size, 0, none⟩) l0).trans (e0 0), (h.cell (p := ⟨w6.heap.size, 1, none⟩) l0).trans (e0 1), (h.cell (p := ⟨w6.heap.size, 2, none⟩) l0).trans (e0 2), (h.cell (p := ⟨w6.heap.size, 3, none⟩) l0).trans (e0 3), (h.cell (p := ⟨w.heap.size, 0, none⟩) l1).trans (e1 0), (h.cell (p := ⟨w.heap.size, 1, none⟩) l1).trans (e1 1), (h.cell (p := ⟨w.heap.size, 2, none⟩) l1).trans (e1 2), (h.cell (p := ⟨w.heap.size, 3, none⟩) l1).trans (e1 3)⟩
        clear e0 l0 e1 l1
        go_region_held3 (fun W' => W'.cell? ⟨w6.heap.size, 0, none⟩ = some (.slice u6 sizesa.length c6) ∧ W'.cell? ⟨w6.heap.size, 1, none⟩ = some (.int .i64 paramsa) ∧ W'.cell? ⟨w6.heap.size, 2, none⟩ = some (.int .i64 varsa) ∧ W'.cell? ⟨w6.heap.size, 3, none⟩ = some (.slice d6 bodya.length m6) ∧ W'.cell? ⟨w.heap.size, 0, none⟩ = some (.slice u1 sizesa.length c1) ∧ W'.cell? ⟨w.heap.size, 1, none⟩ = some (.int .i64 paramsa) ∧ W'.cell? ⟨w.heap.size, 2, none⟩ = some (.int .i64 varsa) ∧ W'.cell? ⟨w.heap.size, 3, none⟩ = some (.slice d1 bodya.length m1)) (first | exact SK.out _ (Below.refl _ _).drew | exact SK.out _ HB10.out | exact SK.out _ HB9.out) (first
          | (go_at_call 9; refine (TP.out _ HW8.out.drew).mono ?_; rintro y9 w9 ⟨u9, c9, d9, m9, rfl, hp9, bel9⟩; have HP9 := hideP hp9; have HB9 := hideP ((Below.refl w8.heap.size w8).drew.trans (bel9.mono (Nat.le_refl _))); clear bel9 hp9)
          | (go_at_call 11; refine (eqProgram_any (⟨sizesa, paramsa, varsa, bodya⟩ : Pr) _ _ _ _ _ (HP8.out.stays HB9.out) HP9.out).mono ?_; rintro y10 w10 ⟨rfl, bel10⟩; have HB10 := hideP (HB9.out.trans (bel10.mono HB9.out.size)); clear bel10))
        all_goals (go_wp2_with fail; go_meet; exact ⟨rfl, HB10⟩)
      case rest =>
      obtain ⟨rfl, hc⟩ := hcut
      have HW10 := hideP (HW8.out.trans (hc.out.mono HW8.out.size))
      have H10 := hideP (keep H8.out hc.out)
      have X10 := hideP (keep X8.out hc.out)
      have HX10 := hideP (HX8.out.stays hc.out)
      clear hc HW8 P8 X8 G8 H8 HP8 HX8 TP
      obtain ⟨w10, hw10⟩ : ∃ w10, wc = w10 := ⟨_, rfl⟩
      subst hw10
      go_upto_region 16 with fail
      go_cut [44] from 40 to 44 (fun s44 wx => s44 = .bool false ∧ Hid (Below wc.heap.size wc wx))
      case first =>
        have e0 := (cells_of H10.out).1
        have l0 : w7.heap.size < wc.heap.size := (Array.getElem?_eq_some_iff.1 H10.out).1
        have e1 := (cells_of X10.out).1
        have l1 : w.heap.size + 1 < wc.heap.size := (Array.getElem?_eq_some_iff.1 X10.out).1
        have SK : Hid (∀ W', Below wc.heap.size wc W' → W'.cell? ⟨w7.heap.size, 0, none⟩ = some (.slice u7 sizesb.length c7) ∧ W'.cell? ⟨w7.heap.size, 1, none⟩ = some (.int .i64 paramsb) ∧ W'.cell? ⟨w7.heap.size, 2, none⟩ = some (.int .i64 varsb) ∧ W'.cell? ⟨w7.heap.size, 3, none⟩ = some (.slice d7 bodyb.length m7) ∧ W'.cell? ⟨w.heap.size + 1, 0, none⟩ = some (.slice u2 sizesb.length c2) ∧ W'.cell? ⟨w.heap.size + 1, 1, none⟩ = some (.int .i64 paramsb) ∧ W'.cell? ⟨w.heap.size + 1, 2, none⟩ = some (.int .i64 varsb) ∧ W'.cell? ⟨w.heap.size + 1, 3, none⟩ = some (.slice d2 bodyb.length m2)) := fun W' h => ⟨(h.cell (p := ⟨w7.heap.size, 0, none⟩) l0).trans (e0 0), (h.cell (p := ⟨w7.heap.size, 1, none⟩) l0).trans (e0 1), (h.cell (p := ⟨w7.heap.size, 2, none⟩) l0).trans (e0 2), (h.cell (p := ⟨w7.heap.size, 3, none⟩) l0).trans (e0 3), (h.cell (p := ⟨w.heap.size + 1, 0, none⟩) l1).trans (e1 0), (h.cell (p := ⟨w.heap.size + 1, 1, none⟩) l1).trans (e1 1), (h.cell (p := ⟨w.heap.size + 1, 2, none⟩) l1).trans (e1 2), (h.cell (p := ⟨w.heap.size + 1, 3, none⟩) l1).trans (e1 3)⟩
        clear e0 l0 e1 l1
        go_region_held3 (fun W' => W'.cell? ⟨w7.heap.size, 0, none⟩ = some (.slice u7 sizesb.length c7) ∧ W'.cell? ⟨w7.heap.size, 1, none⟩ = some (.int .i64 paramsb) ∧ W'.cell? ⟨w7.heap.size, 2, none⟩ = some (.int .i64 varsb) ∧ W'.cell? ⟨w7.heap.size, 3, none⟩ = some (.slice d7 bodyb.length m7) ∧ W'.cell? ⟨w.heap.size + 1, 0, none⟩ = some (.slice u2 sizesb.length c2) ∧ W'.cell? ⟨w.heap.size + 1, 1, none⟩ = some (.int .i64 paramsb) ∧ W'.cell? ⟨w.heap.size + 1, 2, none⟩ = some (.int .i64 varsb) ∧ W'.cell? ⟨w.heap.size + 1, 3, none⟩ = some (.slice d2 bodyb.length m2)) (first | exact SK.out _ (Below.refl _ _).drew | exact SK.out _ HB12.out | exact SK.out _ HB11.out) (first
          | (go_at_call 9; refine (TE.out _ HW10.out.drew).mono ?_; rintro y11 w11 ⟨u11, c11, d11, m11, rfl, hx11, bel11⟩; have HX11 := hideP hx11; have HB11 := hideP ((Below.refl wc.heap.size wc).drew.trans (bel11.mono (Nat.le_refl _))); clear bel11 hx11)
          | (go_at_call 11; refine (eqProgram_any (⟨sizesb, paramsb, varsb, bodyb⟩ : Pr) _ _ _ _ _ (HX10.out.stays HB11.out) HX11.out).mono ?_; rintro y12 w12 ⟨rfl, bel12⟩; have HB12 := hideP (HB11.out.trans (bel12.mono HB11.out.size)); clear bel12))
        all_goals (go_wp2_with fail; go_meet; exact ⟨rfl, HB12⟩)
      case rest =>
      obtain ⟨rfl, hc⟩ := hcut
      have HW12 := hideP (HW10.out.trans (hc.out.mono HW10.out.size))
      clear hc
      go_wp2
      go_ret
      exact ⟨rfl, HW12.out⟩
    · have E1 := hideP (szR_pos hp)
      have E2 := hideP (szR_neg (Nat.lt_of_not_le he))
      have HL := hideP hL
      clear hp he h1 h2 hL
      go_enter Try.func4, Try.ntmps4
      go_wp2_with fail
      refine (SP.out _ (below2 w _ _)).mono ?_
      rintro y1 w1 ⟨rfl, bel1⟩
      rw [E1.out, HL.out]
      obtain ⟨q1, q2, hz, hw⟩ := two bel1
      have Q2 := hideP q2
      have HW := hideP hw
      clear q1 q2 hw bel1 SP E1
      have f0 := (cells_of Q2.out).1 0
      have f1 := (cells_of Q2.out).1 1
      have f2 := (cells_of Q2.out).1 2
      have f3 := (cells_of Q2.out).1 3
      simp at f0 f1 f2 f3
      go_wp2_with fail
      refine (SE.out _ HW.out).mono ?_
      rintro y1 w2 ⟨rfl, bel2⟩
      rw [E2.out]
      have HW2 := hideP (below_trans HW.out bel2)
      clear bel2 f0 f1 f2 f3 SE E2
      go_wp2
      go_ret
      exact ⟨rfl, HW2.out⟩
  · have E1 := hideP (szR_neg (Nat.lt_of_not_le hp))
    clear h1 h2 hp
    go_enter Try.func4, Try.ntmps4
    go_wp2_with fail
    refine (SP.out _ (below2 w _ _)).mono ?_
    rintro y1 w1 ⟨rfl, bel1⟩
    rw [E1.out]
    have HW := hideP (two bel1).2.2.2
    clear bel1 SP E1
    go_wp2
    go_ret
    exact ⟨rfl, HW.out⟩
end SameProgramLaw
end Go.Proofs.Ytfoaplihindeaag
