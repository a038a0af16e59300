/- The walk of the law FnExactSameEnd. -/
import Derived.Test.YtfoaplihindeaaiIntsEq
import Derived.Test.YtfoaplihindeaaiEnds
import Derived.Deep.CutRange
namespace Go.Proofs.Ytfoaplihindeaai
open Go.ChangeShapes Go.WideShapes Go.ChangeAt Go.RowKit
theorem toEnd_in (e : En) (w : World) (B : Nat) (v : Array Value) (h : EnIs w B v e) (hs : e.out.length ≤ 1048576) (W : World) (bel : Below w.heap.size w W) :
    Calls Try.prog 7 #[.agg v] W fun en w' => ∃ g, en = .returned (.agg #[.int .i64 e.code, .int .i64 e.val, .slice (some ⟨g, 0, none⟩) e.out.length e.out.length]) ∧ EnIs w' W.heap.size #[.int .i64 e.code, .int .i64 e.val, .slice (some ⟨g, 0, none⟩) e.out.length e.out.length] e ∧ Below W.heap.size W w' :=
  (toEnd_any e W B v (h.stays bel) hs).mono fun _ _ ⟨g, he, hi, hb⟩ => ⟨g, he, ⟨_, _, rfl, hi⟩, hb⟩
namespace SameEndLaw
/-- Whether two ends are alike. -/
def same (a b : En) : Bool := decide (a.code = b.code) && decide (a.val = b.val) && (a.out == b.out)
set_option maxHeartbeats 1000000 in
theorem spec_same (a b : En) (w : World) (B1 B2 : Nat) (v1 v2 : Array Value) (h1 : EnIs w B1 v1 a) (h2 : EnIs w B2 v2 b) :
    Calls Try.prog 6 #[.agg v1, .agg v2] w fun en w' => en = .returned (.bool (same a b)) ∧ Below w.heap.size w w' := by
  obtain ⟨a1, c1, rfl, i1⟩ := h1
  obtain ⟨a2, c2, rfl, i2⟩ := h2
  obtain ⟨ca, va, xs⟩ := a
  obtain ⟨cb, vb, ys⟩ := b
  simp only at i1 i2 ⊢
  by_cases hc : ca = cb
  · by_cases hv : va = vb
    · have E : Hid (same ⟨ca, va, xs⟩ ⟨cb, vb, ys⟩ = (xs == ys)) := by unfold same; rw [decide_eq_true hc, decide_eq_true hv]; rfl
      have I1 := hideP i1
      have I2 := hideP i2
      clear i1 i2
      subst hc
      subst hv
      go_enter Try.func6, Try.ntmps6
      go_wp2_with fail
      refine (l02Ints_any xs ys _ a1 a2 c1 c2 (I1.out.stays (below2 w _ _)).sees (I2.out.stays (below2 w _ _)).sees).mono ?_
      rintro e1 w1 ⟨rfl, q, rfl⟩
      go_wp2
      go_ret
      exact ⟨ret_bool E.out.symm, below_dn (below2 w _ _) q⟩
    · have E : Hid (same ⟨ca, va, xs⟩ ⟨cb, vb, ys⟩ = false) := by show same _ _ = false; unfold same; rw [decide_eq_false hv]; simp
      clear i1 i2
      subst hc
      go_enter Try.func6, Try.ntmps6
      go_wp2
      go_ret
      exact ⟨ret_bool E.out.symm, below2 w _ _⟩
  · have E : Hid (same ⟨ca, va, xs⟩ ⟨cb, vb, ys⟩ = false) := by show same _ _ = false; unfold same; rw [decide_eq_false hc]; simp
    clear i1 i2
    go_enter Try.func6, Try.ntmps6
    go_wp2
    go_ret
    exact ⟨ret_bool E.out.symm, below2 w _ _⟩
set_option maxHeartbeats 1000000 in
theorem impl_same (a b : En) (w : World) (B1 B2 : Nat) (v1 v2 : Array Value) (h1 : EnIs w B1 v1 a) (h2 : EnIs w B2 v2 b) :
    Calls Try.prog 8 #[.agg v1, .agg v2] w fun en w' => en = .returned (.bool (same a b)) ∧ Below w.heap.size w w' := by
  obtain ⟨a1, c1, rfl, i1⟩ := h1
  obtain ⟨a2, c2, rfl, i2⟩ := h2
  obtain ⟨ca, va, xs⟩ := a
  obtain ⟨cb, vb, ys⟩ := b
  simp only at i1 i2 ⊢
  by_cases hc : ca = cb
  · by_cases hv : va = vb
    · have E : Hid (same ⟨ca, va, xs⟩ ⟨cb, vb, ys⟩ = (xs == ys)) := by unfold same; rw [decide_eq_true hc, decide_eq_true hv]; rfl
      have I1 := hideP i1
      have I2 := hideP i2
      clear i1 i2
      subst hc
      subst hv
      go_enter Try.func8, Try.ntmps8
      go_wp2_with fail
      refine (slicesEqual_any xs ys _ a1 a2 c1 c2 (I1.out.stays (below2 w _ _)).sees (I2.out.stays (below2 w _ _)).sees).mono ?_
      rintro e1 w1 ⟨rfl, q, rfl⟩
      go_wp2
      go_ret
      exact ⟨ret_bool E.out.symm, below_dn (below2 w _ _) q⟩
    · have E : Hid (same ⟨ca, va, xs⟩ ⟨cb, vb, ys⟩ = false) := by show same _ _ = false; unfold same; rw [decide_eq_false hv]; simp
      clear i1 i2
      subst hc
      go_enter Try.func8, Try.ntmps8
      go_wp2
      go_ret
      exact ⟨ret_bool E.out.symm, below2 w _ _⟩
  · have E : Hid (same ⟨ca, va, xs⟩ ⟨cb, vb, ys⟩ = false) := by show same _ _ = false; unfold same; rw [decide_eq_false hc]; simp
    clear i1 i2
    go_enter Try.func8, Try.ntmps8
    go_wp2
    go_ret
    exact ⟨ret_bool E.out.symm, below2 w _ _⟩

set_option maxRecDepth 100000 in
set_option maxHeartbeats 8000000 in
theorem walk (a b : En) (v1 v2 : Array Value) (w : World) (h1 : EnIs w 0 v1 a) (h2 : EnIs w 0 v2 b) :
    Calls Try.prog 3 #[.agg v1, .agg v2] w fun en w' => en = .returned (.bool true) ∧ Below w.heap.size w w' := by
  obtain ⟨ca, va, xs⟩ := a
  obtain ⟨cb, vb, ys⟩ := b
  have g1 := h1
  have g2 := h2
  obtain ⟨a1, c1, rfl, _⟩ := g1
  obtain ⟨a2, c2, rfl, _⟩ := g2
  simp only at h1 h2 ⊢
  have SA : Hid (∀ W, Below w.heap.size w W → _) := fun W hW => szEnd_any ⟨ca, va, xs⟩ W 0 _ 1048576 (h1.stays hW) (by omega)
  by_cases hp : xs.length ≤ 1048576
  · obtain ⟨L, hL⟩ : ∃ L, 1048576 - xs.length = L := ⟨_, rfl⟩
    have SB : Hid (∀ W, Below w.heap.size w W → _) := fun W hW => szEnd_any ⟨cb, vb, ys⟩ W 0 _ L (h2.stays hW) (by omega)
    by_cases he : ys.length ≤ L
    · have TA := hideP (toEnd_in ⟨ca, va, xs⟩ w 0 _ h1 hp)
      have TB := hideP (toEnd_in ⟨cb, vb, ys⟩ w 0 _ h2 (by simp only; omega))
      obtain ⟨r, hr⟩ : ∃ r, same ⟨ca, va, xs⟩ ⟨cb, vb, ys⟩ = r := ⟨_, rfl⟩
      have SO : Hid (∀ W A1 A2 x1 x2, EnIs W A1 x1 ⟨ca, va, xs⟩ → EnIs W A2 x2 ⟨cb, vb, ys⟩ → Calls Try.prog 6 #[.agg x1, .agg x2] W fun en w' => en = .returned (.bool r) ∧ Below W.heap.size W w') := fun W A1 A2 x1 x2 y1 y2 => by rw [← hr]; exact spec_same _ _ W A1 A2 x1 x2 y1 y2
      have IO : Hid (∀ W A1 A2 x1 x2, EnIs W A1 x1 ⟨ca, va, xs⟩ → EnIs W A2 x2 ⟨cb, vb, ys⟩ → Calls Try.prog 8 #[.agg x1, .agg x2] W fun en w' => en = .returned (.bool r) ∧ Below W.heap.size W w') := fun W A1 A2 x1 x2 y1 y2 => by rw [← hr]; exact impl_same _ _ W A1 A2 x1 x2 y1 y2
      simp only at TA TB
      have E1 := hideP (szR_pos hp)
      have E2 := hideP (szR_pos he)
      have HL := hideP hL
      clear hr hp he h1 h2 hL
      go_enter Try.func3, Try.ntmps3
      go_wp2_with fail
      refine (SA.out _ (below2 w _ _)).mono ?_
      rintro e1 w1 ⟨rfl, bel1⟩
      rw [E1.out, HL.out]
      obtain ⟨q1, q2, hz, hw⟩ := two bel1
      have p0 := (cells_of q2).1 0
      have p1 := (cells_of q2).1 1
      have p2 := (cells_of q2).1 2
      simp at p0 p1 p2
      have HW := hideP hw
      have Q1 := hideP q1
      have Q2 := hideP q2
      clear q1 q2 hw bel1 SA E1
      go_wp2_with fail
      refine (SB.out _ HW.out).mono ?_
      rintro e1 w2 ⟨rfl, bel2⟩
      rw [E2.out]
      have HW2 := hideP (below_trans HW.out bel2)
      have P2 := hideP (keep Q1.out bel2)
      have X2 := hideP (keep Q2.out bel2)
      clear p0 p1 p2 bel2 SB E2 HW Q1 Q2
      go_upto_region 8 with fail
      go_cut [6] from 20 to 24 (fun s6 wx => s6 = .bool r ∧ Hid (Below w.heap.size w wx ∧ wx.heap[w.heap.size]? = some (.cells #[.int .i64 ca, .int .i64 va, .slice a1 xs.length c1] 24 (0, 0)) ∧ wx.heap[w.heap.size + 1]? = some (.cells #[.int .i64 cb, .int .i64 vb, .slice a2 ys.length c2] 24 (0, 0))))
      case first =>
        have p0 := (cells_of P2.out).1 0
        have p1 := (cells_of P2.out).1 1
        have p2 := (cells_of P2.out).1 2
        have f0 := (cells_of X2.out).1 0
        have f1 := (cells_of X2.out).1 1
        have f2 := (cells_of X2.out).1 2
        simp at p0 p1 p2 f0 f1 f2
        go_region_with (first
          | (go_at_call 7; refine (TA.out _ (by first | exact HW2.out | exact HW2.out.drew | exact HW2.out.drew.drew)).mono ?_; rintro y3 w3 ⟨g3, rfl, hp3, bel3⟩; have HP3 := hideP hp3; have HW3 := hideP ((show Below w.heap.size w _ by first | exact HW2.out | exact HW2.out.drew | exact HW2.out.drew.drew).trans (bel3.mono (by exact HW2.out.size))); have P3 := hideP (keep (by exact P2.out) bel3); have X3 := hideP (keep (by exact X2.out) bel3); clear bel3 hp3 TA; have s0 := (cells_of X3.out).1 0; have s1 := (cells_of X3.out).1 1; have s2 := (cells_of X3.out).1 2; simp at s0 s1 s2)
          | (go_at_call 7; refine (TB.out _ (by first | exact HW3.out | exact HW3.out.drew | exact HW3.out.drew.drew)).mono ?_; rintro y4 w4 ⟨g4, rfl, hx4, bel4⟩; have HX4 := hideP hx4; have HP4 := hideP ((show EnIs _ _ _ _ by first | exact HP3.out | exact HP3.out.stays (Below.refl _ _).drew | exact HP3.out.stays (Below.refl _ _).drew.drew).stays bel4); have HW4 := hideP ((show Below w.heap.size w _ by first | exact HW3.out | exact HW3.out.drew | exact HW3.out.drew.drew).trans (bel4.mono (by exact HW3.out.size))); have P4 := hideP (keep (by exact P3.out) bel4); have X4 := hideP (keep (by exact X3.out) bel4); clear bel4 hx4 s0 s1 s2)
          | (go_at_call 6; refine (SO.out _ _ _ _ _ (by first | exact HP4.out | exact HP4.out.stays (Below.refl _ _).drew | exact HP4.out.stays (Below.refl _ _).drew.drew) (by first | exact HX4.out | exact HX4.out.stays (Below.refl _ _).drew | exact HX4.out.stays (Below.refl _ _).drew.drew)).mono ?_; rintro y5 w5 ⟨rfl, bel5⟩; have HW5 := hideP ((show Below w.heap.size w _ by first | exact HW4.out | exact HW4.out.drew | exact HW4.out.drew.drew).trans (bel5.mono (by exact HW4.out.size))); have P5 := hideP (keep (by exact P4.out) bel5); have X5 := hideP (keep (by exact X4.out) bel5); clear bel5))
        all_goals (go_wp2_with fail; go_meet; exact ⟨rfl, HW5.out, P5.out, X5.out⟩)
      case rest =>
      obtain ⟨rfl, hc⟩ := hcut
      have HW5 := hideP hc.out.1
      have P5 := hideP hc.out.2.1
      have X5 := hideP hc.out.2.2
      clear hc SO HW2 P2 X2
      have p0 := (cells_of P5.out).1 0
      have p1 := (cells_of P5.out).1 1
      have p2 := (cells_of P5.out).1 2
      simp at p0 p1 p2
      have f0 := (cells_of X5.out).1 0
      have f1 := (cells_of X5.out).1 1
      have f2 := (cells_of X5.out).1 2
      simp at f0 f1 f2
      go_wp2_with fail
      refine (TA.out _ HW5.out).mono ?_
      rintro y6 w6 ⟨g6, rfl, hp6, bel6⟩
      have al := (Below.refl w6.heap.size w6).alloc (Nat.le_refl _) (.cells #[.int .i64 ca, .int .i64 va, .slice (some ⟨g6, 0, none⟩) xs.length xs.length] 27)
      have HP6 := hideP (hp6.stays al)
      have HW6 := hideP ((below_trans HW5.out bel6).trans (al.mono (below_trans HW5.out bel6).size))
      have P6 := hideP (keep (keep P5.out bel6) al)
      have X6 := hideP (keep (keep X5.out bel6) al)
      clear p0 p1 p2 f0 f1 f2 hp6 bel6 P5 X5 HW5 al
      have f0 := (cells_of X6.out).1 0
      have f1 := (cells_of X6.out).1 1
      have f2 := (cells_of X6.out).1 2
      simp at f0 f1 f2
      go_wp2_with fail
      refine (TB.out _ HW6.out).mono ?_
      rintro y7 w7 ⟨g7, rfl, hx7, bel7⟩
      have al := (Below.refl w7.heap.size w7).alloc (Nat.le_refl _) (.cells #[.int .i64 cb, .int .i64 vb, .slice (some ⟨g7, 0, none⟩) ys.length ys.length] 27)
      have G7 := hideP (keep (keep (blk_new w6 _) bel7) al)
      have H7 := hideP (blk_new w7 (.cells #[.int .i64 cb, .int .i64 vb, .slice (some ⟨g7, 0, none⟩) ys.length ys.length] 27))
      have HP7 := hideP ((HP6.out.stays bel7).stays al)
      have HX7 := hideP (hx7.stays al)
      have HW7 := hideP ((below_trans HW6.out bel7).trans (al.mono (below_trans HW6.out bel7).size))
      have P7 := hideP (keep (keep P6.out bel7) al)
      have X7 := hideP (keep (keep X6.out bel7) al)
      clear f0 f1 f2 hx7 bel7 al P6 X6 HW6 HP6
      have g0 := (cells_of G7.out).1 0
      have g1 := (cells_of G7.out).1 1
      have g2 := (cells_of G7.out).1 2
      simp at g0 g1 g2
      have h0 := (cells_of H7.out).1 0
      have h1 := (cells_of H7.out).1 1
      have h2 := (cells_of H7.out).1 2
      simp at h0 h1 h2
      go_wp2_with fail
      refine (IO.out _ _ _ _ _ HP7.out HX7.out).mono ?_
      rintro y8 w8 ⟨rfl, bel8⟩
      have G8 := hideP (keep G7.out bel8)
      have H8 := hideP (keep H7.out bel8)
      have HP8 := hideP (HP7.out.stays bel8)
      have HX8 := hideP (HX7.out.stays bel8)
      have HW8 := hideP (below_trans HW7.out bel8)
      have P8 := hideP (keep P7.out bel8)
      have X8 := hideP (keep X7.out bel8)
      clear g0 g1 g2 h0 h1 h2 bel8 P7 X7 HW7 HP7 HX7 G7 H7 IO
      go_upto_region 14 with fail
      go_cut [39] from 35 to 39 (fun s39 wx => s39 = .bool false ∧ Hid (Below w.heap.size w wx ∧ wx.heap[w7.heap.size]? = some (.cells #[.int .i64 cb, .int .i64 vb, .slice (some ⟨g7, 0, none⟩) ys.length ys.length] 27) ∧ wx.heap[w.heap.size + 1]? = some (.cells #[.int .i64 cb, .int .i64 vb, .slice a2 ys.length c2] 24 (0, 0)) ∧ ∃ B, EnIs wx B #[.int .i64 cb, .int .i64 vb, .slice (some ⟨g7, 0, none⟩) ys.length ys.length] ⟨cb, vb, ys⟩))
      case first =>
        have g0 := (cells_of G8.out).1 0
        have g1 := (cells_of G8.out).1 1
        have g2 := (cells_of G8.out).1 2
        have p0 := (cells_of P8.out).1 0
        have p1 := (cells_of P8.out).1 1
        have p2 := (cells_of P8.out).1 2
        simp at g0 g1 g2 p0 p1 p2
        go_region_with (first
          | (go_at_call 7; refine (TA.out _ (by first | exact HW8.out | exact HW8.out.drew | exact HW8.out.drew.drew)).mono ?_; rintro y9 w9 ⟨g9, rfl, hp9, bel9⟩; have HP9 := hideP hp9; have HO9 := hideP ((show EnIs _ _ _ _ by first | exact HP8.out | exact HP8.out.stays (Below.refl _ _).drew | exact HP8.out.stays (Below.refl _ _).drew.drew).stays bel9); have HX9 := hideP ((show EnIs _ _ _ _ by first | exact HX8.out | exact HX8.out.stays (Below.refl _ _).drew | exact HX8.out.stays (Below.refl _ _).drew.drew).stays bel9); have HW9 := hideP ((show Below w.heap.size w _ by first | exact HW8.out | exact HW8.out.drew | exact HW8.out.drew.drew).trans (bel9.mono (by exact HW8.out.size))); have G9 := hideP (keep (by exact G8.out) bel9); have H9 := hideP (keep (by exact H8.out) bel9); have X9 := hideP (keep (by exact X8.out) bel9); clear bel9 hp9; have s0 := (cells_of G9.out).1 0; have s1 := (cells_of G9.out).1 1; have s2 := (cells_of G9.out).1 2; simp at s0 s1 s2)
          | (go_at_call 9; refine (eqEnd_any ⟨ca, va, xs⟩ _ _ _ _ _ (by first | exact HO9.out | exact HO9.out.stays (Below.refl _ _).drew | exact HO9.out.stays (Below.refl _ _).drew.drew) (by first | exact HP9.out | exact HP9.out.stays (Below.refl _ _).drew | exact HP9.out.stays (Below.refl _ _).drew.drew)).mono ?_; rintro y10 w10 ⟨rfl, bel10⟩; have HX10 := hideP ((show EnIs _ _ _ _ by first | exact HX9.out | exact HX9.out.stays (Below.refl _ _).drew | exact HX9.out.stays (Below.refl _ _).drew.drew).stays bel10); have HW10 := hideP ((show Below w.heap.size w _ by first | exact HW9.out | exact HW9.out.drew | exact HW9.out.drew.drew).trans (bel10.mono (by exact HW9.out.size))); have H10 := hideP (keep (by exact H9.out) bel10); have X10 := hideP (keep (by exact X9.out) bel10); clear bel10))
        all_goals (go_wp2_with fail; go_meet; exact ⟨rfl, HW10.out, H10.out, X10.out, _, HX10.out⟩)
      case rest =>
      obtain ⟨rfl, hc⟩ := hcut
      have HW10 := hideP hc.out.1
      have H10 := hideP hc.out.2.1
      have X10 := hideP hc.out.2.2.1
      obtain ⟨B10, hx10⟩ := hc.out.2.2.2
      have HX10 := hideP hx10
      clear hx10 hc HW8 P8 X8 G8 H8 HP8 HX8
      go_upto_region 16 with fail
      go_cut [44] from 40 to 44 (fun s44 wx => s44 = .bool false ∧ Hid (Below w.heap.size w wx))
      case first =>
        have h0 := (cells_of H10.out).1 0
        have h1 := (cells_of H10.out).1 1
        have h2 := (cells_of H10.out).1 2
        have f0 := (cells_of X10.out).1 0
        have f1 := (cells_of X10.out).1 1
        have f2 := (cells_of X10.out).1 2
        simp at h0 h1 h2 f0 f1 f2
        go_region_with (first
          | (go_at_call 7; refine (TB.out _ (by first | exact HW10.out | exact HW10.out.drew | exact HW10.out.drew.drew)).mono ?_; rintro y11 w11 ⟨g11, rfl, hx11, bel11⟩; have HX11 := hideP hx11; have HO11 := hideP ((show EnIs _ _ _ _ by first | exact HX10.out | exact HX10.out.stays (Below.refl _ _).drew | exact HX10.out.stays (Below.refl _ _).drew.drew).stays bel11); have HW11 := hideP ((show Below w.heap.size w _ by first | exact HW10.out | exact HW10.out.drew | exact HW10.out.drew.drew).trans (bel11.mono (by exact HW10.out.size))); have H11 := hideP (keep (by exact H10.out) bel11); clear bel11 hx11; have s0 := (cells_of H11.out).1 0; have s1 := (cells_of H11.out).1 1; have s2 := (cells_of H11.out).1 2; simp at s0 s1 s2)
          | (go_at_call 9; refine (eqEnd_any ⟨cb, vb, ys⟩ _ _ _ _ _ (by first | exact HO11.out | exact HO11.out.stays (Below.refl _ _).drew | exact HO11.out.stays (Below.refl _ _).drew.drew) (by first | exact HX11.out | exact HX11.out.stays (Below.refl _ _).drew | exact HX11.out.stays (Below.refl _ _).drew.drew)).mono ?_; rintro y12 w12 ⟨rfl, bel12⟩; have HW12 := hideP ((show Below w.heap.size w _ by first | exact HW11.out | exact HW11.out.drew | exact HW11.out.drew.drew).trans (bel12.mono (by exact HW11.out.size))); clear bel12))
        all_goals (go_wp2_with fail; go_meet; exact ⟨rfl, HW12.out⟩)
      case rest =>
      obtain ⟨rfl, hc⟩ := hcut
      go_wp2
      go_ret
      exact ⟨rfl, hc.out⟩
    · have E1 := hideP (szR_pos hp)
      have E2 := hideP (szR_neg (Nat.lt_of_not_le he))
      have HL := hideP hL
      clear hp he h1 h2 hL
      go_enter Try.func3, Try.ntmps3
      go_wp2_with fail
      refine (SA.out _ (below2 w _ _)).mono ?_
      rintro e1 w1 ⟨rfl, bel1⟩
      rw [E1.out, HL.out]
      obtain ⟨q1, q2, hz, hw⟩ := two bel1
      have f0 := (cells_of q2).1 0
      have f1 := (cells_of q2).1 1
      have f2 := (cells_of q2).1 2
      simp at f0 f1 f2
      have HW := hideP hw
      clear q1 q2 hw bel1 SA E1
      go_wp2_with fail
      refine (SB.out _ HW.out).mono ?_
      rintro e1 w2 ⟨rfl, bel2⟩
      rw [E2.out]
      have HW2 := hideP (below_trans HW.out bel2)
      clear bel2 f0 f1 f2 SB E2
      go_wp2
      go_ret
      exact ⟨rfl, HW2.out⟩
  · have E1 := hideP (szR_neg (Nat.lt_of_not_le hp))
    clear h1 h2 hp
    go_enter Try.func3, Try.ntmps3
    go_wp2_with fail
    refine (SA.out _ (below2 w _ _)).mono ?_
    rintro e1 w1 ⟨rfl, bel1⟩
    rw [E1.out]
    have HW := hideP (two bel1).2.2.2
    clear bel1 SA E1
    go_wp2
    go_ret
    exact ⟨rfl, HW.out⟩
end SameEndLaw
end Go.Proofs.Ytfoaplihindeaai
