/- The walk of the law FnExactExpOk out of the contracts of its callees. -/
import Derived.Test.YtfoefjheknkcnagExpOkS
namespace Go.Proofs.Ytfoefjheknkcnag
open Go.ChangeShapes Go.WideShapes Go.ChangeAt Go.RowKit

theorem keep {W W' : World} {b : Nat} {o : Obj} (h : W.heap[b]? = some o) (bel : Below W.heap.size W W') : W'.heap[b]? = some o := (bel.block b (Array.getElem?_eq_some_iff.1 h).1).trans h
theorem blk_new (w : World) (o : Obj) : (w.alloc o).heap[w.heap.size]? = some o := by show (w.heap.push o)[w.heap.size]? = _; exact Array.getElem?_push_size
/-- A copy of a program, its cells named. -/
theorem toProgram_in (p : Pr) (w : World) (B : Nat) (v : Array Value) (h : PrIs w B v p) (hs : p.sz ≤ 1048576) (W : World) (bel : Below w.heap.size w W) :
    Calls Try.prog 9 #[.agg v] W fun en w' => ∃ a c ab cb, en = .returned (.agg #[.slice a p.sizes.length c, .int .i64 p.params, .int .i64 p.vars, .slice ab p.body.length cb]) ∧ PrIs w' W.heap.size #[.slice a p.sizes.length c, .int .i64 p.params, .int .i64 p.vars, .slice ab p.body.length cb] p ∧ Below W.heap.size W w' :=
  (toProgram_any p W B v (h.stays bel) hs).mono fun en w' ⟨v', he, hp, hb⟩ => by
    have h1 := hp
    obtain ⟨a, c, ab, cb, rfl, _, _⟩ := h1
    exact ⟨a, c, ab, cb, he, hp, hb⟩
theorem toExp_in {k n b : Int} {t : ByteArray} {kids : List Ex} (w : World) (B : Nat) (v : Array Value) (h : ExIs w B v (.mk k n b t kids)) (hs : (Ex.mk k n b t kids).sz ≤ 1048576) (W : World) (bel : Below w.heap.size w W) :
    Calls Try.prog 16 #[.agg v] W fun en w' => ∃ a c, en = .returned (.agg #[.int .i64 k, .int .i64 n, .int .i64 b, .string t, .slice a kids.length c]) ∧ ExIs w' W.heap.size #[.int .i64 k, .int .i64 n, .int .i64 b, .string t, .slice a kids.length c] (.mk k n b t kids) ∧ Below W.heap.size W w' :=
  (toExp_any (.mk k n b t kids) W B v (h.stays bel) hs).mono fun en w' ⟨v', he, hp, hb⟩ => by
    obtain ⟨a, c, rfl, _, _⟩ := hp.out
    exact ⟨a, c, he, hp, hb⟩
namespace ExpOkLaw
set_option maxRecDepth 100000 in
set_option maxHeartbeats 16000000 in
theorem walk (p : Pr) (e : Ex) (v1 v2 : Array Value) (w : World) (h1 : PrIs w 0 v1 p) (h2 : ExIs w 0 v2 e) :
    Calls Try.prog 5 #[.agg v1, .agg v2] w fun en w' => en = .returned (.bool true) ∧ Below w.heap.size w w' := by
  obtain ⟨sizes, params, vars, body⟩ := p
  obtain ⟨k, n, b, t, kids⟩ := e
  have g1 := h1
  obtain ⟨a1, c1, b1, d1, rfl, _, _⟩ := g1
  obtain ⟨a2, c2, rfl, _, _⟩ := h2.out
  simp only at h1 ⊢
  have SP : Hid (∀ W, Below w.heap.size w W → _) := fun W hW => szProgram_any ⟨sizes, params, vars, body⟩ W 0 _ 1048576 (h1.stays hW) (by omega)
  by_cases hp : (⟨sizes, params, vars, body⟩ : Pr).sz ≤ 1048576
  · obtain ⟨L, hL⟩ : ∃ L, 1048576 - (⟨sizes, params, vars, body⟩ : Pr).sz = L := ⟨_, rfl⟩
    have SE : Hid (∀ W, Below w.heap.size w W → _) := fun W hW => szExp_any (.mk k n b t kids) W 0 _ L (h2.stays hW) (by omega)
    by_cases he : (Ex.mk k n b t kids).sz ≤ L
    · have TP := hideP (toProgram_in ⟨sizes, params, vars, body⟩ w 0 _ h1 hp)
      have TE := hideP (toExp_in w 0 _ h2 (by omega))
      obtain ⟨r, hr⟩ : ∃ r, exOk (sizes.length : Nat) vars 30 (.mk k n b t kids) = r := ⟨_, rfl⟩
      have SO : Hid (∀ W A1 A2 x1 x2, PrIs W A1 x1 ⟨sizes, params, vars, body⟩ → ExIs W A2 x2 (.mk k n b t kids) → Calls Try.prog 15 #[.agg x1, .agg x2] W fun en w' => en = .returned (.bool r) ∧ Below W.heap.size W w') := fun W A1 A2 x1 x2 y1 y2 => by rw [← hr]; exact spec_expOk _ _ W A1 A2 x1 x2 y1 y2
      have IO : Hid (∀ W A1 A2 x1 x2, PrIs W A1 x1 ⟨sizes, params, vars, body⟩ → ExIs W A2 x2 (.mk k n b t kids) → Calls Try.prog 17 #[.agg x1, .agg x2] W fun en w' => en = .returned (.bool r) ∧ Below W.heap.size W w') := fun W A1 A2 x1 x2 y1 y2 => by rw [← hr]; exact impl_expOk _ _ W A1 A2 x1 x2 y1 y2
      simp only at TP
      have E1 := hideP (szR_pos hp)
      have E2 := hideP (szR_pos he)
      have HL := hideP hL
      clear hr hp he h1 h2 hL
      go_enter Try.func5, Try.ntmps5
      go_wp2_with fail
      refine (SP.out _ (below2 w _ _)).mono ?_
      rintro e1 w1 ⟨rfl, bel1⟩
      rw [E1.out, HL.out]
      obtain ⟨q1, q2, hz, hw⟩ := two bel1
      have p0 := (cells_of q1).1 0
      have p1 := (cells_of q1).1 1
      have p2 := (cells_of q1).1 2
      have p3 := (cells_of q1).1 3
      have f0 := (cells_of q2).1 0
      have f1 := (cells_of q2).1 1
      have f2 := (cells_of q2).1 2
      have f3 := (cells_of q2).1 3
      have f4 := (cells_of q2).1 4
      simp at p0 p1 p2 p3 f0 f1 f2 f3 f4
      have HW := hideP hw
      have Q1 := hideP q1
      have Q2 := hideP q2
      clear q1 q2 hw bel1 SP E1
      go_wp2_with fail
      refine (SE.out _ HW.out).mono ?_
      rintro e1 w2 ⟨rfl, bel2⟩
      rw [E2.out]
      have HW2 := hideP (below_trans HW.out bel2)
      have P2 := hideP (keep Q1.out bel2)
      have X2 := hideP (keep Q2.out bel2)
      clear p0 p1 p2 p3 f0 f1 f2 f3 f4 bel2 SE E2 HW Q1 Q2
      have p0 := (cells_of P2.out).1 0
      have p1 := (cells_of P2.out).1 1
      have p2 := (cells_of P2.out).1 2
      have p3 := (cells_of P2.out).1 3
      simp at p0 p1 p2 p3
      have f0 := (cells_of X2.out).1 0
      have f1 := (cells_of X2.out).1 1
      have f2 := (cells_of X2.out).1 2
      have f3 := (cells_of X2.out).1 3
      have f4 := (cells_of X2.out).1 4
      simp at f0 f1 f2 f3 f4
      go_wp2
      go_region_with (first | (go_at_call 9; refine (TP.out _ (by first | exact HW2.out | exact HW2.out.drew | exact HW2.out.drew.drew)).mono ?_; rintro y3 w3 ⟨a3, c3, b3, d3, rfl, hp3, bel3⟩; have HP3 := hideP hp3; have HW3 := hideP ((show Below w.heap.size w _ by first | exact HW2.out | exact HW2.out.drew | exact HW2.out.drew.drew).trans (bel3.mono (by exact HW2.out.size))); have P3 := hideP (keep (by exact P2.out) bel3); have X3 := hideP (keep (by exact X2.out) bel3); clear bel3 hp3; have s0 := (cells_of X3.out).1 0; have s1 := (cells_of X3.out).1 1; have s2 := (cells_of X3.out).1 2; have s3 := (cells_of X3.out).1 3; have s4 := (cells_of X3.out).1 4; simp at s0 s1 s2 s3 s4) | (go_at_call 16; refine (TE.out _ (by first | exact HW3.out | exact HW3.out.drew | exact HW3.out.drew.drew)).mono ?_; rintro y4 w4 ⟨a4, c4, rfl, hx4, bel4⟩; have HX4 := hideP hx4; have HP4 := hideP ((show PrIs _ _ _ _ by first | exact HP3.out | exact HP3.out.stays (Below.refl _ _).drew).stays bel4); have HW4 := hideP ((show Below w.heap.size w _ by first | exact HW3.out | exact HW3.out.drew | exact HW3.out.drew.drew).trans (bel4.mono (by exact HW3.out.size))); have P4 := hideP (keep (by exact P3.out) bel4); have X4 := hideP (keep (by exact X3.out) bel4); clear bel4 hx4) | (go_at_call 15; refine (SO.out _ _ _ _ _ (by first | exact HP4.out | exact HP4.out.stays (Below.refl _ _).drew) (by first | exact HX4.out | exact HX4.out.stays (Below.refl _ _).drew)).mono ?_; rintro y5 w5 ⟨rfl, bel5⟩; have HW5 := hideP ((show Below w.heap.size w _ by first | exact HW4.out | exact HW4.out.drew | exact HW4.out.drew.drew).trans (bel5.mono (by exact HW4.out.size))); have P5 := hideP (keep (by exact P4.out) bel5); have X5 := hideP (keep (by exact X4.out) bel5); clear bel5))
      all_goals
        clear p0 p1 p2 p3 f0 f1 f2 f3 f4 s0 s1 s2 s3 s4 P2 X2 P3 X3 P4 X4 HP3 HP4 HX4 HW2 HW3 HW4 SO
        have p0 := (cells_of P5.out).1 0
        have p1 := (cells_of P5.out).1 1
        have p2 := (cells_of P5.out).1 2
        have p3 := (cells_of P5.out).1 3
        simp at p0 p1 p2 p3
        have f0 := (cells_of X5.out).1 0
        have f1 := (cells_of X5.out).1 1
        have f2 := (cells_of X5.out).1 2
        have f3 := (cells_of X5.out).1 3
        have f4 := (cells_of X5.out).1 4
        simp at f0 f1 f2 f3 f4
        go_wp2_with fail
        refine (TP.out _ HW5.out).mono ?_
        rintro y6 w6 ⟨a6, c6, b6, d6, rfl, hp6, bel6⟩
        have HP6 := hideP (hp6.stays ((Below.refl _ _).alloc (Nat.le_refl _) (.cells #[.slice a6 sizes.length c6, .int .i64 params, .int .i64 vars, .slice b6 body.length d6] 30)))
        have HW6 := hideP ((below_trans HW5.out bel6).alloc (below_trans HW5.out bel6).size (.cells #[.slice a6 sizes.length c6, .int .i64 params, .int .i64 vars, .slice b6 body.length d6] 30))
        have P6 := hideP (keep (keep P5.out bel6) ((Below.refl _ _).alloc (Nat.le_refl _) (.cells #[.slice a6 sizes.length c6, .int .i64 params, .int .i64 vars, .slice b6 body.length d6] 30)))
        have X6 := hideP (keep (keep X5.out bel6) ((Below.refl _ _).alloc (Nat.le_refl _) (.cells #[.slice a6 sizes.length c6, .int .i64 params, .int .i64 vars, .slice b6 body.length d6] 30)))
        clear p0 p1 p2 p3 f0 f1 f2 f3 f4 hp6 bel6 P5 X5 HW5
        have f0 := (cells_of X6.out).1 0
        have f1 := (cells_of X6.out).1 1
        have f2 := (cells_of X6.out).1 2
        have f3 := (cells_of X6.out).1 3
        have f4 := (cells_of X6.out).1 4
        simp at f0 f1 f2 f3 f4
        go_wp2_with fail
        refine (TE.out _ HW6.out).mono ?_
        rintro y7 w7 ⟨a7, c7, rfl, hx7, bel7⟩
        have al := (Below.refl w7.heap.size w7).alloc (Nat.le_refl _) (.cells #[.int .i64 k, .int .i64 n, .int .i64 b, .string t, .slice a7 kids.length c7] 42)
        have G7 := hideP (keep (keep (blk_new w6 _) bel7) al)
        have H7 := hideP (blk_new w7 (.cells #[.int .i64 k, .int .i64 n, .int .i64 b, .string t, .slice a7 kids.length c7] 42))
        have HP7 := hideP ((HP6.out.stays bel7).stays al)
        have HX7 := hideP (hx7.stays al)
        have HW7 := hideP ((below_trans HW6.out bel7).trans (al.mono (below_trans HW6.out bel7).size))
        have P7 := hideP (keep (keep P6.out bel7) al)
        have X7 := hideP (keep (keep X6.out bel7) al)
        clear f0 f1 f2 f3 f4 hx7 bel7 al P6 X6 HW6 HP6
        have g0 := (cells_of G7.out).1 0
        have g1 := (cells_of G7.out).1 1
        have g2 := (cells_of G7.out).1 2
        have g3 := (cells_of G7.out).1 3
        simp at g0 g1 g2 g3
        have h0 := (cells_of H7.out).1 0
        have h1 := (cells_of H7.out).1 1
        have h2 := (cells_of H7.out).1 2
        have h3 := (cells_of H7.out).1 3
        have h4 := (cells_of H7.out).1 4
        simp at h0 h1 h2 h3 h4
        go_wp2_with fail
        refine (IO.out _ _ _ _ _ HP7.out HX7.out).mono ?_
        rintro y8 w8 ⟨rfl, bel8⟩
        have G8 := hideP (keep G7.out bel8)
        have H8 := hideP (keep H7.out bel8)
        have HP8 := hideP (HP7.out.stays bel8)
        have HX8 := hideP (HX7.out.stays bel8)
        have HW8 := hideP (below_trans HW7.out bel8)
        have P8 := hideP (keep P7.out bel8)
        have X8 := hideP (keep X7.out bel8)
        clear g0 g1 g2 g3 h0 h1 h2 h3 h4 bel8 P7 X7 HW7 HP7 HX7 G7 H7 IO
        have g0 := (cells_of G8.out).1 0
        have g1 := (cells_of G8.out).1 1
        have g2 := (cells_of G8.out).1 2
        have g3 := (cells_of G8.out).1 3
        simp at g0 g1 g2 g3
        have p0 := (cells_of P8.out).1 0
        have p1 := (cells_of P8.out).1 1
        have p2 := (cells_of P8.out).1 2
        have p3 := (cells_of P8.out).1 3
        simp at p0 p1 p2 p3
        go_wp2
        go_region_with (first | (go_at_call 9; refine (TP.out _ (by first | exact HW8.out | exact HW8.out.drew | exact HW8.out.drew.drew)).mono ?_; rintro y9 w9 ⟨a9, c9, b9, d9, rfl, hp9, bel9⟩; have HP9 := hideP hp9; have HO9 := hideP ((show PrIs _ _ _ _ by first | exact HP8.out | exact HP8.out.stays (Below.refl _ _).drew | exact HP8.out.stays (Below.refl _ _).drew.drew).stays bel9); have HX9 := hideP ((show ExIs _ _ _ _ by first | exact HX8.out | exact HX8.out.stays (Below.refl _ _).drew | exact HX8.out.stays (Below.refl _ _).drew.drew).stays bel9); have HW9 := hideP ((show Below w.heap.size w _ by first | exact HW8.out | exact HW8.out.drew | exact HW8.out.drew.drew).trans (bel9.mono (by exact HW8.out.size))); have G9 := hideP (keep (by exact G8.out) bel9); have H9 := hideP (keep (by exact H8.out) bel9); have X9 := hideP (keep (by exact X8.out) bel9); clear bel9 hp9; have s0 := (cells_of G9.out).1 0; have s1 := (cells_of G9.out).1 1; have s2 := (cells_of G9.out).1 2; have s3 := (cells_of G9.out).1 3; simp at s0 s1 s2 s3) | (go_at_call 11; refine (eqProgram_any ⟨sizes, params, vars, body⟩ _ _ _ _ _ (by first | exact HO9.out | exact HO9.out.stays (Below.refl _ _).drew) (by first | exact HP9.out | exact HP9.out.stays (Below.refl _ _).drew)).mono ?_; rintro y10 w10 ⟨rfl, bel10⟩; have HX10 := hideP ((show ExIs _ _ _ _ by first | exact HX9.out | exact HX9.out.stays (Below.refl _ _).drew).stays bel10); have HW10 := hideP ((show Below w.heap.size w _ by first | exact HW9.out | exact HW9.out.drew).trans (bel10.mono (by exact HW9.out.size))); have H10 := hideP (keep (by exact H9.out) bel10); have X10 := hideP (keep (by exact X9.out) bel10); clear bel10))
        all_goals
          clear g0 g1 g2 g3 p0 p1 p2 p3 s0 s1 s2 s3 G8 H8 G9 H9 X8 X9 P8 HP8 HP9 HO9 HX8 HX9 HW8 HW9 TP
          have h0 := (cells_of H10.out).1 0
          have h1 := (cells_of H10.out).1 1
          have h2 := (cells_of H10.out).1 2
          have h3 := (cells_of H10.out).1 3
          have h4 := (cells_of H10.out).1 4
          simp at h0 h1 h2 h3 h4
          have f0 := (cells_of X10.out).1 0
          have f1 := (cells_of X10.out).1 1
          have f2 := (cells_of X10.out).1 2
          have f3 := (cells_of X10.out).1 3
          have f4 := (cells_of X10.out).1 4
          simp at f0 f1 f2 f3 f4
          go_wp2
          go_region_with (first | (go_at_call 16; refine (TE.out _ (by first | exact HW10.out | exact HW10.out.drew | exact HW10.out.drew.drew)).mono ?_; rintro y11 w11 ⟨a11, c11, rfl, hx11, bel11⟩; have HX11 := hideP hx11; have HO11 := hideP ((show ExIs _ _ _ _ by first | exact HX10.out | exact HX10.out.stays (Below.refl _ _).drew | exact HX10.out.stays (Below.refl _ _).drew.drew).stays bel11); have HW11 := hideP ((show Below w.heap.size w _ by first | exact HW10.out | exact HW10.out.drew | exact HW10.out.drew.drew).trans (bel11.mono (by exact HW10.out.size))); have H11 := hideP (keep (by exact H10.out) bel11); clear bel11 hx11; have s0 := (cells_of H11.out).1 0; have s1 := (cells_of H11.out).1 1; have s2 := (cells_of H11.out).1 2; have s3 := (cells_of H11.out).1 3; have s4 := (cells_of H11.out).1 4; simp at s0 s1 s2 s3 s4) | (go_at_call 18; refine (eqExp_any (.mk k n b t kids) _ _ _ _ _ (by first | exact HO11.out | exact HO11.out.stays (Below.refl _ _).drew) (by first | exact HX11.out | exact HX11.out.stays (Below.refl _ _).drew)).mono ?_; rintro y12 w12 ⟨rfl, bel12⟩; have HW12 := hideP ((show Below w.heap.size w _ by first | exact HW11.out | exact HW11.out.drew).trans (bel12.mono (by exact HW11.out.size))); clear bel12))
          all_goals
            clear h0 h1 h2 h3 h4 f0 f1 f2 f3 f4 s0 s1 s2 s3 s4 H10 X10 H11 HX10 HX11 HO11 HW10 HW11 TE
            go_wp2
            go_ret
            exact ⟨rfl, HW12.out⟩
    · have E1 := hideP (szR_pos hp)
      have E2 := hideP (szR_neg (Nat.lt_of_not_le he))
      have HL := hideP hL
      clear hp he h1 h2 hL
      go_enter Try.func5, Try.ntmps5
      go_wp2_with fail
      refine (SP.out _ (below2 w _ _)).mono ?_
      rintro e1 w1 ⟨rfl, bel1⟩
      rw [E1.out, HL.out]
      obtain ⟨q1, q2, hz, hw⟩ := two bel1
      have f0 := (cells_of q2).1 0
      have f1 := (cells_of q2).1 1
      have f2 := (cells_of q2).1 2
      have f3 := (cells_of q2).1 3
      have f4 := (cells_of q2).1 4
      simp at f0 f1 f2 f3 f4
      have HW := hideP hw
      clear q1 q2 hw bel1 SP E1
      go_wp2_with fail
      refine (SE.out _ HW.out).mono ?_
      rintro e1 w2 ⟨rfl, bel2⟩
      rw [E2.out]
      have HW2 := hideP (below_trans HW.out bel2)
      clear bel2 f0 f1 f2 f3 f4 SE E2
      go_wp2
      go_ret
      exact ⟨rfl, HW2.out⟩
  · have E1 := hideP (szR_neg (Nat.lt_of_not_le hp))
    clear h1 h2 hp
    go_enter Try.func5, Try.ntmps5
    go_wp2_with fail
    refine (SP.out _ (below2 w _ _)).mono ?_
    rintro e1 w1 ⟨rfl, bel1⟩
    rw [E1.out]
    have HW := hideP (two bel1).2.2.2
    clear bel1 SP E1
    go_wp2
    go_ret
    exact ⟨rfl, HW.out⟩
end ExpOkLaw
end Go.Proofs.Ytfoefjheknkcnag
