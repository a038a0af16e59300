/- The contract of impl.jumpOk. -/
import Derived.Test.YtobpcfelgobedabGrOkP
namespace Go.Proofs.Ytobpcfelgobedab
open Go.ChangeShapes Go.WideShapes Go.ChangeAt Go.RowKit
theorem kp {W W' : World} {b : Nat} {o : Obj} (h : W.heap[b]? = some o) (bel : Below W.heap.size W W') : W'.heap[b]? = some o := (bel.block b (Array.getElem?_eq_some_iff.1 h).1).trans h
theorem kn (w : World) (o : Obj) : (w.alloc o).heap[w.heap.size]? = some o := by show (w.heap.push o)[w.heap.size]? = _; exact Array.getElem?_push_size
set_option maxHeartbeats 4000000 in
set_option maxRecDepth 100000 in
theorem jumpOk_any (g : Gr) (x : Blk) (w : World) (B1 B2 : Nat) (v1 v2 : Array Value) (h1 : GrIs w B1 v1 g) (h2 : BlkIs w B2 v2 x) :
    Calls Try.prog 39 #[.agg v1, .agg v2] w fun en w' => en = .returned (.bool (jmpOk g.slots g.blocks.length x)) ∧ Below w.heap.size w w' := by
  have SS : Hid (∀ W, Below w.heap.size w W → Calls Try.prog 52 #[.agg v1] W fun en w' => en = .returned (.agg #[.int .i64 (g.sizes.length : Nat), .int .i64 g.slots]) ∧ Below W.heap.size W w') := fun W hW => slotScope_any g W B1 v1 (GrKeeps.stays h1 hW)
  have BT : Hid (∀ W z, Below w.heap.size w W → Calls Try.prog 56 #[.agg v1, .int .i64 z] W fun en w' => en = .returned (.bool (vOk (g.blocks.length : Nat) z)) ∧ Below W.heap.size W w') := fun W z hW => blockThere_any g z W B1 v1 (GrKeeps.stays h1 hW)
  obtain ⟨R, hR⟩ : ∃ R : Int, ((g.sizes.length : Nat) : Int) = R := ⟨_, rfl⟩
  obtain ⟨V, hV⟩ : ∃ V : Int, g.slots = V := ⟨_, rfl⟩
  obtain ⟨M, hM⟩ : ∃ M : Nat, g.blocks.length = M := ⟨_, rfl⟩
  rw [hR] at SS
  obtain ⟨us, cs, ub, cb, rfl, _, _⟩ := h1
  rw [hV] at SS ⊢
  rw [hV] at BT
  rw [hM] at SS BT ⊢
  obtain ⟨code, jump, a, to, els⟩ := x
  obtain ⟨uc, cc, rfl, _, _⟩ := h2
  simp only at *
  have E : Hid (jmpOk V M ⟨code, jump, a, to, els⟩ = (if jump = 0 then decide (a = 0) && decide (els = 0) && vOk (M : Nat) to else if jump = 1 then vOk V a && vOk (M : Nat) to && vOk (M : Nat) els else if jump = 2 then vOk V a && decide (to = 0) && decide (els = 0) else false)) := rfl
  go_enter Try.func39, Try.ntmps39
  go_wp2_with fail
  refine (SS.out _ (below2 w _ _)).mono ?_
  rintro y1 w1 ⟨rfl, bel1⟩
  obtain ⟨q1, q2, hz, hw⟩ := two bel1
  have hz0 : w.heap.size < w1.heap.size := by omega
  have HW := hideP hw
  have Q1 := hideP q1
  have Q2 := hideP q2
  clear bel1 q1 q2 hw SS
  have al := (Below.refl w1.heap.size w1).alloc (Nat.le_refl _) (.cells #[.int .i64 R, .int .i64 V] 77)
  have K1 := hideP (kp Q1.out al)
  have K2 := hideP (kp Q2.out al)
  have HW2 := hideP (below_trans HW.out al)
  have p0 := (cells_of Q1.out).1 0
  have p1 := (cells_of Q1.out).1 1
  have p2 := (cells_of Q1.out).1 2
  have p3 := (cells_of Q1.out).1 3
  have p4 := (cells_of Q1.out).1 4
  have r0 := (cells_of Q2.out).1 0
  have r1 := (cells_of Q2.out).1 1
  have r2 := (cells_of Q2.out).1 2
  have r3 := (cells_of Q2.out).1 3
  have r4 := (cells_of Q2.out).1 4
  simp at p0 p1 p2 p3 p4 r0 r1 r2 r3 r4
  clear al
  by_cases h0 : jump = 0
  · subst h0
    by_cases ha : a = 0
    · by_cases he : els = 0
      · subst ha he
        rw [if_pos rfl] at E
        have E2 : Hid (jmpOk V M ⟨code, 0, 0, to, 0⟩ = vOk (M : Nat) to) := E.out.trans (by simp)
        go_wp2_with fail
        refine (BT.out _ to HW2.out).mono ?_
        rintro e2 w2 ⟨rfl, bel2⟩
        have HW3 := hideP (below_trans HW2.out bel2)
        clear bel2 p0 p1 p2 p3 p4 r0 r1 r2 r3 r4
        go_wp2
        go_ret
        exact ⟨ret_bool E2.out.symm, HW3.out⟩
      · have E2 : Hid (jmpOk V M ⟨code, 0, a, to, els⟩ = false) := E.out.trans (by simp [he])
        go_wp2
        go_ret
        exact ⟨ret_bool E2.out.symm, HW2.out⟩
    · have E2 : Hid (jmpOk V M ⟨code, 0, a, to, els⟩ = false) := E.out.trans (by simp [ha])
      go_wp2
      go_ret
      exact ⟨ret_bool E2.out.symm, HW2.out⟩
  · by_cases h12 : jump = 1 ∨ jump = 2
    · have e1 : [a].all (vOk V) = vOk V a := by simp
      have HE1 := hideP e1
      clear e1
      rcases h12 with rfl | rfl
      · rw [if_neg (by decide), if_pos rfl] at E
        go_wp2_with fail
        refine (allOk_any R V [a] _ 0 _ _ (ints_lit _ [a] _ _ _ (by simp) rfl (by simp))).mono ?_
        rintro e2 w2 ⟨rfl, bel2⟩
        rw [HE1.out]
        have b2 := below_new bel2
        have HW3 := hideP (below_trans HW2.out b2)
        have M1 := hideP (kp K1.out b2)
        have M2 := hideP (kp K2.out b2)
        clear bel2 b2 p0 p1 p2 p3 p4 r0 r1 r2 r3 r4
        have p0 := (cells_of M1.out).1 0
        have p1 := (cells_of M1.out).1 1
        have p2 := (cells_of M1.out).1 2
        have p3 := (cells_of M1.out).1 3
        have p4 := (cells_of M1.out).1 4
        have r0 := (cells_of M2.out).1 0
        have r1 := (cells_of M2.out).1 1
        have r2 := (cells_of M2.out).1 2
        have r3 := (cells_of M2.out).1 3
        have r4 := (cells_of M2.out).1 4
        simp at p0 p1 p2 p3 p4 r0 r1 r2 r3 r4
        cases hr : vOk V a
        · have E2 : Hid (jmpOk V M ⟨code, 1, a, to, els⟩ = false) := E.out.trans (by simp [hr])
          clear hr
          go_wp2
          go_ret
          exact ⟨ret_bool E2.out.symm, HW3.out⟩
        · rw [hr, Bool.true_and] at E
          clear hr
          go_wp2_with fail
          refine (BT.out _ to HW3.out).mono ?_
          rintro e3 w3 ⟨rfl, bel3⟩
          have HW4 := hideP (below_trans HW3.out bel3)
          have N1 := hideP (kp M1.out bel3)
          have N2 := hideP (kp M2.out bel3)
          clear bel3 p0 p1 p2 p3 p4 r0 r1 r2 r3 r4
          have p0 := (cells_of N1.out).1 0
          have p1 := (cells_of N1.out).1 1
          have p2 := (cells_of N1.out).1 2
          have p3 := (cells_of N1.out).1 3
          have p4 := (cells_of N1.out).1 4
          have r0 := (cells_of N2.out).1 0
          have r1 := (cells_of N2.out).1 1
          have r2 := (cells_of N2.out).1 2
          have r3 := (cells_of N2.out).1 3
          have r4 := (cells_of N2.out).1 4
          simp at p0 p1 p2 p3 p4 r0 r1 r2 r3 r4
          cases hr : vOk (M : Nat) to
          · have E2 : Hid (jmpOk V M ⟨code, 1, a, to, els⟩ = false) := E.out.trans (by simp [hr])
            clear hr
            go_wp2
            go_ret
            exact ⟨ret_bool E2.out.symm, HW4.out⟩
          · have E2 : Hid (jmpOk V M ⟨code, 1, a, to, els⟩ = vOk (M : Nat) els) := E.out.trans (by simp [hr])
            clear hr
            go_wp2_with fail
            refine (BT.out _ els HW4.out).mono ?_
            rintro e4 w4 ⟨rfl, bel4⟩
            have HW5 := hideP (below_trans HW4.out bel4)
            clear bel4 p0 p1 p2 p3 p4 r0 r1 r2 r3 r4
            go_wp2
            go_ret
            exact ⟨ret_bool E2.out.symm, HW5.out⟩
      · rw [if_neg (by decide), if_neg (by decide), if_pos rfl] at E
        go_wp2_with fail
        refine (allOk_any R V [a] _ 0 _ _ (ints_lit _ [a] _ _ _ (by simp) rfl (by simp))).mono ?_
        rintro e2 w2 ⟨rfl, bel2⟩
        rw [HE1.out]
        have b2 := below_new bel2
        have HW3 := hideP (below_trans HW2.out b2)
        have M2 := hideP (kp K2.out b2)
        clear bel2 b2 p0 p1 p2 p3 p4 r0 r1 r2 r3 r4
        have r3 := (cells_of M2.out).1 3
        have r4 := (cells_of M2.out).1 4
        simp at r3 r4
        cases hr : vOk V a
        · have E2 : Hid (jmpOk V M ⟨code, 2, a, to, els⟩ = false) := E.out.trans (by simp [hr])
          clear hr
          go_wp2
          go_ret
          exact ⟨ret_bool E2.out.symm, HW3.out⟩
        · rw [hr, Bool.true_and] at E
          clear hr
          go_wp2
          all_goals go_ret
          all_goals refine ⟨ret_bool ?_, HW3.out⟩
          all_goals rw [E.out]
          all_goals clear E
          all_goals first | (simp [*]; done) | (rw [Bool.eq_iff_iff]; simp [*]; done)
    · have n1 : ¬ jump = 1 := fun h => h12 (Or.inl h)
      have n2 : ¬ jump = 2 := fun h => h12 (Or.inr h)
      rw [if_neg h0, if_neg n1, if_neg n2] at E
      clear h12
      go_wp2
      go_ret
      exact ⟨ret_bool E.out.symm, HW2.out⟩
end Go.Proofs.Ytobpcfelgobedab
