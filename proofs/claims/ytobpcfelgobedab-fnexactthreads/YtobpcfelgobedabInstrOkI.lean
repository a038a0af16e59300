/- The contract of impl.InstrOk. -/
import Derived.Test.YtobpcfelgobedabInstrOk
namespace Go.Proofs.Ytobpcfelgobedab
open Go.ChangeShapes Go.WideShapes Go.ChangeAt Go.RowKit
/-- A list of numbers written out. -/
theorem ints_lit (w : World) (zs : List Int) (cs : Array Value) (T : TypeId) (n : Nat) (hn : n = w.heap.size) (hcs : cs = (zs.map (Value.int .i64)).toArray) (hl : zs.length ≤ 1000) : IntsIs (w.alloc (.cells cs T)) 0 (some ⟨n, 0, none⟩) zs := by
  subst hcs hn
  have hm : 1000 ≤ maxLen := by unfold maxLen; decide
  refine ⟨by omega, Or.inr ⟨_, 0, rfl, Nat.zero_le _, by simp, fun h0 => absurd h0 (Nat.lt_irrefl _), fun i hi => ?_⟩⟩
  rw [Nat.zero_add, World.cell?_alloc_new]
  simp [hi]
set_option maxHeartbeats 2000000 in
set_option maxRecDepth 100000 in
theorem impl_instrOk0 (R V : Int) (v1 : Array Value) (us : Option Addr) (cs ls : Nat) (params vars slots : Int) (ub : Option Addr) (lb cb : Nat) (op d a b c n : Int) (t : ByteArray) (w : World) (hv : v1 = #[.slice us ls cs, .int .i64 params, .int .i64 vars, .int .i64 slots, .slice ub lb cb])
    (SS : Hid (∀ W, Below w.heap.size w W → Calls Try.prog 52 #[.agg v1] W fun en w' => en = .returned (.agg #[.int .i64 R, .int .i64 V]) ∧ Below W.heap.size W w')) (hop : op = 0) :
    Calls Try.prog 38 #[.agg v1, .agg #[.int .i64 op, .int .i64 d, .int .i64 a, .int .i64 b, .int .i64 c, .int .i64 n, .string t]] w fun en w' => en = .returned (.bool (insOk R V ⟨op, d, a, b, c, n, t⟩)) ∧ Below w.heap.size w w' := by
  subst hv hop
  go_enter Try.func38, Try.ntmps38
  go_wp2_with fail
  refine (SS.out _ (below2 w _ _)).mono ?_
  rintro e1 w1 ⟨rfl, bel1⟩
  obtain ⟨q1, q2, hz, hw⟩ := two bel1
  have HW := hideP hw
  have p0 := (cells_of q2).1 0
  have p1 := (cells_of q2).1 1
  have p2 := (cells_of q2).1 2
  have p3 := (cells_of q2).1 3
  have p4 := (cells_of q2).1 4
  have p5 := (cells_of q2).1 5
  have p6 := (cells_of q2).1 6
  simp at p0 p1 p2 p3 p4 p5 p6
  clear q1 q2 bel1 hw SS
  go_wp2_with (first | (go_at_call 53; refine (allOk_any R V [d] _ 0 _ _ (ints_lit _ [d] _ _ _ (by simp) rfl (by simp))).mono ?_; rintro e2 w2 ⟨rfl, bel2⟩; obtain ⟨s1, _, hz2, hw2⟩ := two bel2; have HW2 := hideP (HW.out.trans (hw2.mono (by omega))); have r2 := (hw2.cell (p := ⟨w.heap.size + 1, 2, none⟩) (by omega)).trans p2; have r5 := (hw2.cell (p := ⟨w.heap.size + 1, 5, none⟩) (by omega)).trans p5; have r6 := (hw2.cell (p := ⟨w.heap.size + 1, 6, none⟩) (by omega)).trans p6; have s2 := (cells_of s1).1 0; have s3 := (cells_of s1).1 1; simp at s2 s3; clear s1 bel2 hw2))
  all_goals go_ret
  all_goals refine ⟨ret_bool ?_, by first | exact HW2.out | exact below_trans HW2.out bel3 | exact HW.out.trans (((Below.refl _ _).alloc (Nat.le_refl _) _).mono (by omega))⟩
  all_goals first | (simp [insOk, *]; done) | (simp_all [insOk]; done) | trace_state
set_option maxHeartbeats 2000000 in
set_option maxRecDepth 100000 in
theorem impl_instrOk1 (R V : Int) (v1 : Array Value) (us : Option Addr) (cs ls : Nat) (params vars slots : Int) (ub : Option Addr) (lb cb : Nat) (op d a b c n : Int) (t : ByteArray) (w : World) (hv : v1 = #[.slice us ls cs, .int .i64 params, .int .i64 vars, .int .i64 slots, .slice ub lb cb])
    (SS : Hid (∀ W, Below w.heap.size w W → Calls Try.prog 52 #[.agg v1] W fun en w' => en = .returned (.agg #[.int .i64 R, .int .i64 V]) ∧ Below W.heap.size W w')) (hop : op = 1) :
    Calls Try.prog 38 #[.agg v1, .agg #[.int .i64 op, .int .i64 d, .int .i64 a, .int .i64 b, .int .i64 c, .int .i64 n, .string t]] w fun en w' => en = .returned (.bool (insOk R V ⟨op, d, a, b, c, n, t⟩)) ∧ Below w.heap.size w w' := by
  subst hv hop
  go_enter Try.func38, Try.ntmps38
  go_wp2_with fail
  refine (SS.out _ (below2 w _ _)).mono ?_
  rintro e1 w1 ⟨rfl, bel1⟩
  obtain ⟨q1, q2, hz, hw⟩ := two bel1
  have HW := hideP hw
  have p0 := (cells_of q2).1 0
  have p1 := (cells_of q2).1 1
  have p2 := (cells_of q2).1 2
  have p3 := (cells_of q2).1 3
  have p4 := (cells_of q2).1 4
  have p5 := (cells_of q2).1 5
  have p6 := (cells_of q2).1 6
  simp at p0 p1 p2 p3 p4 p5 p6
  clear q1 q2 bel1 hw SS
  go_wp2_with (first | (go_at_call 53; refine (allOk_any R V [d, a] _ 0 _ _ (ints_lit _ [d, a] _ _ _ (by simp) rfl (by simp))).mono ?_; rintro e2 w2 ⟨rfl, bel2⟩; obtain ⟨s1, _, hz2, hw2⟩ := two bel2; have HW2 := hideP (HW.out.trans (hw2.mono (by omega))); have r2 := (hw2.cell (p := ⟨w.heap.size + 1, 2, none⟩) (by omega)).trans p2; have r5 := (hw2.cell (p := ⟨w.heap.size + 1, 5, none⟩) (by omega)).trans p5; have r6 := (hw2.cell (p := ⟨w.heap.size + 1, 6, none⟩) (by omega)).trans p6; have s2 := (cells_of s1).1 0; have s3 := (cells_of s1).1 1; simp at s2 s3; clear s1 bel2 hw2))
  all_goals go_ret
  all_goals refine ⟨ret_bool ?_, by first | exact HW2.out | exact below_trans HW2.out bel3 | exact HW.out.trans (((Below.refl _ _).alloc (Nat.le_refl _) _).mono (by omega))⟩
  all_goals first | (simp [insOk, *]; done) | (simp_all [insOk]; done) | trace_state
set_option maxHeartbeats 2000000 in
set_option maxRecDepth 100000 in
theorem impl_instrOk2 (R V : Int) (v1 : Array Value) (us : Option Addr) (cs ls : Nat) (params vars slots : Int) (ub : Option Addr) (lb cb : Nat) (op d a b c n : Int) (t : ByteArray) (w : World) (hv : v1 = #[.slice us ls cs, .int .i64 params, .int .i64 vars, .int .i64 slots, .slice ub lb cb])
    (SS : Hid (∀ W, Below w.heap.size w W → Calls Try.prog 52 #[.agg v1] W fun en w' => en = .returned (.agg #[.int .i64 R, .int .i64 V]) ∧ Below W.heap.size W w')) (hop : op = 2) :
    Calls Try.prog 38 #[.agg v1, .agg #[.int .i64 op, .int .i64 d, .int .i64 a, .int .i64 b, .int .i64 c, .int .i64 n, .string t]] w fun en w' => en = .returned (.bool (insOk R V ⟨op, d, a, b, c, n, t⟩)) ∧ Below w.heap.size w w' := by
  subst hv hop
  go_enter Try.func38, Try.ntmps38
  go_wp2_with fail
  refine (SS.out _ (below2 w _ _)).mono ?_
  rintro e1 w1 ⟨rfl, bel1⟩
  obtain ⟨q1, q2, hz, hw⟩ := two bel1
  have HW := hideP hw
  have p0 := (cells_of q2).1 0
  have p1 := (cells_of q2).1 1
  have p2 := (cells_of q2).1 2
  have p3 := (cells_of q2).1 3
  have p4 := (cells_of q2).1 4
  have p5 := (cells_of q2).1 5
  have p6 := (cells_of q2).1 6
  simp at p0 p1 p2 p3 p4 p5 p6
  clear q1 q2 bel1 hw SS
  go_wp2_with (first | (go_at_call 53; refine (allOk_any R V [d, a, b] _ 0 _ _ (ints_lit _ [d, a, b] _ _ _ (by simp) rfl (by simp))).mono ?_; rintro e2 w2 ⟨rfl, bel2⟩; obtain ⟨s1, _, hz2, hw2⟩ := two bel2; have HW2 := hideP (HW.out.trans (hw2.mono (by omega))); have r2 := (hw2.cell (p := ⟨w.heap.size + 1, 2, none⟩) (by omega)).trans p2; have r5 := (hw2.cell (p := ⟨w.heap.size + 1, 5, none⟩) (by omega)).trans p5; have r6 := (hw2.cell (p := ⟨w.heap.size + 1, 6, none⟩) (by omega)).trans p6; have s2 := (cells_of s1).1 0; have s3 := (cells_of s1).1 1; simp at s2 s3; clear s1 bel2 hw2) | (go_at_call 54; refine (operationOk_any t _).mono ?_; rintro e3 w3 ⟨rfl, rfl⟩))
  all_goals go_ret
  all_goals refine ⟨ret_bool ?_, by first | exact HW2.out | exact below_trans HW2.out bel3 | exact HW.out.trans (((Below.refl _ _).alloc (Nat.le_refl _) _).mono (by omega))⟩
  all_goals first | (simp [insOk, *]; done) | (simp_all [insOk]; done) | trace_state
set_option maxHeartbeats 2000000 in
set_option maxRecDepth 100000 in
theorem impl_instrOk3 (R V : Int) (v1 : Array Value) (us : Option Addr) (cs ls : Nat) (params vars slots : Int) (ub : Option Addr) (lb cb : Nat) (op d a b c n : Int) (t : ByteArray) (w : World) (hv : v1 = #[.slice us ls cs, .int .i64 params, .int .i64 vars, .int .i64 slots, .slice ub lb cb])
    (SS : Hid (∀ W, Below w.heap.size w W → Calls Try.prog 52 #[.agg v1] W fun en w' => en = .returned (.agg #[.int .i64 R, .int .i64 V]) ∧ Below W.heap.size W w')) (hop : op = 3) :
    Calls Try.prog 38 #[.agg v1, .agg #[.int .i64 op, .int .i64 d, .int .i64 a, .int .i64 b, .int .i64 c, .int .i64 n, .string t]] w fun en w' => en = .returned (.bool (insOk R V ⟨op, d, a, b, c, n, t⟩)) ∧ Below w.heap.size w w' := by
  subst hv hop
  go_enter Try.func38, Try.ntmps38
  go_wp2_with fail
  refine (SS.out _ (below2 w _ _)).mono ?_
  rintro e1 w1 ⟨rfl, bel1⟩
  obtain ⟨q1, q2, hz, hw⟩ := two bel1
  have HW := hideP hw
  have p0 := (cells_of q2).1 0
  have p1 := (cells_of q2).1 1
  have p2 := (cells_of q2).1 2
  have p3 := (cells_of q2).1 3
  have p4 := (cells_of q2).1 4
  have p5 := (cells_of q2).1 5
  have p6 := (cells_of q2).1 6
  simp at p0 p1 p2 p3 p4 p5 p6
  clear q1 q2 bel1 hw SS
  go_wp2_with (first | (go_at_call 53; refine (allOk_any R V [d, b] _ 0 _ _ (ints_lit _ [d, b] _ _ _ (by simp) rfl (by simp))).mono ?_; rintro e2 w2 ⟨rfl, bel2⟩; obtain ⟨s1, _, hz2, hw2⟩ := two bel2; have HW2 := hideP (HW.out.trans (hw2.mono (by omega))); have r2 := (hw2.cell (p := ⟨w.heap.size + 1, 2, none⟩) (by omega)).trans p2; have r5 := (hw2.cell (p := ⟨w.heap.size + 1, 5, none⟩) (by omega)).trans p5; have r6 := (hw2.cell (p := ⟨w.heap.size + 1, 6, none⟩) (by omega)).trans p6; have s2 := (cells_of s1).1 0; have s3 := (cells_of s1).1 1; simp at s2 s3; clear s1 bel2 hw2) | (go_at_call 55; refine (placeOk_any R V n a _).mono ?_; rintro e3 w3 ⟨rfl, bel3⟩))
  all_goals go_ret
  all_goals refine ⟨ret_bool ?_, by first | exact HW2.out | exact below_trans HW2.out bel3 | exact HW.out.trans (((Below.refl _ _).alloc (Nat.le_refl _) _).mono (by omega))⟩
  all_goals first | (simp [insOk, *]; done) | (simp_all [insOk]; done) | trace_state
set_option maxHeartbeats 2000000 in
set_option maxRecDepth 100000 in
theorem impl_instrOk4 (R V : Int) (v1 : Array Value) (us : Option Addr) (cs ls : Nat) (params vars slots : Int) (ub : Option Addr) (lb cb : Nat) (op d a b c n : Int) (t : ByteArray) (w : World) (hv : v1 = #[.slice us ls cs, .int .i64 params, .int .i64 vars, .int .i64 slots, .slice ub lb cb])
    (SS : Hid (∀ W, Below w.heap.size w W → Calls Try.prog 52 #[.agg v1] W fun en w' => en = .returned (.agg #[.int .i64 R, .int .i64 V]) ∧ Below W.heap.size W w')) (hop : op = 4) :
    Calls Try.prog 38 #[.agg v1, .agg #[.int .i64 op, .int .i64 d, .int .i64 a, .int .i64 b, .int .i64 c, .int .i64 n, .string t]] w fun en w' => en = .returned (.bool (insOk R V ⟨op, d, a, b, c, n, t⟩)) ∧ Below w.heap.size w w' := by
  subst hv hop
  go_enter Try.func38, Try.ntmps38
  go_wp2_with fail
  refine (SS.out _ (below2 w _ _)).mono ?_
  rintro e1 w1 ⟨rfl, bel1⟩
  obtain ⟨q1, q2, hz, hw⟩ := two bel1
  have HW := hideP hw
  have p0 := (cells_of q2).1 0
  have p1 := (cells_of q2).1 1
  have p2 := (cells_of q2).1 2
  have p3 := (cells_of q2).1 3
  have p4 := (cells_of q2).1 4
  have p5 := (cells_of q2).1 5
  have p6 := (cells_of q2).1 6
  simp at p0 p1 p2 p3 p4 p5 p6
  clear q1 q2 bel1 hw SS
  go_wp2_with (first | (go_at_call 53; refine (allOk_any R V [b, c] _ 0 _ _ (ints_lit _ [b, c] _ _ _ (by simp) rfl (by simp))).mono ?_; rintro e2 w2 ⟨rfl, bel2⟩; obtain ⟨s1, _, hz2, hw2⟩ := two bel2; have HW2 := hideP (HW.out.trans (hw2.mono (by omega))); have r2 := (hw2.cell (p := ⟨w.heap.size + 1, 2, none⟩) (by omega)).trans p2; have r5 := (hw2.cell (p := ⟨w.heap.size + 1, 5, none⟩) (by omega)).trans p5; have r6 := (hw2.cell (p := ⟨w.heap.size + 1, 6, none⟩) (by omega)).trans p6; have s2 := (cells_of s1).1 0; have s3 := (cells_of s1).1 1; simp at s2 s3; clear s1 bel2 hw2) | (go_at_call 55; refine (placeOk_any R V n a _).mono ?_; rintro e3 w3 ⟨rfl, bel3⟩))
  all_goals go_ret
  all_goals refine ⟨ret_bool ?_, by first | exact HW2.out | exact below_trans HW2.out bel3 | exact HW.out.trans (((Below.refl _ _).alloc (Nat.le_refl _) _).mono (by omega))⟩
  all_goals first | (simp [insOk, *]; done) | (simp_all [insOk]; done) | trace_state
set_option maxHeartbeats 2000000 in
set_option maxRecDepth 100000 in
theorem impl_instrOk5 (R V : Int) (v1 : Array Value) (us : Option Addr) (cs ls : Nat) (params vars slots : Int) (ub : Option Addr) (lb cb : Nat) (op d a b c n : Int) (t : ByteArray) (w : World) (hv : v1 = #[.slice us ls cs, .int .i64 params, .int .i64 vars, .int .i64 slots, .slice ub lb cb])
    (SS : Hid (∀ W, Below w.heap.size w W → Calls Try.prog 52 #[.agg v1] W fun en w' => en = .returned (.agg #[.int .i64 R, .int .i64 V]) ∧ Below W.heap.size W w')) (hop : op = 5) :
    Calls Try.prog 38 #[.agg v1, .agg #[.int .i64 op, .int .i64 d, .int .i64 a, .int .i64 b, .int .i64 c, .int .i64 n, .string t]] w fun en w' => en = .returned (.bool (insOk R V ⟨op, d, a, b, c, n, t⟩)) ∧ Below w.heap.size w w' := by
  subst hv hop
  go_enter Try.func38, Try.ntmps38
  go_wp2_with fail
  refine (SS.out _ (below2 w _ _)).mono ?_
  rintro e1 w1 ⟨rfl, bel1⟩
  obtain ⟨q1, q2, hz, hw⟩ := two bel1
  have HW := hideP hw
  have p0 := (cells_of q2).1 0
  have p1 := (cells_of q2).1 1
  have p2 := (cells_of q2).1 2
  have p3 := (cells_of q2).1 3
  have p4 := (cells_of q2).1 4
  have p5 := (cells_of q2).1 5
  have p6 := (cells_of q2).1 6
  simp at p0 p1 p2 p3 p4 p5 p6
  clear q1 q2 bel1 hw SS
  go_wp2_with (first | (go_at_call 53; refine (allOk_any R V [d] _ 0 _ _ (ints_lit _ [d] _ _ _ (by simp) rfl (by simp))).mono ?_; rintro e2 w2 ⟨rfl, bel2⟩; obtain ⟨s1, _, hz2, hw2⟩ := two bel2; have HW2 := hideP (HW.out.trans (hw2.mono (by omega))); have r2 := (hw2.cell (p := ⟨w.heap.size + 1, 2, none⟩) (by omega)).trans p2; have r5 := (hw2.cell (p := ⟨w.heap.size + 1, 5, none⟩) (by omega)).trans p5; have r6 := (hw2.cell (p := ⟨w.heap.size + 1, 6, none⟩) (by omega)).trans p6; have s2 := (cells_of s1).1 0; have s3 := (cells_of s1).1 1; simp at s2 s3; clear s1 bel2 hw2))
  all_goals go_ret
  all_goals refine ⟨ret_bool ?_, by first | exact HW2.out | exact below_trans HW2.out bel3 | exact HW.out.trans (((Below.refl _ _).alloc (Nat.le_refl _) _).mono (by omega))⟩
  all_goals first | (simp [insOk, *]; done) | (simp_all [insOk]; done) | trace_state
set_option maxHeartbeats 2000000 in
set_option maxRecDepth 100000 in
theorem impl_instrOk6 (R V : Int) (v1 : Array Value) (us : Option Addr) (cs ls : Nat) (params vars slots : Int) (ub : Option Addr) (lb cb : Nat) (op d a b c n : Int) (t : ByteArray) (w : World) (hv : v1 = #[.slice us ls cs, .int .i64 params, .int .i64 vars, .int .i64 slots, .slice ub lb cb])
    (SS : Hid (∀ W, Below w.heap.size w W → Calls Try.prog 52 #[.agg v1] W fun en w' => en = .returned (.agg #[.int .i64 R, .int .i64 V]) ∧ Below W.heap.size W w')) (hop : op = 6) :
    Calls Try.prog 38 #[.agg v1, .agg #[.int .i64 op, .int .i64 d, .int .i64 a, .int .i64 b, .int .i64 c, .int .i64 n, .string t]] w fun en w' => en = .returned (.bool (insOk R V ⟨op, d, a, b, c, n, t⟩)) ∧ Below w.heap.size w w' := by
  subst hv hop
  go_enter Try.func38, Try.ntmps38
  go_wp2_with fail
  refine (SS.out _ (below2 w _ _)).mono ?_
  rintro e1 w1 ⟨rfl, bel1⟩
  obtain ⟨q1, q2, hz, hw⟩ := two bel1
  have HW := hideP hw
  have p0 := (cells_of q2).1 0
  have p1 := (cells_of q2).1 1
  have p2 := (cells_of q2).1 2
  have p3 := (cells_of q2).1 3
  have p4 := (cells_of q2).1 4
  have p5 := (cells_of q2).1 5
  have p6 := (cells_of q2).1 6
  simp at p0 p1 p2 p3 p4 p5 p6
  clear q1 q2 bel1 hw SS
  go_wp2_with (first | (go_at_call 53; refine (allOk_any R V [a] _ 0 _ _ (ints_lit _ [a] _ _ _ (by simp) rfl (by simp))).mono ?_; rintro e2 w2 ⟨rfl, bel2⟩; obtain ⟨s1, _, hz2, hw2⟩ := two bel2; have HW2 := hideP (HW.out.trans (hw2.mono (by omega))); have r2 := (hw2.cell (p := ⟨w.heap.size + 1, 2, none⟩) (by omega)).trans p2; have r5 := (hw2.cell (p := ⟨w.heap.size + 1, 5, none⟩) (by omega)).trans p5; have r6 := (hw2.cell (p := ⟨w.heap.size + 1, 6, none⟩) (by omega)).trans p6; have s2 := (cells_of s1).1 0; have s3 := (cells_of s1).1 1; simp at s2 s3; clear s1 bel2 hw2))
  all_goals go_ret
  all_goals refine ⟨ret_bool ?_, by first | exact HW2.out | exact below_trans HW2.out bel3 | exact HW.out.trans (((Below.refl _ _).alloc (Nat.le_refl _) _).mono (by omega))⟩
  all_goals first | (simp [insOk, *]; done) | (simp_all [insOk]; done) | trace_state
set_option maxHeartbeats 2000000 in
set_option maxRecDepth 100000 in
theorem impl_instrOk7 (R V : Int) (v1 : Array Value) (us : Option Addr) (cs ls : Nat) (params vars slots : Int) (ub : Option Addr) (lb cb : Nat) (op d a b c n : Int) (t : ByteArray) (w : World) (hv : v1 = #[.slice us ls cs, .int .i64 params, .int .i64 vars, .int .i64 slots, .slice ub lb cb])
    (SS : Hid (∀ W, Below w.heap.size w W → Calls Try.prog 52 #[.agg v1] W fun en w' => en = .returned (.agg #[.int .i64 R, .int .i64 V]) ∧ Below W.heap.size W w')) (h0 : ¬ op = 0) (h1 : ¬ op = 1) (h2 : ¬ op = 2) (h3 : ¬ op = 3) (h4 : ¬ op = 4) (h5 : ¬ op = 5) (h6 : ¬ op = 6) :
    Calls Try.prog 38 #[.agg v1, .agg #[.int .i64 op, .int .i64 d, .int .i64 a, .int .i64 b, .int .i64 c, .int .i64 n, .string t]] w fun en w' => en = .returned (.bool (insOk R V ⟨op, d, a, b, c, n, t⟩)) ∧ Below w.heap.size w w' := by
  subst hv
  go_enter Try.func38, Try.ntmps38
  go_wp2_with fail
  refine (SS.out _ (below2 w _ _)).mono ?_
  rintro e1 w1 ⟨rfl, bel1⟩
  obtain ⟨q1, q2, hz, hw⟩ := two bel1
  have HW := hideP hw
  have p0 := (cells_of q2).1 0
  have p1 := (cells_of q2).1 1
  have p2 := (cells_of q2).1 2
  have p3 := (cells_of q2).1 3
  have p4 := (cells_of q2).1 4
  have p5 := (cells_of q2).1 5
  have p6 := (cells_of q2).1 6
  simp at p0 p1 p2 p3 p4 p5 p6
  clear q1 q2 bel1 hw SS
  go_wp2
  all_goals go_ret
  all_goals exact ⟨ret_bool (by simp [insOk, *]), HW.out.trans (((Below.refl _ _).alloc (Nat.le_refl _) _).mono (by omega))⟩
theorem impl_instrOk (g : Gr) (x : Ins) (w : World) (B1 B2 : Nat) (v1 v2 : Array Value) (h1 : GrIs w B1 v1 g) (h2 : InsIs w B2 v2 x) :
    Calls Try.prog 38 #[.agg v1, .agg v2] w fun en w' => en = .returned (.bool (insOk (g.sizes.length : Nat) g.slots x)) ∧ Below w.heap.size w w' := by
  have SS : Hid (∀ W, Below w.heap.size w W → Calls Try.prog 52 #[.agg v1] W fun en w' => en = .returned (.agg #[.int .i64 (g.sizes.length : Nat), .int .i64 g.slots]) ∧ Below W.heap.size W w') := fun W hW => slotScope_any g W B1 v1 (GrKeeps.stays h1 hW)
  obtain ⟨us, cs, ub, cb, hv, _, _⟩ := h1
  obtain ⟨op, d, a, b, c, n, t⟩ := x
  obtain ⟨rfl, _⟩ := h2
  rcases (show op = 0 ∨ op = 1 ∨ op = 2 ∨ op = 3 ∨ op = 4 ∨ op = 5 ∨ op = 6 ∨ (¬ op = 0 ∧ ¬ op = 1 ∧ ¬ op = 2 ∧ ¬ op = 3 ∧ ¬ op = 4 ∧ ¬ op = 5 ∧ ¬ op = 6) by omega) with h | h | h | h | h | h | h | ⟨h0, h1, h2, h3, h4, h5, h6⟩
  · exact impl_instrOk0 _ _ v1 us cs _ _ _ _ ub _ cb op d a b c n t w hv SS h
  · exact impl_instrOk1 _ _ v1 us cs _ _ _ _ ub _ cb op d a b c n t w hv SS h
  · exact impl_instrOk2 _ _ v1 us cs _ _ _ _ ub _ cb op d a b c n t w hv SS h
  · exact impl_instrOk3 _ _ v1 us cs _ _ _ _ ub _ cb op d a b c n t w hv SS h
  · exact impl_instrOk4 _ _ v1 us cs _ _ _ _ ub _ cb op d a b c n t w hv SS h
  · exact impl_instrOk5 _ _ v1 us cs _ _ _ _ ub _ cb op d a b c n t w hv SS h
  · exact impl_instrOk6 _ _ v1 us cs _ _ _ _ ub _ cb op d a b c n t w hv SS h
  · exact impl_instrOk7 _ _ v1 us cs _ _ _ _ ub _ cb op d a b c n t w hv SS h0 h1 h2 h3 h4 h5 h6
end Go.Proofs.Ytobpcfelgobedab
