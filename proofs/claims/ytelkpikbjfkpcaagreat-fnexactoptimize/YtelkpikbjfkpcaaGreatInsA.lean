/- When a step is right: as a function of the step; the contracts of impl.InstrOk and spec.InstrOk. -/
import Derived.Test.YtelkpikbjfkpcaaGreatShD
import Derived.Test.YtelkpikbjfkpcaaGreatPlA
namespace Go.Proofs.YtelkpikbjfkpcaaGreat
open Go.ChangeShapes Go.WideShapes Go.ChangeAt Go.RowKit

def theOps : List ByteArray := [wd [61, 61], wd [60], wd [38], wd [43], wd [45], wd [42]]
def opL (l : List UInt8) : Bool := l == [61, 61] || l == [60] || l == [38] || l == [43] || l == [45] || l == [42]
theorem hasB_theOps (s : ByteArray) : hasB theOps s = opL s.toList := by
  unfold theOps opL
  simp only [hasB_cons, hasB_nil, Bool.or_false, Bool.or_assoc]
def vOk (V n : Int) : Bool := decide (0 ≤ n ∧ n < V)
def plOk (R V n b : Int) : Bool := decide (0 ≤ n ∧ n < R) && (decide (b = -1) || vOk V b)
/-- Whether a step is right, of R regions and V slots. -/
def insOk (R V : Int) (x : Ins) : Bool :=
  if x.op = 0 then decide (x.a = 0) && decide (x.b = 0) && decide (x.c = 0) && (x.t.toList == []) && vOk V x.d
  else if x.op = 1 then decide (x.b = 0) && decide (x.c = 0) && decide (x.n = 0) && (x.t.toList == []) && vOk V x.d && vOk V x.a
  else if x.op = 2 then decide (x.c = 0) && decide (x.n = 0) && vOk V x.d && vOk V x.a && vOk V x.b && opL x.t.toList
  else if x.op = 3 then decide (x.c = 0) && (x.t.toList == []) && vOk V x.d && vOk V x.b && plOk R V x.n x.a
  else if x.op = 4 then decide (x.d = 0) && (x.t.toList == []) && vOk V x.b && vOk V x.c && plOk R V x.n x.a
  else if x.op = 5 then decide (x.a = 0) && decide (x.b = 0) && decide (x.c = 0) && decide (x.n = 0) && (x.t.toList == []) && vOk V x.d
  else if x.op = 6 then decide (x.d = 0) && decide (x.b = 0) && decide (x.c = 0) && decide (x.n = 0) && (x.t.toList == []) && vOk V x.a
  else false

theorem variableOk_any (R V n : Int) (w : World) :
    Calls Tryz.prog 153 #[.agg #[.int .i64 R, .int .i64 V], .int .i64 n] w fun e w' => e = .returned (.bool (vOk V n)) ∧ Below w.heap.size w w' := by
  go_enter Tryz.func153, Tryz.ntmps153
  go_wp2
  all_goals go_ret
  all_goals exact ⟨ret_bool (by simp [vOk]; omega), (Below.refl _ _).alloc (Nat.le_refl _) _⟩
theorem placeOk_any (R V n b : Int) (w : World) :
    Calls Tryz.prog 128 #[.agg #[.int .i64 R, .int .i64 V], .int .i64 n, .int .i64 b] w fun e w' => e = .returned (.bool (plOk R V n b)) ∧ Below w.heap.size w w' := by
  go_enter Tryz.func128, Tryz.ntmps128
  go_wp2_with (go_at_call 153; refine (variableOk_any R V b _).mono ?_; rintro e1 w1 ⟨rfl, bel1⟩)
  all_goals go_ret
  all_goals refine ⟨ret_bool ?_, by first | exact (Below.refl _ _).alloc (Nat.le_refl _) _ | exact below_new bel1⟩
  · simp [plOk, *]
  · clear bel1; simp [plOk, *]
  · simp [plOk]; omega
  · simp [plOk]; omega
set_option maxHeartbeats 1000000 in
theorem operationOk_any (s : ByteArray) (w : World) :
    Calls Tryz.prog 127 #[.string s] w fun e w' => e = .returned (.bool (opL s.toList)) ∧ w' = w := by
  go_enter Tryz.func127, Tryz.ntmps127
  go_wp2
  all_goals first | (simp_all; done) | skip
  all_goals go_ret
  all_goals refine ⟨ret_bool ?_, rfl⟩
  all_goals simp only [opL, *, Bool.true_or, Bool.or_true, Bool.or_false]
theorem slotScope_any (x : Gr) (w : World) (B : Nat) (v : Array Value) (h : GrIs w B v x) :
    Calls Tryz.prog 125 #[.agg v] w fun en w' => en = .returned (.agg #[.int .i64 (x.sizes.length : Nat), .int .i64 x.slots]) ∧ Below w.heap.size w w' := by
  obtain ⟨sizes, params, vars, slots, blocks⟩ := x
  obtain ⟨us, cs, ub, cb, rfl, _, hz, _⟩ := h
  have hl := hz.1
  have hm := maxLen_lt
  clear hz
  simp only at *
  go_enter Tryz.func125, Tryz.ntmps125
  go_wp2
  try simp only [Exit.inBlock, Exit.then]
  refine bodyPost_ret (v := .agg #[.int .i64 (sizes.length : Nat), .int .i64 slots]) (by simp [results, Tryz.results125, go_sem]) rfl ⟨rfl, ?_⟩
  exact below2 w _ _
set_option maxHeartbeats 1000000 in
theorem allOk_any (R V : Int) (zs : List Int) (w : World) (B : Nat) (a : Option Addr) (cap : Nat) (h : IntsIs w B a zs) :
    Calls Tryz.prog 126 #[.agg #[.int .i64 R, .int .i64 V], .slice a zs.length cap] w fun e w' => e = .returned (.bool (zs.all (vOk V))) ∧ Below w.heap.size w w' := by
  have hm := maxLen_lt
  have hl := h.1
  have H := hideP h
  clear h
  go_enter Tryz.func126, Tryz.ntmps126
  go_wp2
  go_loopw [9] (fun i wr => ∃ j : Nat, j ≤ zs.length ∧ i = .int .i64 j ∧ Below (w.heap.size + 1) (w.alloc (.cells #[.int .i64 R, .int .i64 V] 155)) wr ∧ Hid ((zs.take j).all (vOk V) = true)) (fun i _ => zs.length - (intOf i).toNat)
  case atStart => exact ⟨0, Nat.zero_le _, rfl, Below.refl _ _, show _ = _ by simp⟩
  case round =>
    obtain ⟨j, hj, rfl, bel, hok⟩ := hrel
    have HB := hideP bel
    have hw := hideP (below_new (bel.mono (by simp)))
    have P := hideP ((bel.block w.heap.size (by simp)).trans (show (w.alloc _).heap[w.heap.size]? = _ from Array.getElem?_push_size))
    have hsz := bel.size
    simp at hsz
    clear bel
    by_cases hlt : j < zs.length
    · obtain ⟨b, o, rfl, _, hb, p0⟩ := (H.out.stays hw.out).get j hlt
      obtain ⟨z, hz⟩ : ∃ z, zs[j] = z := ⟨_, rfl⟩
      rw [hz] at p0
      have tk : (zs.take (j + 1)).all (vOk V) = ((zs.take j).all (vOk V) && vOk V z) := by rw [List.take_succ_eq_append_getElem hlt, List.all_append, hz]; simp
      have no : vOk V z = false → zs.all (vOk V) = false := fun h0 => by rw [List.all_eq_false]; exact ⟨z, hz ▸ List.getElem_mem hlt, by simp [h0]⟩
      have q0 := (cells_of P.out).1 0
      have q1 := (cells_of P.out).1 1
      simp at q0 q1
      rw [hok.out, Bool.true_and] at tk
      have TK := hideP tk
      have NO := hideP no
      clear hz tk no
      go_wp2_with fail
      refine (variableOk_any R V z _).mono ?_
      rintro e1 w1 ⟨rfl, bel1⟩
      have hb1 := hideP (HB.out.trans (bel1.mono (by omega)))
      have hw1 := hideP (hw.out.trans (bel1.mono (by omega)))
      clear bel1 p0 q0 q1
      cases hr : vOk V z with
      | false =>
        have E := hideP (NO.out hr)
        clear hr
        go_wp2
        go_ret
        exact ⟨ret_bool E.out.symm, hw1.out⟩
      | true =>
        have T := hideP (TK.out.trans hr)
        clear hr
        go_wp2
        go_roundw
        case rel => exact ⟨j + 1, by omega, by go_num, hb1.out, T⟩
        case measure => simp [intOf]; omega
    · have hjn : j = zs.length := by omega
      subst hjn
      have h1 := hok.out
      rw [List.take_length] at h1
      have E := hideP h1
      clear h1 hok
      go_wp2
      go_ret
      exact ⟨ret_bool E.out.symm, hw.out⟩
end Go.Proofs.YtelkpikbjfkpcaaGreat

/- The contract of impl.InstrOk. -/
namespace Go.Proofs.YtelkpikbjfkpcaaGreat
open Go.ChangeShapes Go.WideShapes Go.ChangeAt Go.RowKit
/-- A list of numbers written out. -/
theorem ints_lit (w : World) (zs : List Int) (cs : Array Value) (T : TypeId) (n : Nat) (hn : n = w.heap.size) (hcs : cs = (zs.map (Value.int .i64)).toArray) (hl : zs.length ≤ 1000) : IntsIs (w.alloc (.cells cs T)) 0 (some ⟨n, 0, none⟩) zs := by
  subst hcs hn
  have hm : 1000 ≤ maxLen := by unfold maxLen; decide
  refine ⟨by omega, Or.inr ⟨_, 0, rfl, Nat.zero_le _, by simp, fun h0 => absurd h0 (Nat.lt_irrefl _), fun i hi => ?_⟩⟩
  rw [Nat.zero_add, World.cell?_alloc_new]
  simp [hi]
set_option maxHeartbeats 2000000 in
set_option maxRecDepth 100000 in
theorem impl_instrOk0 (R V : Int) (v1 : Array Value) (us : Option Addr) (cs ls : Nat) (params vars slots : Int) (ub : Option Addr) (lb cb : Nat) (op d a b c n : Int) (t : ByteArray) (w : World) (hv : v1 = #[.slice us ls cs, .int .i64 params, .int .i64 vars, .int .i64 slots, .slice ub lb cb])
    (SS : Hid (∀ W, Below w.heap.size w W → Calls Tryz.prog 125 #[.agg v1] W fun en w' => en = .returned (.agg #[.int .i64 R, .int .i64 V]) ∧ Below W.heap.size W w')) (hop : op = 0) :
    Calls Tryz.prog 88 #[.agg v1, .agg #[.int .i64 op, .int .i64 d, .int .i64 a, .int .i64 b, .int .i64 c, .int .i64 n, .string t]] w fun en w' => en = .returned (.bool (insOk R V ⟨op, d, a, b, c, n, t⟩)) ∧ Below w.heap.size w w' := by
  subst hv hop
  go_enter Tryz.func88, Tryz.ntmps88
  go_wp2_with fail
  refine (SS.out _ (below2 w _ _)).mono ?_
  rintro e1 w1 ⟨rfl, bel1⟩
  obtain ⟨q1, q2, hz, hw⟩ := two bel1
  have HW := hideP hw
  have p0 := (cells_of q2).1 0
  have p1 := (cells_of q2).1 1
  have p2 := (cells_of q2).1 2
  have p3 := (cells_of q2).1 3
  have p4 := (cells_of q2).1 4
  have p5 := (cells_of q2).1 5
  have p6 := (cells_of q2).1 6
  simp at p0 p1 p2 p3 p4 p5 p6
  clear q1 q2 bel1 hw SS
  go_wp2_with (first | (go_at_call 126; refine (allOk_any R V [d] _ 0 _ _ (ints_lit _ [d] _ _ _ (by simp) rfl (by simp))).mono ?_; rintro e2 w2 ⟨rfl, bel2⟩; obtain ⟨s1, _, hz2, hw2⟩ := two bel2; have HW2 := hideP (HW.out.trans (hw2.mono (by omega))); have r2 := (hw2.cell (p := ⟨w.heap.size + 1, 2, none⟩) (by omega)).trans p2; have r5 := (hw2.cell (p := ⟨w.heap.size + 1, 5, none⟩) (by omega)).trans p5; have r6 := (hw2.cell (p := ⟨w.heap.size + 1, 6, none⟩) (by omega)).trans p6; have s2 := (cells_of s1).1 0; have s3 := (cells_of s1).1 1; simp at s2 s3; clear s1 bel2 hw2))
  all_goals go_ret
  all_goals refine ⟨ret_bool ?_, by first | exact HW2.out | exact below_trans HW2.out bel3 | exact HW.out.trans (((Below.refl _ _).alloc (Nat.le_refl _) _).mono (by omega))⟩
  all_goals first | (simp [insOk, *]; done) | (simp_all [insOk]; done) | trace_state
set_option maxHeartbeats 2000000 in
set_option maxRecDepth 100000 in
theorem impl_instrOk1 (R V : Int) (v1 : Array Value) (us : Option Addr) (cs ls : Nat) (params vars slots : Int) (ub : Option Addr) (lb cb : Nat) (op d a b c n : Int) (t : ByteArray) (w : World) (hv : v1 = #[.slice us ls cs, .int .i64 params, .int .i64 vars, .int .i64 slots, .slice ub lb cb])
    (SS : Hid (∀ W, Below w.heap.size w W → Calls Tryz.prog 125 #[.agg v1] W fun en w' => en = .returned (.agg #[.int .i64 R, .int .i64 V]) ∧ Below W.heap.size W w')) (hop : op = 1) :
    Calls Tryz.prog 88 #[.agg v1, .agg #[.int .i64 op, .int .i64 d, .int .i64 a, .int .i64 b, .int .i64 c, .int .i64 n, .string t]] w fun en w' => en = .returned (.bool (insOk R V ⟨op, d, a, b, c, n, t⟩)) ∧ Below w.heap.size w w' := by
  subst hv hop
  go_enter Tryz.func88, Tryz.ntmps88
  go_wp2_with fail
  refine (SS.out _ (below2 w _ _)).mono ?_
  rintro e1 w1 ⟨rfl, bel1⟩
  obtain ⟨q1, q2, hz, hw⟩ := two bel1
  have HW := hideP hw
  have p0 := (cells_of q2).1 0
  have p1 := (cells_of q2).1 1
  have p2 := (cells_of q2).1 2
  have p3 := (cells_of q2).1 3
  have p4 := (cells_of q2).1 4
  have p5 := (cells_of q2).1 5
  have p6 := (cells_of q2).1 6
  simp at p0 p1 p2 p3 p4 p5 p6
  clear q1 q2 bel1 hw SS
  go_wp2_with (first | (go_at_call 126; refine (allOk_any R V [d, a] _ 0 _ _ (ints_lit _ [d, a] _ _ _ (by simp) rfl (by simp))).mono ?_; rintro e2 w2 ⟨rfl, bel2⟩; obtain ⟨s1, _, hz2, hw2⟩ := two bel2; have HW2 := hideP (HW.out.trans (hw2.mono (by omega))); have r2 := (hw2.cell (p := ⟨w.heap.size + 1, 2, none⟩) (by omega)).trans p2; have r5 := (hw2.cell (p := ⟨w.heap.size + 1, 5, none⟩) (by omega)).trans p5; have r6 := (hw2.cell (p := ⟨w.heap.size + 1, 6, none⟩) (by omega)).trans p6; have s2 := (cells_of s1).1 0; have s3 := (cells_of s1).1 1; simp at s2 s3; clear s1 bel2 hw2))
  all_goals go_ret
  all_goals refine ⟨ret_bool ?_, by first | exact HW2.out | exact below_trans HW2.out bel3 | exact HW.out.trans (((Below.refl _ _).alloc (Nat.le_refl _) _).mono (by omega))⟩
  all_goals first | (simp [insOk, *]; done) | (simp_all [insOk]; done) | trace_state
set_option maxHeartbeats 2000000 in
set_option maxRecDepth 100000 in
theorem impl_instrOk2 (R V : Int) (v1 : Array Value) (us : Option Addr) (cs ls : Nat) (params vars slots : Int) (ub : Option Addr) (lb cb : Nat) (op d a b c n : Int) (t : ByteArray) (w : World) (hv : v1 = #[.slice us ls cs, .int .i64 params, .int .i64 vars, .int .i64 slots, .slice ub lb cb])
    (SS : Hid (∀ W, Below w.heap.size w W → Calls Tryz.prog 125 #[.agg v1] W fun en w' => en = .returned (.agg #[.int .i64 R, .int .i64 V]) ∧ Below W.heap.size W w')) (hop : op = 2) :
    Calls Tryz.prog 88 #[.agg v1, .agg #[.int .i64 op, .int .i64 d, .int .i64 a, .int .i64 b, .int .i64 c, .int .i64 n, .string t]] w fun en w' => en = .returned (.bool (insOk R V ⟨op, d, a, b, c, n, t⟩)) ∧ Below w.heap.size w w' := by
  subst hv hop
  go_enter Tryz.func88, Tryz.ntmps88
  go_wp2_with fail
  refine (SS.out _ (below2 w _ _)).mono ?_
  rintro e1 w1 ⟨rfl, bel1⟩
  obtain ⟨q1, q2, hz, hw⟩ := two bel1
  have HW := hideP hw
  have p0 := (cells_of q2).1 0
  have p1 := (cells_of q2).1 1
  have p2 := (cells_of q2).1 2
  have p3 := (cells_of q2).1 3
  have p4 := (cells_of q2).1 4
  have p5 := (cells_of q2).1 5
  have p6 := (cells_of q2).1 6
  simp at p0 p1 p2 p3 p4 p5 p6
  clear q1 q2 bel1 hw SS
  go_wp2_with (first | (go_at_call 126; refine (allOk_any R V [d, a, b] _ 0 _ _ (ints_lit _ [d, a, b] _ _ _ (by simp) rfl (by simp))).mono ?_; rintro e2 w2 ⟨rfl, bel2⟩; obtain ⟨s1, _, hz2, hw2⟩ := two bel2; have HW2 := hideP (HW.out.trans (hw2.mono (by omega))); have r2 := (hw2.cell (p := ⟨w.heap.size + 1, 2, none⟩) (by omega)).trans p2; have r5 := (hw2.cell (p := ⟨w.heap.size + 1, 5, none⟩) (by omega)).trans p5; have r6 := (hw2.cell (p := ⟨w.heap.size + 1, 6, none⟩) (by omega)).trans p6; have s2 := (cells_of s1).1 0; have s3 := (cells_of s1).1 1; simp at s2 s3; clear s1 bel2 hw2) | (go_at_call 127; refine (operationOk_any t _).mono ?_; rintro e3 w3 ⟨rfl, rfl⟩))
  all_goals go_ret
  all_goals refine ⟨ret_bool ?_, by first | exact HW2.out | exact below_trans HW2.out bel3 | exact HW.out.trans (((Below.refl _ _).alloc (Nat.le_refl _) _).mono (by omega))⟩
  all_goals first | (simp [insOk, *]; done) | (simp_all [insOk]; done) | trace_state
set_option maxHeartbeats 2000000 in
set_option maxRecDepth 100000 in
theorem impl_instrOk3 (R V : Int) (v1 : Array Value) (us : Option Addr) (cs ls : Nat) (params vars slots : Int) (ub : Option Addr) (lb cb : Nat) (op d a b c n : Int) (t : ByteArray) (w : World) (hv : v1 = #[.slice us ls cs, .int .i64 params, .int .i64 vars, .int .i64 slots, .slice ub lb cb])
    (SS : Hid (∀ W, Below w.heap.size w W → Calls Tryz.prog 125 #[.agg v1] W fun en w' => en = .returned (.agg #[.int .i64 R, .int .i64 V]) ∧ Below W.heap.size W w')) (hop : op = 3) :
    Calls Tryz.prog 88 #[.agg v1, .agg #[.int .i64 op, .int .i64 d, .int .i64 a, .int .i64 b, .int .i64 c, .int .i64 n, .string t]] w fun en w' => en = .returned (.bool (insOk R V ⟨op, d, a, b, c, n, t⟩)) ∧ Below w.heap.size w w' := by
  subst hv hop
  go_enter Tryz.func88, Tryz.ntmps88
  go_wp2_with fail
  refine (SS.out _ (below2 w _ _)).mono ?_
  rintro e1 w1 ⟨rfl, bel1⟩
  obtain ⟨q1, q2, hz, hw⟩ := two bel1
  have HW := hideP hw
  have p0 := (cells_of q2).1 0
  have p1 := (cells_of q2).1 1
  have p2 := (cells_of q2).1 2
  have p3 := (cells_of q2).1 3
  have p4 := (cells_of q2).1 4
  have p5 := (cells_of q2).1 5
  have p6 := (cells_of q2).1 6
  simp at p0 p1 p2 p3 p4 p5 p6
  clear q1 q2 bel1 hw SS
  go_wp2_with (first | (go_at_call 126; refine (allOk_any R V [d, b] _ 0 _ _ (ints_lit _ [d, b] _ _ _ (by simp) rfl (by simp))).mono ?_; rintro e2 w2 ⟨rfl, bel2⟩; obtain ⟨s1, _, hz2, hw2⟩ := two bel2; have HW2 := hideP (HW.out.trans (hw2.mono (by omega))); have r2 := (hw2.cell (p := ⟨w.heap.size + 1, 2, none⟩) (by omega)).trans p2; have r5 := (hw2.cell (p := ⟨w.heap.size + 1, 5, none⟩) (by omega)).trans p5; have r6 := (hw2.cell (p := ⟨w.heap.size + 1, 6, none⟩) (by omega)).trans p6; have s2 := (cells_of s1).1 0; have s3 := (cells_of s1).1 1; simp at s2 s3; clear s1 bel2 hw2) | (go_at_call 128; refine (placeOk_any R V n a _).mono ?_; rintro e3 w3 ⟨rfl, bel3⟩))
  all_goals go_ret
  all_goals refine ⟨ret_bool ?_, by first | exact HW2.out | exact below_trans HW2.out bel3 | exact HW.out.trans (((Below.refl _ _).alloc (Nat.le_refl _) _).mono (by omega))⟩
  all_goals first | (simp [insOk, *]; done) | (simp_all [insOk]; done) | trace_state
set_option maxHeartbeats 2000000 in
set_option maxRecDepth 100000 in
theorem impl_instrOk4 (R V : Int) (v1 : Array Value) (us : Option Addr) (cs ls : Nat) (params vars slots : Int) (ub : Option Addr) (lb cb : Nat) (op d a b c n : Int) (t : ByteArray) (w : World) (hv : v1 = #[.slice us ls cs, .int .i64 params, .int .i64 vars, .int .i64 slots, .slice ub lb cb])
    (SS : Hid (∀ W, Below w.heap.size w W → Calls Tryz.prog 125 #[.agg v1] W fun en w' => en = .returned (.agg #[.int .i64 R, .int .i64 V]) ∧ Below W.heap.size W w')) (hop : op = 4) :
    Calls Tryz.prog 88 #[.agg v1, .agg #[.int .i64 op, .int .i64 d, .int .i64 a, .int .i64 b, .int .i64 c, .int .i64 n, .string t]] w fun en w' => en = .returned (.bool (insOk R V ⟨op, d, a, b, c, n, t⟩)) ∧ Below w.heap.size w w' := by
  subst hv hop
  go_enter Tryz.func88, Tryz.ntmps88
  go_wp2_with fail
  refine (SS.out _ (below2 w _ _)).mono ?_
  rintro e1 w1 ⟨rfl, bel1⟩
  obtain ⟨q1, q2, hz, hw⟩ := two bel1
  have HW := hideP hw
  have p0 := (cells_of q2).1 0
  have p1 := (cells_of q2).1 1
  have p2 := (cells_of q2).1 2
  have p3 := (cells_of q2).1 3
  have p4 := (cells_of q2).1 4
  have p5 := (cells_of q2).1 5
  have p6 := (cells_of q2).1 6
  simp at p0 p1 p2 p3 p4 p5 p6
  clear q1 q2 bel1 hw SS
  go_wp2_with (first | (go_at_call 126; refine (allOk_any R V [b, c] _ 0 _ _ (ints_lit _ [b, c] _ _ _ (by simp) rfl (by simp))).mono ?_; rintro e2 w2 ⟨rfl, bel2⟩; obtain ⟨s1, _, hz2, hw2⟩ := two bel2; have HW2 := hideP (HW.out.trans (hw2.mono (by omega))); have r2 := (hw2.cell (p := ⟨w.heap.size + 1, 2, none⟩) (by omega)).trans p2; have r5 := (hw2.cell (p := ⟨w.heap.size + 1, 5, none⟩) (by omega)).trans p5; have r6 := (hw2.cell (p := ⟨w.heap.size + 1, 6, none⟩) (by omega)).trans p6; have s2 := (cells_of s1).1 0; have s3 := (cells_of s1).1 1; simp at s2 s3; clear s1 bel2 hw2) | (go_at_call 128; refine (placeOk_any R V n a _).mono ?_; rintro e3 w3 ⟨rfl, bel3⟩))
  all_goals go_ret
  all_goals refine ⟨ret_bool ?_, by first | exact HW2.out | exact below_trans HW2.out bel3 | exact HW.out.trans (((Below.refl _ _).alloc (Nat.le_refl _) _).mono (by omega))⟩
  all_goals first | (simp [insOk, *]; done) | (simp_all [insOk]; done) | trace_state
set_option maxHeartbeats 2000000 in
set_option maxRecDepth 100000 in
theorem impl_instrOk5 (R V : Int) (v1 : Array Value) (us : Option Addr) (cs ls : Nat) (params vars slots : Int) (ub : Option Addr) (lb cb : Nat) (op d a b c n : Int) (t : ByteArray) (w : World) (hv : v1 = #[.slice us ls cs, .int .i64 params, .int .i64 vars, .int .i64 slots, .slice ub lb cb])
    (SS : Hid (∀ W, Below w.heap.size w W → Calls Tryz.prog 125 #[.agg v1] W fun en w' => en = .returned (.agg #[.int .i64 R, .int .i64 V]) ∧ Below W.heap.size W w')) (hop : op = 5) :
    Calls Tryz.prog 88 #[.agg v1, .agg #[.int .i64 op, .int .i64 d, .int .i64 a, .int .i64 b, .int .i64 c, .int .i64 n, .string t]] w fun en w' => en = .returned (.bool (insOk R V ⟨op, d, a, b, c, n, t⟩)) ∧ Below w.heap.size w w' := by
  subst hv hop
  go_enter Tryz.func88, Tryz.ntmps88
  go_wp2_with fail
  refine (SS.out _ (below2 w _ _)).mono ?_
  rintro e1 w1 ⟨rfl, bel1⟩
  obtain ⟨q1, q2, hz, hw⟩ := two bel1
  have HW := hideP hw
  have p0 := (cells_of q2).1 0
  have p1 := (cells_of q2).1 1
  have p2 := (cells_of q2).1 2
  have p3 := (cells_of q2).1 3
  have p4 := (cells_of q2).1 4
  have p5 := (cells_of q2).1 5
  have p6 := (cells_of q2).1 6
  simp at p0 p1 p2 p3 p4 p5 p6
  clear q1 q2 bel1 hw SS
  go_wp2_with (first | (go_at_call 126; refine (allOk_any R V [d] _ 0 _ _ (ints_lit _ [d] _ _ _ (by simp) rfl (by simp))).mono ?_; rintro e2 w2 ⟨rfl, bel2⟩; obtain ⟨s1, _, hz2, hw2⟩ := two bel2; have HW2 := hideP (HW.out.trans (hw2.mono (by omega))); have r2 := (hw2.cell (p := ⟨w.heap.size + 1, 2, none⟩) (by omega)).trans p2; have r5 := (hw2.cell (p := ⟨w.heap.size + 1, 5, none⟩) (by omega)).trans p5; have r6 := (hw2.cell (p := ⟨w.heap.size + 1, 6, none⟩) (by omega)).trans p6; have s2 := (cells_of s1).1 0; have s3 := (cells_of s1).1 1; simp at s2 s3; clear s1 bel2 hw2))
  all_goals go_ret
  all_goals refine ⟨ret_bool ?_, by first | exact HW2.out | exact below_trans HW2.out bel3 | exact HW.out.trans (((Below.refl _ _).alloc (Nat.le_refl _) _).mono (by omega))⟩
  all_goals first | (simp [insOk, *]; done) | (simp_all [insOk]; done) | trace_state
set_option maxHeartbeats 2000000 in
set_option maxRecDepth 100000 in
theorem impl_instrOk6 (R V : Int) (v1 : Array Value) (us : Option Addr) (cs ls : Nat) (params vars slots : Int) (ub : Option Addr) (lb cb : Nat) (op d a b c n : Int) (t : ByteArray) (w : World) (hv : v1 = #[.slice us ls cs, .int .i64 params, .int .i64 vars, .int .i64 slots, .slice ub lb cb])
    (SS : Hid (∀ W, Below w.heap.size w W → Calls Tryz.prog 125 #[.agg v1] W fun en w' => en = .returned (.agg #[.int .i64 R, .int .i64 V]) ∧ Below W.heap.size W w')) (hop : op = 6) :
    Calls Tryz.prog 88 #[.agg v1, .agg #[.int .i64 op, .int .i64 d, .int .i64 a, .int .i64 b, .int .i64 c, .int .i64 n, .string t]] w fun en w' => en = .returned (.bool (insOk R V ⟨op, d, a, b, c, n, t⟩)) ∧ Below w.heap.size w w' := by
  subst hv hop
  go_enter Tryz.func88, Tryz.ntmps88
  go_wp2_with fail
  refine (SS.out _ (below2 w _ _)).mono ?_
  rintro e1 w1 ⟨rfl, bel1⟩
  obtain ⟨q1, q2, hz, hw⟩ := two bel1
  have HW := hideP hw
  have p0 := (cells_of q2).1 0
  have p1 := (cells_of q2).1 1
  have p2 := (cells_of q2).1 2
  have p3 := (cells_of q2).1 3
  have p4 := (cells_of q2).1 4
  have p5 := (cells_of q2).1 5
  have p6 := (cells_of q2).1 6
  simp at p0 p1 p2 p3 p4 p5 p6
  clear q1 q2 bel1 hw SS
  go_wp2_with (first | (go_at_call 126; refine (allOk_any R V [a] _ 0 _ _ (ints_lit _ [a] _ _ _ (by simp) rfl (by simp))).mono ?_; rintro e2 w2 ⟨rfl, bel2⟩; obtain ⟨s1, _, hz2, hw2⟩ := two bel2; have HW2 := hideP (HW.out.trans (hw2.mono (by omega))); have r2 := (hw2.cell (p := ⟨w.heap.size + 1, 2, none⟩) (by omega)).trans p2; have r5 := (hw2.cell (p := ⟨w.heap.size + 1, 5, none⟩) (by omega)).trans p5; have r6 := (hw2.cell (p := ⟨w.heap.size + 1, 6, none⟩) (by omega)).trans p6; have s2 := (cells_of s1).1 0; have s3 := (cells_of s1).1 1; simp at s2 s3; clear s1 bel2 hw2))
  all_goals go_ret
  all_goals refine ⟨ret_bool ?_, by first | exact HW2.out | exact below_trans HW2.out bel3 | exact HW.out.trans (((Below.refl _ _).alloc (Nat.le_refl _) _).mono (by omega))⟩
  all_goals first | (simp [insOk, *]; done) | (simp_all [insOk]; done) | trace_state
set_option maxHeartbeats 2000000 in
set_option maxRecDepth 100000 in
theorem impl_instrOk7 (R V : Int) (v1 : Array Value) (us : Option Addr) (cs ls : Nat) (params vars slots : Int) (ub : Option Addr) (lb cb : Nat) (op d a b c n : Int) (t : ByteArray) (w : World) (hv : v1 = #[.slice us ls cs, .int .i64 params, .int .i64 vars, .int .i64 slots, .slice ub lb cb])
    (SS : Hid (∀ W, Below w.heap.size w W → Calls Tryz.prog 125 #[.agg v1] W fun en w' => en = .returned (.agg #[.int .i64 R, .int .i64 V]) ∧ Below W.heap.size W w')) (h0 : ¬ op = 0) (h1 : ¬ op = 1) (h2 : ¬ op = 2) (h3 : ¬ op = 3) (h4 : ¬ op = 4) (h5 : ¬ op = 5) (h6 : ¬ op = 6) :
    Calls Tryz.prog 88 #[.agg v1, .agg #[.int .i64 op, .int .i64 d, .int .i64 a, .int .i64 b, .int .i64 c, .int .i64 n, .string t]] w fun en w' => en = .returned (.bool (insOk R V ⟨op, d, a, b, c, n, t⟩)) ∧ Below w.heap.size w w' := by
  subst hv
  go_enter Tryz.func88, Tryz.ntmps88
  go_wp2_with fail
  refine (SS.out _ (below2 w _ _)).mono ?_
  rintro e1 w1 ⟨rfl, bel1⟩
  obtain ⟨q1, q2, hz, hw⟩ := two bel1
  have HW := hideP hw
  have p0 := (cells_of q2).1 0
  have p1 := (cells_of q2).1 1
  have p2 := (cells_of q2).1 2
  have p3 := (cells_of q2).1 3
  have p4 := (cells_of q2).1 4
  have p5 := (cells_of q2).1 5
  have p6 := (cells_of q2).1 6
  simp at p0 p1 p2 p3 p4 p5 p6
  clear q1 q2 bel1 hw SS
  go_wp2
  all_goals go_ret
  all_goals exact ⟨ret_bool (by simp [insOk, *]), HW.out.trans (((Below.refl _ _).alloc (Nat.le_refl _) _).mono (by omega))⟩
theorem impl_instrOk (g : Gr) (x : Ins) (w : World) (B1 B2 : Nat) (v1 v2 : Array Value) (h1 : GrIs w B1 v1 g) (h2 : InsIs w B2 v2 x) :
    Calls Tryz.prog 88 #[.agg v1, .agg v2] w fun en w' => en = .returned (.bool (insOk (g.sizes.length : Nat) g.slots x)) ∧ Below w.heap.size w w' := by
  have SS : Hid (∀ W, Below w.heap.size w W → Calls Tryz.prog 125 #[.agg v1] W fun en w' => en = .returned (.agg #[.int .i64 (g.sizes.length : Nat), .int .i64 g.slots]) ∧ Below W.heap.size W w') := fun W hW => slotScope_any g W B1 v1 (GrKeeps.stays h1 hW)
  obtain ⟨us, cs, ub, cb, hv, _, _⟩ := h1
  obtain ⟨op, d, a, b, c, n, t⟩ := x
  obtain ⟨rfl, _⟩ := h2
  rcases (show op = 0 ∨ op = 1 ∨ op = 2 ∨ op = 3 ∨ op = 4 ∨ op = 5 ∨ op = 6 ∨ (¬ op = 0 ∧ ¬ op = 1 ∧ ¬ op = 2 ∧ ¬ op = 3 ∧ ¬ op = 4 ∧ ¬ op = 5 ∧ ¬ op = 6) by omega) with h | h | h | h | h | h | h | ⟨h0, h1, h2, h3, h4, h5, h6⟩
  · exact impl_instrOk0 _ _ v1 us cs _ _ _ _ ub _ cb op d a b c n t w hv SS h
  · exact impl_instrOk1 _ _ v1 us cs _ _ _ _ ub _ cb op d a b c n t w hv SS h
  · exact impl_instrOk2 _ _ v1 us cs _ _ _ _ ub _ cb op d a b c n t w hv SS h
  · exact impl_instrOk3 _ _ v1 us cs _ _ _ _ ub _ cb op d a b c n t w hv SS h
  · exact impl_instrOk4 _ _ v1 us cs _ _ _ _ ub _ cb op d a b c n t w hv SS h
  · exact impl_instrOk5 _ _ v1 us cs _ _ _ _ ub _ cb op d a b c n t w hv SS h
  · exact impl_instrOk6 _ _ v1 us cs _ _ _ _ ub _ cb op d a b c n t w hv SS h
  · exact impl_instrOk7 _ _ v1 us cs _ _ _ _ ub _ cb op d a b c n t w hv SS h0 h1 h2 h3 h4 h5 h6
end Go.Proofs.YtelkpikbjfkpcaaGreat

/- When a graph is right, as a function; the contracts of impl.frameOk, impl.blockThere and impl.jumpOk. -/
namespace Go.Proofs.YtelkpikbjfkpcaaGreat
open Go.ChangeShapes Go.WideShapes Go.ChangeAt Go.RowKit
def sizeOk (z : Int) : Bool := decide (1 ≤ z ∧ z ≤ 16)
/-- Whether Sizes, Params and Vars are as a program's. -/
def frOk (sizes : List Int) (params vars : Int) : Bool := decide (1 ≤ sizes.length ∧ sizes.length ≤ 4) && sizes.all sizeOk && decide (0 ≤ params ∧ params ≤ 6 ∧ params ≤ vars ∧ vars ≤ 20)
/-- Whether a block's Jump is right, of V slots and m blocks. -/
def jmpOk (V : Int) (m : Nat) (b : Blk) : Bool :=
  if b.jump = 0 then decide (b.a = 0) && decide (b.els = 0) && vOk (m : Nat) b.to
  else if b.jump = 1 then vOk V b.a && vOk (m : Nat) b.to && vOk (m : Nat) b.els
  else if b.jump = 2 then vOk V b.a && decide (b.to = 0) && decide (b.els = 0) else false
def codeAll (bs : List Blk) : List Ins := bs.flatMap (·.code)
def grOk (g : Gr) : Bool :=
  frOk g.sizes g.params g.vars && decide (g.vars ≤ g.slots ∧ g.slots ≤ 1000) && decide (1 ≤ g.blocks.length ∧ g.blocks.length ≤ 300) &&
    decide ((codeAll g.blocks).length ≤ 1000) && (codeAll g.blocks).all (insOk (g.sizes.length : Nat) g.slots) && g.blocks.all (jmpOk g.slots g.blocks.length)

theorem all_take {α : Type} (f : α → Bool) (l : List α) (j : Nat) (h : j < l.length) : (l.take (j + 1)).all f = ((l.take j).all f && f l[j]) := by
  rw [List.take_succ_eq_append_getElem h, List.all_append]; simp
theorem all_no {α : Type} (f : α → Bool) (l : List α) (j : Nat) (h : j < l.length) (hn : f l[j] = false) : l.all f = false := by
  rw [List.all_eq_false]; exact ⟨l[j], List.getElem_mem h, by simp [hn]⟩
set_option maxHeartbeats 2000000 in
theorem frameOk_any (zs : List Int) (params vars : Int) (w : World) (B : Nat) (a : Option Addr) (cap : Nat) (h : IntsIs w B a zs) :
    Calls Tryz.prog 86 #[.slice a zs.length cap, .int .i64 params, .int .i64 vars] w fun e w' => e = .returned (.bool (frOk zs params vars)) ∧ w' = w := by
  have hm := maxLen_lt
  have hl := h.1
  by_cases h0 : 1 ≤ zs.length ∧ zs.length ≤ 4
  · have H := hideP h
    have n1 : ¬ (zs.length : Int) < 1 := by omega
    have n2 : ¬ (4 : Int) < (zs.length : Int) := by omega
    clear h
    go_enter Tryz.func86, Tryz.ntmps86
    go_wp2
    go_loop [19] (fun i => ∃ j : Nat, j ≤ zs.length ∧ i = .int .i64 j ∧ Hid ((zs.take j).all sizeOk = true)) (fun i => zs.length - (intOf i).toNat)
    case atStart => exact ⟨0, Nat.zero_le _, rfl, show _ = _ by simp⟩
    case round =>
      obtain ⟨j, hj, rfl, hok⟩ := hrel
      by_cases hlt : j < zs.length
      · obtain ⟨b, o, rfl, _, hb, p0⟩ := H.out.get j hlt
        have tk := all_take sizeOk zs j hlt
        have no := all_no sizeOk zs j hlt
        obtain ⟨z, hz⟩ : ∃ z, zs[j] = z := ⟨_, rfl⟩
        rw [hz] at p0 tk no
        rw [hok.out, Bool.true_and] at tk
        by_cases hs : 1 ≤ z ∧ z ≤ 16
        · have T : Hid ((zs.take (j + 1)).all sizeOk = true) := tk.trans (by simp [sizeOk, hs])
          obtain ⟨s1, s2⟩ := hs
          clear hz tk no
          go_wp2
          go_round
          case rel => exact ⟨j + 1, by omega, by go_num, T⟩
          case measure => simp [intOf]; omega
        · have E : Hid (frOk zs params vars = false) := by show _ = _; unfold frOk; rw [no (by simp [sizeOk]; omega)]; simp
          clear hz tk no
          go_wp2
          all_goals first | omega | skip
          all_goals go_ret
          all_goals exact ⟨ret_bool E.out.symm, rfl⟩
      · have hjn : j = zs.length := by omega
        subst hjn
        have h1 := hok.out
        rw [List.take_length] at h1
        have E : Hid (frOk zs params vars = decide (0 ≤ params ∧ params ≤ 6 ∧ params ≤ vars ∧ vars ≤ 20)) := by show _ = _; unfold frOk; rw [h1]; simp [h0]
        clear h1 hok
        go_wp2
        all_goals go_ret
        all_goals refine ⟨ret_bool ?_, rfl⟩
        all_goals rw [E.out]
        all_goals clear E
        all_goals first | (simp [*]; done) | (simp; omega) | (rw [Bool.eq_iff_iff]; simp; omega)
  · have E : Hid (frOk zs params vars = false) := by show _ = _; unfold frOk; simp [h0]
    clear h
    go_enter Tryz.func86, Tryz.ntmps86
    go_wp2
    all_goals first | omega | skip
    all_goals go_ret
    all_goals exact ⟨ret_bool E.out.symm, rfl⟩
theorem blockThere_any (g : Gr) (n : Int) (w : World) (B : Nat) (v : Array Value) (h : GrIs w B v g) :
    Calls Tryz.prog 129 #[.agg v, .int .i64 n] w fun e w' => e = .returned (.bool (vOk (g.blocks.length : Nat) n)) ∧ Below w.heap.size w w' := by
  obtain ⟨us, cs, ub, cb, rfl, _, _, hb⟩ := h
  have hm := maxLen_lt
  have hl := hb.1
  clear hb
  go_enter Tryz.func129, Tryz.ntmps129
  go_wp2
  all_goals go_ret
  all_goals exact ⟨ret_bool (by simp [vOk]; omega), (Below.refl _ _).alloc (Nat.le_refl _) _⟩
end Go.Proofs.YtelkpikbjfkpcaaGreat

/- Which places are one, as functions: what the slots hold within a block, where its steps load and store. -/
namespace Go.Proofs.YtelkpikbjfkpcaaGreat
open Go.ChangeShapes Go.WideShapes Go.ChangeAt Go.RowKit
theorem wrap64_i64 (n : Int) : I64 (wrap64 n) := by unfold I64 wrap64; omega
theorem i64_le {a b n : Int} (h : a ≤ n ∧ n ≤ b) (ha : -9223372036854775808 ≤ a) (hb : b ≤ 9223372036854775807) : I64 n := by unfold I64; omega
theorem wrapK_i64 (n : Int) : I64 (IntKind.i64.wrap n) := by rw [IntKind.wrap_i64]; unfold I64; omega
theorem bits_i64 (o : BinOp) (a b : Int) : I64 (bits o .i64 a b) := by
  unfold bits
  split
  all_goals first | exact wrapK_i64 _ | (unfold I64; omega)
/-- What Bin tells of a sign and two numbers. -/
def binL (t : List UInt8) (a b : Int) : Int :=
  if (t == [43]) = true then wrap64 (a + b) else if (t == [45]) = true then wrap64 (a - b) else if (t == [42]) = true then wrap64 (a * b) else if (t == [38]) = true then bits .and .i64 a b
  else if (t == [61, 61]) = true then (if (a == b) = true then 1 else 0) else if (t == [60]) = true then (if a < b then 1 else 0) else 0
theorem binL_i64 (t : List UInt8) (a b : Int) : I64 (binL t a b) := by
  unfold binL
  repeat' split
  all_goals first | exact wrap64_i64 _ | exact bits_i64 _ _ _ | (unfold I64; omega)
/-- What a slot holds: a base and an offset. -/
structure Sym where
  base : Int
  off : Int
instance : Inhabited Sym := ⟨⟨0, 0⟩⟩
def symBin (t : List UInt8) (a b : Sym) : Option Sym :=
  if a.base = -1 ∧ b.base = -1 then some ⟨-1, binL t a.off b.off⟩
  else if (t == [43]) = true ∧ a.base = -1 then some ⟨b.base, wrap64 (a.off + b.off)⟩
  else if (t == [43]) = true ∧ b.base = -1 then some ⟨a.base, wrap64 (a.off + b.off)⟩
  else if (t == [45]) = true ∧ b.base = -1 then some ⟨a.base, wrap64 (a.off - b.off)⟩
  else if (t == [45]) = true ∧ a.base = b.base then some ⟨-1, wrap64 (a.off - b.off)⟩
  else none
/-- What all slots hold, and how many new bases there are. -/
structure Led where
  slots : List Sym
  fresh : Nat
def Led.get (l : Led) (n : Int) : Sym := l.slots[n.toNat]!
def Led.put (l : Led) (n : Int) (s : Sym) : Led := ⟨l.slots.set n.toNat s, l.fresh⟩
def Led.new (l : Led) (n : Int) : Led := ⟨l.slots.set n.toNat ⟨(l.slots.length : Int) + l.fresh, 0⟩, l.fresh + 1⟩
def Led.putO (l : Led) (n : Int) : Option Sym → Led
  | some s => l.put n s
  | none => l.new n
def stepP (l : Led) (x : Ins) : Led :=
  if x.op = 0 then l.put x.d ⟨-1, x.n⟩
  else if x.op = 1 then l.put x.d (l.get x.a)
  else if x.op = 2 then l.putO x.d (symBin x.t.toList (l.get x.a) (l.get x.b))
  else if x.op = 3 ∨ x.op = 5 then l.new x.d
  else l
def ledStart (V : Nat) : Led := ⟨(List.range V).map (fun (i : Nat) => (⟨(i : Int), 0⟩ : Sym)), 0⟩
def ledP (V : Nat) (code : List Ins) : Led := code.foldl stepP (ledStart V)
/-- A slot's value is told: its base is -1 or one that is there, its offset a number of 64 bits. -/
def SymOk (n : Nat) (s : Sym) : Prop := (s.base = -1 ∨ 0 ≤ s.base ∧ s.base < n) ∧ I64 s.off
def LedOk (V : Nat) (l : Led) : Prop := l.slots.length = V ∧ ∀ s ∈ l.slots, SymOk (V + l.fresh) s
theorem SymOk.mono {n m : Nat} {s : Sym} (h : SymOk n s) (hm : n ≤ m) : SymOk m s := ⟨by have := h.1; omega, h.2⟩
theorem SymOk.i64 {n : Nat} {s : Sym} (h : SymOk n s) (hn : n ≤ 1000000) : I64 s.base := by have := h.1; unfold I64; omega
theorem zero_i64 : I64 0 := by unfold I64; omega
theorem ledStart_ok (V : Nat) : LedOk V (ledStart V) := by
  refine ⟨by simp [ledStart], fun s hs => ?_⟩
  obtain ⟨i, hi, rfl⟩ := List.mem_map.1 hs
  have := List.mem_range.1 hi
  exact ⟨Or.inr ⟨by simp, by simp only [ledStart]; omega⟩, zero_i64⟩
theorem LedOk.get {V : Nat} {l : Led} (h : LedOk V l) {n : Int} (hn : vOk V n = true) : SymOk (V + l.fresh) (l.get n) := by
  have hn' : 0 ≤ n ∧ n < V := by simpa [vOk] using hn
  unfold Led.get
  rw [getElem!_pos l.slots n.toNat (by rw [h.1]; omega)]
  exact h.2 _ (List.getElem_mem _)
theorem LedOk.put {V : Nat} {l : Led} (h : LedOk V l) (n : Int) {s : Sym} (hs : SymOk (V + l.fresh) s) : LedOk V (l.put n s) := by
  refine ⟨by simp [Led.put, h.1], fun t ht => ?_⟩
  rcases List.mem_or_eq_of_mem_set ht with h1 | rfl
  · exact h.2 t h1
  · exact hs
theorem LedOk.new {V : Nat} {l : Led} (h : LedOk V l) (n : Int) : LedOk V (l.new n) := by
  refine ⟨by simp [Led.new, h.1], fun t ht => ?_⟩
  rcases List.mem_or_eq_of_mem_set ht with h1 | rfl
  · exact (h.2 t h1).mono (by simp only [Led.new]; omega)
  · exact ⟨Or.inr ⟨by simp only; omega, by simp only [Led.new, h.1]; omega⟩, zero_i64⟩
theorem symBin_ok {t : List UInt8} {n : Nat} {a b s : Sym} (ha : SymOk n a) (hb : SymOk n b) (h : symBin t a b = some s) : SymOk n s := by
  unfold symBin at h
  repeat' split at h
  all_goals first | (cases h; done) | skip
  all_goals cases h
  · exact ⟨Or.inl rfl, binL_i64 _ _ _⟩
  · exact ⟨hb.1, wrap64_i64 _⟩
  · exact ⟨ha.1, wrap64_i64 _⟩
  · exact ⟨ha.1, wrap64_i64 _⟩
  · exact ⟨Or.inl rfl, wrap64_i64 _⟩
theorem LedOk.putO {V : Nat} {l : Led} (h : LedOk V l) (n : Int) {o : Option Sym} (hs : ∀ s, o = some s → SymOk (V + l.fresh) s) : LedOk V (l.putO n o) := by
  cases o with
  | none => exact h.new n
  | some s => exact h.put n (hs s rfl)
theorem insOk_slots {R V : Int} {x : Ins} (h : insOk R V x = true) :
    (x.op = 0 ∧ vOk V x.d = true) ∨ (x.op = 1 ∧ vOk V x.d = true ∧ vOk V x.a = true) ∨ (x.op = 2 ∧ vOk V x.d = true ∧ vOk V x.a = true ∧ vOk V x.b = true) ∨
    (x.op = 3 ∧ vOk V x.d = true ∧ vOk V x.b = true ∧ (x.a = -1 ∨ vOk V x.a = true) ∧ 0 ≤ x.n ∧ x.n < R) ∨ (x.op = 4 ∧ vOk V x.b = true ∧ (x.a = -1 ∨ vOk V x.a = true) ∧ 0 ≤ x.n ∧ x.n < R) ∨ (x.op = 5 ∧ vOk V x.d = true) ∨ x.op = 6 := by
  unfold insOk plOk at h
  repeat' split at h
  all_goals first | (cases h; done) | skip
  all_goals simp only [Bool.and_eq_true, Bool.or_eq_true, decide_eq_true_eq] at h
  · exact Or.inl ⟨by assumption, h.2⟩
  · exact Or.inr (Or.inl ⟨by assumption, h.1.2, h.2⟩)
  · exact Or.inr (Or.inr (Or.inl ⟨by assumption, h.1.1.1.2, h.1.1.2, h.1.2⟩))
  · exact Or.inr (Or.inr (Or.inr (Or.inl ⟨by assumption, h.1.1.2, h.1.2, h.2.2, h.2.1.1, h.2.1.2⟩)))
  · exact Or.inr (Or.inr (Or.inr (Or.inr (Or.inl ⟨by assumption, h.1.1.2, h.2.2, h.2.1.1, h.2.1.2⟩))))
  · exact Or.inr (Or.inr (Or.inr (Or.inr (Or.inr (Or.inl ⟨by assumption, h.2⟩)))))
  · exact Or.inr (Or.inr (Or.inr (Or.inr (Or.inr (Or.inr (by assumption))))))
theorem stepP_ok {R : Int} {V : Nat} {l : Led} {x : Ins} (h : LedOk V l) (hx : insOk R V x = true) (hw : I64 x.n) : LedOk V (stepP l x) := by
  rcases insOk_slots hx with ⟨e, _⟩ | ⟨e, _, ha⟩ | ⟨e, _, ha, hb⟩ | ⟨e, _⟩ | ⟨e, _⟩ | ⟨e, _⟩ | e
  · simp only [stepP, e, if_true]; exact h.put _ ⟨Or.inl rfl, hw⟩
  · simp only [stepP, e]; exact h.put _ (h.get ha)
  · simp only [stepP, e]; exact h.putO _ (fun s hs => symBin_ok (h.get ha) (h.get hb) hs)
  · simp only [stepP, e]; exact h.new _
  · simp only [stepP, e]; exact h
  · simp only [stepP, e]; exact h.new _
  · simp only [stepP, e]; exact h
theorem stepP_fresh (l : Led) (x : Ins) : (stepP l x).fresh ≤ l.fresh + 1 := by
  unfold stepP
  repeat' split
  · simp [Led.put]
  · simp [Led.put]
  · cases symBin x.t.toList (l.get x.a) (l.get x.b) <;> simp [Led.putO, Led.put, Led.new]
  · simp [Led.new]
  · omega
theorem ledP_snoc (V : Nat) (code : List Ins) (x : Ins) : ledP V (code ++ [x]) = stepP (ledP V code) x := by simp [ledP, List.foldl_append]
theorem ledP_take (V : Nat) (code : List Ins) (j : Nat) (h : j < code.length) : ledP V (code.take (j + 1)) = stepP (ledP V (code.take j)) code[j] := by
  rw [List.take_succ_eq_append_getElem h, ledP_snoc]
theorem ledP_ok {R : Int} {V : Nat} {code : List Ins} (h : ∀ x ∈ code, insOk R V x = true ∧ I64 x.n) (j : Nat) (hj : j ≤ code.length) : LedOk V (ledP V (code.take j)) ∧ (ledP V (code.take j)).fresh ≤ j := by
  induction j with
  | zero => exact ⟨by simpa [ledP] using ledStart_ok V, by simp [ledP, ledStart]⟩
  | succ j ih =>
    have := ih (by omega)
    rw [ledP_take V code j (by omega)]
    have hx := h _ (List.getElem_mem (show j < code.length by omega))
    exact ⟨stepP_ok this.1 hx.1 hx.2, Nat.le_trans (stepP_fresh _ _) (by omega)⟩
/-- Where a step loads or stores. -/
structure Pla where
  r : Int
  i : Int
  j : Int
  off : Int
def Led.oget (l : Led) (n : Int) : Sym := if n = -1 then ⟨-1, 0⟩ else l.get n
def placeP (l : Led) (x : Ins) : Pla :=
  if x.op = 3 ∨ x.op = 4 then
    ⟨x.n, min (l.oget x.a).base (l.get x.b).base, max (l.oget x.a).base (l.get x.b).base, wrap64 ((l.oget x.a).off + (l.get x.b).off)⟩
  else ⟨-1, 0, 0, 0⟩
def placesUp (V : Nat) (code : List Ins) : Nat → List Pla
  | 0 => []
  | j + 1 => placesUp V code j ++ match code[j]? with | some x => [placeP (ledP V (code.take j)) x] | none => []
theorem placesUp_at (V : Nat) {code : List Ins} {j : Nat} (h : j < code.length) : placesUp V code (j + 1) = placesUp V code j ++ [placeP (ledP V (code.take j)) code[j]] := by
  show placesUp V code j ++ _ = _
  rw [List.getElem?_eq_getElem h]
theorem placesUp_len (V : Nat) (code : List Ins) (j : Nat) (h : j ≤ code.length) : (placesUp V code j).length = j := by
  induction j with
  | zero => rfl
  | succ j ih => rw [placesUp_at V (by omega), List.length_append, ih (by omega)]; rfl
/-- The slots of base -1 among the first j. -/
def knownUp (ss : List Sym) : Nat → List Int
  | 0 => []
  | j + 1 => if (ss[j]?.map (·.base)) = some (-1) then knownUp ss j ++ [(j : Int)] else knownUp ss j
theorem knownUp_yes {ss : List Sym} {j : Nat} (h : j < ss.length) (hb : ss[j].base = -1) : knownUp ss (j + 1) = knownUp ss j ++ [(j : Int)] := if_pos (by simp [h, hb])
theorem knownUp_no {ss : List Sym} {j : Nat} (h : j < ss.length) (hb : ss[j].base ≠ -1) : knownUp ss (j + 1) = knownUp ss j := if_neg (by simp [h, hb])
theorem knownUp_len (ss : List Sym) (j : Nat) : (knownUp ss j).length ≤ j := by
  induction j with
  | zero => simp [knownUp]
  | succ j ih =>
    unfold knownUp
    split
    · simp; omega
    · omega
/-- The block is there, and the graph is right. -/
def hasB6 (g : Gr) (n : Int) : Prop := grOk g = true ∧ 0 ≤ n ∧ n < (g.blocks.length : Nat)
instance (g : Gr) (n : Int) : Decidable (hasB6 g n) := by unfold hasB6; infer_instance
def codeAt (g : Gr) (n : Int) : List Ins := (g.blocks[n.toNat]!).code
def ledOf (g : Gr) (n : Int) : Led := ledP g.slots.toNat (codeAt g n)
def freshP (g : Gr) (n : Int) : Int := if hasB6 g n then ((ledOf g n).fresh : Int) else -1
def knownP (g : Gr) (n : Int) : List Int := if hasB6 g n then knownUp (ledOf g n).slots (ledOf g n).slots.length else []
def placesP (g : Gr) (n : Int) : List Pla := if hasB6 g n then placesUp g.slots.toNat (codeAt g n) (codeAt g n).length else []
end Go.Proofs.YtelkpikbjfkpcaaGreat
