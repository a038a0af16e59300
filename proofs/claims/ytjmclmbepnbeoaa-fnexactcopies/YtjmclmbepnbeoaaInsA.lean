/- When a step is right: as a function of the step; the contracts of impl.InstrOk and spec.InstrOk. -/
import Derived.Test.YtjmclmbepnbeoaaShD
import Derived.Test.YtjmclmbepnbeoaaPlA
namespace Go.Proofs.Ytjmclmbepnbeoaa
open Go.ChangeShapes Go.WideShapes Go.ChangeAt Go.RowKit

def theOps : List ByteArray := [wd [61, 61], wd [60], wd [38], wd [43], wd [45], wd [42]]
def opL (l : List UInt8) : Bool := l == [61, 61] || l == [60] || l == [38] || l == [43] || l == [45] || l == [42]
theorem hasB_theOps (s : ByteArray) : hasB theOps s = opL s.toList := by
  unfold theOps opL
  simp only [hasB_cons, hasB_nil, Bool.or_false, Bool.or_assoc]
def vOk (V n : Int) : Bool := decide (0 ≤ n ∧ n < V)
def plOk (R V n b : Int) : Bool := decide (0 ≤ n ∧ n < R) && (decide (b = -1) || vOk V b)
/-- Whether a step is right, of R regions and V slots. -/
def insOk (R V : Int) (x : Ins) : Bool :=
  if x.op = 0 then decide (x.a = 0) && decide (x.b = 0) && decide (x.c = 0) && (x.t.toList == []) && vOk V x.d
  else if x.op = 1 then decide (x.b = 0) && decide (x.c = 0) && decide (x.n = 0) && (x.t.toList == []) && vOk V x.d && vOk V x.a
  else if x.op = 2 then decide (x.c = 0) && decide (x.n = 0) && vOk V x.d && vOk V x.a && vOk V x.b && opL x.t.toList
  else if x.op = 3 then decide (x.c = 0) && (x.t.toList == []) && vOk V x.d && vOk V x.b && plOk R V x.n x.a
  else if x.op = 4 then decide (x.d = 0) && (x.t.toList == []) && vOk V x.b && vOk V x.c && plOk R V x.n x.a
  else if x.op = 5 then decide (x.a = 0) && decide (x.b = 0) && decide (x.c = 0) && decide (x.n = 0) && (x.t.toList == []) && vOk V x.d
  else if x.op = 6 then decide (x.d = 0) && decide (x.b = 0) && decide (x.c = 0) && decide (x.n = 0) && (x.t.toList == []) && vOk V x.a
  else false

theorem variableOk_any (R V n : Int) (w : World) :
    Calls Try.prog 138 #[.agg #[.int .i64 R, .int .i64 V], .int .i64 n] w fun e w' => e = .returned (.bool (vOk V n)) ∧ Below w.heap.size w w' := by
  go_enter Try.func138, Try.ntmps138
  go_wp2
  all_goals go_ret
  all_goals exact ⟨ret_bool (by simp [vOk]; omega), (Below.refl _ _).alloc (Nat.le_refl _) _⟩
theorem placeOk_any (R V n b : Int) (w : World) :
    Calls Try.prog 130 #[.agg #[.int .i64 R, .int .i64 V], .int .i64 n, .int .i64 b] w fun e w' => e = .returned (.bool (plOk R V n b)) ∧ Below w.heap.size w w' := by
  go_enter Try.func130, Try.ntmps130
  go_wp2_with (go_at_call 138; refine (variableOk_any R V b _).mono ?_; rintro e1 w1 ⟨rfl, bel1⟩)
  all_goals go_ret
  all_goals refine ⟨ret_bool ?_, by first | exact (Below.refl _ _).alloc (Nat.le_refl _) _ | exact below_new bel1⟩
  · simp [plOk, *]
  · clear bel1; simp [plOk, *]
  · simp [plOk]; omega
  · simp [plOk]; omega
set_option maxHeartbeats 1000000 in
theorem operationOk_any (s : ByteArray) (w : World) :
    Calls Try.prog 129 #[.string s] w fun e w' => e = .returned (.bool (opL s.toList)) ∧ w' = w := by
  go_enter Try.func129, Try.ntmps129
  go_wp2
  all_goals first | (simp_all; done) | skip
  all_goals go_ret
  all_goals refine ⟨ret_bool ?_, rfl⟩
  all_goals simp only [opL, *, Bool.true_or, Bool.or_true, Bool.or_false]
theorem slotScope_any (x : Gr) (w : World) (B : Nat) (v : Array Value) (h : GrIs w B v x) :
    Calls Try.prog 127 #[.agg v] w fun en w' => en = .returned (.agg #[.int .i64 (x.sizes.length : Nat), .int .i64 x.slots]) ∧ Below w.heap.size w w' := by
  obtain ⟨sizes, params, vars, slots, blocks⟩ := x
  obtain ⟨us, cs, ub, cb, rfl, _, hz, _⟩ := h
  have hl := hz.1
  have hm := maxLen_lt
  clear hz
  simp only at *
  go_enter Try.func127, Try.ntmps127
  go_wp2
  try simp only [Exit.inBlock, Exit.then]
  refine bodyPost_ret (v := .agg #[.int .i64 (sizes.length : Nat), .int .i64 slots]) (by simp [results, Try.results127, go_sem]) rfl ⟨rfl, ?_⟩
  exact below2 w _ _
set_option maxHeartbeats 1000000 in
theorem allOk_any (R V : Int) (zs : List Int) (w : World) (B : Nat) (a : Option Addr) (cap : Nat) (h : IntsIs w B a zs) :
    Calls Try.prog 128 #[.agg #[.int .i64 R, .int .i64 V], .slice a zs.length cap] w fun e w' => e = .returned (.bool (zs.all (vOk V))) ∧ Below w.heap.size w w' := by
  have hm := maxLen_lt
  have hl := h.1
  have H := hideP h
  clear h
  go_enter Try.func128, Try.ntmps128
  go_wp2
  go_loopw [9] (fun i wr => ∃ j : Nat, j ≤ zs.length ∧ i = .int .i64 j ∧ Below (w.heap.size + 1) (w.alloc (.cells #[.int .i64 R, .int .i64 V] 164)) wr ∧ Hid ((zs.take j).all (vOk V) = true)) (fun i _ => zs.length - (intOf i).toNat)
  case atStart => exact ⟨0, Nat.zero_le _, rfl, Below.refl _ _, show _ = _ by simp⟩
  case round =>
    obtain ⟨j, hj, rfl, bel, hok⟩ := hrel
    have HB := hideP bel
    have hw := hideP (below_new (bel.mono (by simp)))
    have P := hideP ((bel.block w.heap.size (by simp)).trans (show (w.alloc _).heap[w.heap.size]? = _ from Array.getElem?_push_size))
    have hsz := bel.size
    simp at hsz
    clear bel
    by_cases hlt : j < zs.length
    · obtain ⟨b, o, rfl, _, hb, p0⟩ := (H.out.stays hw.out).get j hlt
      obtain ⟨z, hz⟩ : ∃ z, zs[j] = z := ⟨_, rfl⟩
      rw [hz] at p0
      have tk : (zs.take (j + 1)).all (vOk V) = ((zs.take j).all (vOk V) && vOk V z) := by rw [List.take_succ_eq_append_getElem hlt, List.all_append, hz]; simp
      have no : vOk V z = false → zs.all (vOk V) = false := fun h0 => by rw [List.all_eq_false]; exact ⟨z, hz ▸ List.getElem_mem hlt, by simp [h0]⟩
      have q0 := (cells_of P.out).1 0
      have q1 := (cells_of P.out).1 1
      simp at q0 q1
      rw [hok.out, Bool.true_and] at tk
      have TK := hideP tk
      have NO := hideP no
      clear hz tk no
      go_wp2_with fail
      refine (variableOk_any R V z _).mono ?_
      rintro e1 w1 ⟨rfl, bel1⟩
      have hb1 := hideP (HB.out.trans (bel1.mono (by omega)))
      have hw1 := hideP (hw.out.trans (bel1.mono (by omega)))
      clear bel1 p0 q0 q1
      cases hr : vOk V z with
      | false =>
        have E := hideP (NO.out hr)
        clear hr
        go_wp2
        go_ret
        exact ⟨ret_bool E.out.symm, hw1.out⟩
      | true =>
        have T := hideP (TK.out.trans hr)
        clear hr
        go_wp2
        go_roundw
        case rel => exact ⟨j + 1, by omega, by go_num, hb1.out, T⟩
        case measure => simp [intOf]; omega
    · have hjn : j = zs.length := by omega
      subst hjn
      have h1 := hok.out
      rw [List.take_length] at h1
      have E := hideP h1
      clear h1 hok
      go_wp2
      go_ret
      exact ⟨ret_bool E.out.symm, hw.out⟩
end Go.Proofs.Ytjmclmbepnbeoaa

/- The contract of impl.InstrOk. -/
namespace Go.Proofs.Ytjmclmbepnbeoaa
open Go.ChangeShapes Go.WideShapes Go.ChangeAt Go.RowKit
/-- A list of numbers written out. -/
theorem ints_lit (w : World) (zs : List Int) (cs : Array Value) (T : TypeId) (n : Nat) (hn : n = w.heap.size) (hcs : cs = (zs.map (Value.int .i64)).toArray) (hl : zs.length ≤ 1000) : IntsIs (w.alloc (.cells cs T)) 0 (some ⟨n, 0, none⟩) zs := by
  subst hcs hn
  have hm : 1000 ≤ maxLen := by unfold maxLen; decide
  refine ⟨by omega, Or.inr ⟨_, 0, rfl, Nat.zero_le _, by simp, fun h0 => absurd h0 (Nat.lt_irrefl _), fun i hi => ?_⟩⟩
  rw [Nat.zero_add, World.cell?_alloc_new]
  simp [hi]
set_option maxHeartbeats 2000000 in
set_option maxRecDepth 100000 in
theorem impl_instrOk0 (R V : Int) (v1 : Array Value) (us : Option Addr) (cs ls : Nat) (params vars slots : Int) (ub : Option Addr) (lb cb : Nat) (op d a b c n : Int) (t : ByteArray) (w : World) (hv : v1 = #[.slice us ls cs, .int .i64 params, .int .i64 vars, .int .i64 slots, .slice ub lb cb])
    (SS : Hid (∀ W, Below w.heap.size w W → Calls Try.prog 127 #[.agg v1] W fun en w' => en = .returned (.agg #[.int .i64 R, .int .i64 V]) ∧ Below W.heap.size W w')) (hop : op = 0) :
    Calls Try.prog 104 #[.agg v1, .agg #[.int .i64 op, .int .i64 d, .int .i64 a, .int .i64 b, .int .i64 c, .int .i64 n, .string t]] w fun en w' => en = .returned (.bool (insOk R V ⟨op, d, a, b, c, n, t⟩)) ∧ Below w.heap.size w w' := by
  subst hv hop
  go_enter Try.func104, Try.ntmps104
  go_wp2_with fail
  refine (SS.out _ (below2 w _ _)).mono ?_
  rintro e1 w1 ⟨rfl, bel1⟩
  obtain ⟨q1, q2, hz, hw⟩ := two bel1
  have HW := hideP hw
  have p0 := (cells_of q2).1 0
  have p1 := (cells_of q2).1 1
  have p2 := (cells_of q2).1 2
  have p3 := (cells_of q2).1 3
  have p4 := (cells_of q2).1 4
  have p5 := (cells_of q2).1 5
  have p6 := (cells_of q2).1 6
  simp at p0 p1 p2 p3 p4 p5 p6
  clear q1 q2 bel1 hw SS
  go_wp2_with (first | (go_at_call 128; refine (allOk_any R V [d] _ 0 _ _ (ints_lit _ [d] _ _ _ (by simp) rfl (by simp))).mono ?_; rintro e2 w2 ⟨rfl, bel2⟩; obtain ⟨s1, _, hz2, hw2⟩ := two bel2; have HW2 := hideP (HW.out.trans (hw2.mono (by omega))); have r2 := (hw2.cell (p := ⟨w.heap.size + 1, 2, none⟩) (by omega)).trans p2; have r5 := (hw2.cell (p := ⟨w.heap.size + 1, 5, none⟩) (by omega)).trans p5; have r6 := (hw2.cell (p := ⟨w.heap.size + 1, 6, none⟩) (by omega)).trans p6; have s2 := (cells_of s1).1 0; have s3 := (cells_of s1).1 1; simp at s2 s3; clear s1 bel2 hw2))
  all_goals go_ret
  all_goals refine ⟨ret_bool ?_, by first | exact HW2.out | exact below_trans HW2.out bel3 | exact HW.out.trans (((Below.refl _ _).alloc (Nat.le_refl _) _).mono (by omega))⟩
  all_goals first | (simp [insOk, *]; done) | (simp_all [insOk]; done) | trace_state
set_option maxHeartbeats 2000000 in
set_option maxRecDepth 100000 in
theorem impl_instrOk1 (R V : Int) (v1 : Array Value) (us : Option Addr) (cs ls : Nat) (params vars slots : Int) (ub : Option Addr) (lb cb : Nat) (op d a b c n : Int) (t : ByteArray) (w : World) (hv : v1 = #[.slice us ls cs, .int .i64 params, .int .i64 vars, .int .i64 slots, .slice ub lb cb])
    (SS : Hid (∀ W, Below w.heap.size w W → Calls Try.prog 127 #[.agg v1] W fun en w' => en = .returned (.agg #[.int .i64 R, .int .i64 V]) ∧ Below W.heap.size W w')) (hop : op = 1) :
    Calls Try.prog 104 #[.agg v1, .agg #[.int .i64 op, .int .i64 d, .int .i64 a, .int .i64 b, .int .i64 c, .int .i64 n, .string t]] w fun en w' => en = .returned (.bool (insOk R V ⟨op, d, a, b, c, n, t⟩)) ∧ Below w.heap.size w w' := by
  subst hv hop
  go_enter Try.func104, Try.ntmps104
  go_wp2_with fail
  refine (SS.out _ (below2 w _ _)).mono ?_
  rintro e1 w1 ⟨rfl, bel1⟩
  obtain ⟨q1, q2, hz, hw⟩ := two bel1
  have HW := hideP hw
  have p0 := (cells_of q2).1 0
  have p1 := (cells_of q2).1 1
  have p2 := (cells_of q2).1 2
  have p3 := (cells_of q2).1 3
  have p4 := (cells_of q2).1 4
  have p5 := (cells_of q2).1 5
  have p6 := (cells_of q2).1 6
  simp at p0 p1 p2 p3 p4 p5 p6
  clear q1 q2 bel1 hw SS
  go_wp2_with (first | (go_at_call 128; refine (allOk_any R V [d, a] _ 0 _ _ (ints_lit _ [d, a] _ _ _ (by simp) rfl (by simp))).mono ?_; rintro e2 w2 ⟨rfl, bel2⟩; obtain ⟨s1, _, hz2, hw2⟩ := two bel2; have HW2 := hideP (HW.out.trans (hw2.mono (by omega))); have r2 := (hw2.cell (p := ⟨w.heap.size + 1, 2, none⟩) (by omega)).trans p2; have r5 := (hw2.cell (p := ⟨w.heap.size + 1, 5, none⟩) (by omega)).trans p5; have r6 := (hw2.cell (p := ⟨w.heap.size + 1, 6, none⟩) (by omega)).trans p6; have s2 := (cells_of s1).1 0; have s3 := (cells_of s1).1 1; simp at s2 s3; clear s1 bel2 hw2))
  all_goals go_ret
  all_goals refine ⟨ret_bool ?_, by first | exact HW2.out | exact below_trans HW2.out bel3 | exact HW.out.trans (((Below.refl _ _).alloc (Nat.le_refl _) _).mono (by omega))⟩
  all_goals first | (simp [insOk, *]; done) | (simp_all [insOk]; done) | trace_state
set_option maxHeartbeats 2000000 in
set_option maxRecDepth 100000 in
theorem impl_instrOk2 (R V : Int) (v1 : Array Value) (us : Option Addr) (cs ls : Nat) (params vars slots : Int) (ub : Option Addr) (lb cb : Nat) (op d a b c n : Int) (t : ByteArray) (w : World) (hv : v1 = #[.slice us ls cs, .int .i64 params, .int .i64 vars, .int .i64 slots, .slice ub lb cb])
    (SS : Hid (∀ W, Below w.heap.size w W → Calls Try.prog 127 #[.agg v1] W fun en w' => en = .returned (.agg #[.int .i64 R, .int .i64 V]) ∧ Below W.heap.size W w')) (hop : op = 2) :
    Calls Try.prog 104 #[.agg v1, .agg #[.int .i64 op, .int .i64 d, .int .i64 a, .int .i64 b, .int .i64 c, .int .i64 n, .string t]] w fun en w' => en = .returned (.bool (insOk R V ⟨op, d, a, b, c, n, t⟩)) ∧ Below w.heap.size w w' := by
  subst hv hop
  go_enter Try.func104, Try.ntmps104
  go_wp2_with fail
  refine (SS.out _ (below2 w _ _)).mono ?_
  rintro e1 w1 ⟨rfl, bel1⟩
  obtain ⟨q1, q2, hz, hw⟩ := two bel1
  have HW := hideP hw
  have p0 := (cells_of q2).1 0
  have p1 := (cells_of q2).1 1
  have p2 := (cells_of q2).1 2
  have p3 := (cells_of q2).1 3
  have p4 := (cells_of q2).1 4
  have p5 := (cells_of q2).1 5
  have p6 := (cells_of q2).1 6
  simp at p0 p1 p2 p3 p4 p5 p6
  clear q1 q2 bel1 hw SS
  go_wp2_with (first | (go_at_call 128; refine (allOk_any R V [d, a, b] _ 0 _ _ (ints_lit _ [d, a, b] _ _ _ (by simp) rfl (by simp))).mono ?_; rintro e2 w2 ⟨rfl, bel2⟩; obtain ⟨s1, _, hz2, hw2⟩ := two bel2; have HW2 := hideP (HW.out.trans (hw2.mono (by omega))); have r2 := (hw2.cell (p := ⟨w.heap.size + 1, 2, none⟩) (by omega)).trans p2; have r5 := (hw2.cell (p := ⟨w.heap.size + 1, 5, none⟩) (by omega)).trans p5; have r6 := (hw2.cell (p := ⟨w.heap.size + 1, 6, none⟩) (by omega)).trans p6; have s2 := (cells_of s1).1 0; have s3 := (cells_of s1).1 1; simp at s2 s3; clear s1 bel2 hw2) | (go_at_call 129; refine (operationOk_any t _).mono ?_; rintro e3 w3 ⟨rfl, rfl⟩))
  all_goals go_ret
  all_goals refine ⟨ret_bool ?_, by first | exact HW2.out | exact below_trans HW2.out bel3 | exact HW.out.trans (((Below.refl _ _).alloc (Nat.le_refl _) _).mono (by omega))⟩
  all_goals first | (simp [insOk, *]; done) | (simp_all [insOk]; done) | trace_state
set_option maxHeartbeats 2000000 in
set_option maxRecDepth 100000 in
theorem impl_instrOk3 (R V : Int) (v1 : Array Value) (us : Option Addr) (cs ls : Nat) (params vars slots : Int) (ub : Option Addr) (lb cb : Nat) (op d a b c n : Int) (t : ByteArray) (w : World) (hv : v1 = #[.slice us ls cs, .int .i64 params, .int .i64 vars, .int .i64 slots, .slice ub lb cb])
    (SS : Hid (∀ W, Below w.heap.size w W → Calls Try.prog 127 #[.agg v1] W fun en w' => en = .returned (.agg #[.int .i64 R, .int .i64 V]) ∧ Below W.heap.size W w')) (hop : op = 3) :
    Calls Try.prog 104 #[.agg v1, .agg #[.int .i64 op, .int .i64 d, .int .i64 a, .int .i64 b, .int .i64 c, .int .i64 n, .string t]] w fun en w' => en = .returned (.bool (insOk R V ⟨op, d, a, b, c, n, t⟩)) ∧ Below w.heap.size w w' := by
  subst hv hop
  go_enter Try.func104, Try.ntmps104
  go_wp2_with fail
  refine (SS.out _ (below2 w _ _)).mono ?_
  rintro e1 w1 ⟨rfl, bel1⟩
  obtain ⟨q1, q2, hz, hw⟩ := two bel1
  have HW := hideP hw
  have p0 := (cells_of q2).1 0
  have p1 := (cells_of q2).1 1
  have p2 := (cells_of q2).1 2
  have p3 := (cells_of q2).1 3
  have p4 := (cells_of q2).1 4
  have p5 := (cells_of q2).1 5
  have p6 := (cells_of q2).1 6
  simp at p0 p1 p2 p3 p4 p5 p6
  clear q1 q2 bel1 hw SS
  go_wp2_with (first | (go_at_call 128; refine (allOk_any R V [d, b] _ 0 _ _ (ints_lit _ [d, b] _ _ _ (by simp) rfl (by simp))).mono ?_; rintro e2 w2 ⟨rfl, bel2⟩; obtain ⟨s1, _, hz2, hw2⟩ := two bel2; have HW2 := hideP (HW.out.trans (hw2.mono (by omega))); have r2 := (hw2.cell (p := ⟨w.heap.size + 1, 2, none⟩) (by omega)).trans p2; have r5 := (hw2.cell (p := ⟨w.heap.size + 1, 5, none⟩) (by omega)).trans p5; have r6 := (hw2.cell (p := ⟨w.heap.size + 1, 6, none⟩) (by omega)).trans p6; have s2 := (cells_of s1).1 0; have s3 := (cells_of s1).1 1; simp at s2 s3; clear s1 bel2 hw2) | (go_at_call 130; refine (placeOk_any R V n a _).mono ?_; rintro e3 w3 ⟨rfl, bel3⟩))
  all_goals go_ret
  all_goals refine ⟨ret_bool ?_, by first | exact HW2.out | exact below_trans HW2.out bel3 | exact HW.out.trans (((Below.refl _ _).alloc (Nat.le_refl _) _).mono (by omega))⟩
  all_goals first | (simp [insOk, *]; done) | (simp_all [insOk]; done) | trace_state
set_option maxHeartbeats 2000000 in
set_option maxRecDepth 100000 in
theorem impl_instrOk4 (R V : Int) (v1 : Array Value) (us : Option Addr) (cs ls : Nat) (params vars slots : Int) (ub : Option Addr) (lb cb : Nat) (op d a b c n : Int) (t : ByteArray) (w : World) (hv : v1 = #[.slice us ls cs, .int .i64 params, .int .i64 vars, .int .i64 slots, .slice ub lb cb])
    (SS : Hid (∀ W, Below w.heap.size w W → Calls Try.prog 127 #[.agg v1] W fun en w' => en = .returned (.agg #[.int .i64 R, .int .i64 V]) ∧ Below W.heap.size W w')) (hop : op = 4) :
    Calls Try.prog 104 #[.agg v1, .agg #[.int .i64 op, .int .i64 d, .int .i64 a, .int .i64 b, .int .i64 c, .int .i64 n, .string t]] w fun en w' => en = .returned (.bool (insOk R V ⟨op, d, a, b, c, n, t⟩)) ∧ Below w.heap.size w w' := by
  subst hv hop
  go_enter Try.func104, Try.ntmps104
  go_wp2_with fail
  refine (SS.out _ (below2 w _ _)).mono ?_
  rintro e1 w1 ⟨rfl, bel1⟩
  obtain ⟨q1, q2, hz, hw⟩ := two bel1
  have HW := hideP hw
  have p0 := (cells_of q2).1 0
  have p1 := (cells_of q2).1 1
  have p2 := (cells_of q2).1 2
  have p3 := (cells_of q2).1 3
  have p4 := (cells_of q2).1 4
  have p5 := (cells_of q2).1 5
  have p6 := (cells_of q2).1 6
  simp at p0 p1 p2 p3 p4 p5 p6
  clear q1 q2 bel1 hw SS
  go_wp2_with (first | (go_at_call 128; refine (allOk_any R V [b, c] _ 0 _ _ (ints_lit _ [b, c] _ _ _ (by simp) rfl (by simp))).mono ?_; rintro e2 w2 ⟨rfl, bel2⟩; obtain ⟨s1, _, hz2, hw2⟩ := two bel2; have HW2 := hideP (HW.out.trans (hw2.mono (by omega))); have r2 := (hw2.cell (p := ⟨w.heap.size + 1, 2, none⟩) (by omega)).trans p2; have r5 := (hw2.cell (p := ⟨w.heap.size + 1, 5, none⟩) (by omega)).trans p5; have r6 := (hw2.cell (p := ⟨w.heap.size + 1, 6, none⟩) (by omega)).trans p6; have s2 := (cells_of s1).1 0; have s3 := (cells_of s1).1 1; simp at s2 s3; clear s1 bel2 hw2) | (go_at_call 130; refine (placeOk_any R V n a _).mono ?_; rintro e3 w3 ⟨rfl, bel3⟩))
  all_goals go_ret
  all_goals refine ⟨ret_bool ?_, by first | exact HW2.out | exact below_trans HW2.out bel3 | exact HW.out.trans (((Below.refl _ _).alloc (Nat.le_refl _) _).mono (by omega))⟩
  all_goals first | (simp [insOk, *]; done) | (simp_all [insOk]; done) | trace_state
set_option maxHeartbeats 2000000 in
set_option maxRecDepth 100000 in
theorem impl_instrOk5 (R V : Int) (v1 : Array Value) (us : Option Addr) (cs ls : Nat) (params vars slots : Int) (ub : Option Addr) (lb cb : Nat) (op d a b c n : Int) (t : ByteArray) (w : World) (hv : v1 = #[.slice us ls cs, .int .i64 params, .int .i64 vars, .int .i64 slots, .slice ub lb cb])
    (SS : Hid (∀ W, Below w.heap.size w W → Calls Try.prog 127 #[.agg v1] W fun en w' => en = .returned (.agg #[.int .i64 R, .int .i64 V]) ∧ Below W.heap.size W w')) (hop : op = 5) :
    Calls Try.prog 104 #[.agg v1, .agg #[.int .i64 op, .int .i64 d, .int .i64 a, .int .i64 b, .int .i64 c, .int .i64 n, .string t]] w fun en w' => en = .returned (.bool (insOk R V ⟨op, d, a, b, c, n, t⟩)) ∧ Below w.heap.size w w' := by
  subst hv hop
  go_enter Try.func104, Try.ntmps104
  go_wp2_with fail
  refine (SS.out _ (below2 w _ _)).mono ?_
  rintro e1 w1 ⟨rfl, bel1⟩
  obtain ⟨q1, q2, hz, hw⟩ := two bel1
  have HW := hideP hw
  have p0 := (cells_of q2).1 0
  have p1 := (cells_of q2).1 1
  have p2 := (cells_of q2).1 2
  have p3 := (cells_of q2).1 3
  have p4 := (cells_of q2).1 4
  have p5 := (cells_of q2).1 5
  have p6 := (cells_of q2).1 6
  simp at p0 p1 p2 p3 p4 p5 p6
  clear q1 q2 bel1 hw SS
  go_wp2_with (first | (go_at_call 128; refine (allOk_any R V [d] _ 0 _ _ (ints_lit _ [d] _ _ _ (by simp) rfl (by simp))).mono ?_; rintro e2 w2 ⟨rfl, bel2⟩; obtain ⟨s1, _, hz2, hw2⟩ := two bel2; have HW2 := hideP (HW.out.trans (hw2.mono (by omega))); have r2 := (hw2.cell (p := ⟨w.heap.size + 1, 2, none⟩) (by omega)).trans p2; have r5 := (hw2.cell (p := ⟨w.heap.size + 1, 5, none⟩) (by omega)).trans p5; have r6 := (hw2.cell (p := ⟨w.heap.size + 1, 6, none⟩) (by omega)).trans p6; have s2 := (cells_of s1).1 0; have s3 := (cells_of s1).1 1; simp at s2 s3; clear s1 bel2 hw2))
  all_goals go_ret
  all_goals refine ⟨ret_bool ?_, by first | exact HW2.out | exact below_trans HW2.out bel3 | exact HW.out.trans (((Below.refl _ _).alloc (Nat.le_refl _) _).mono (by omega))⟩
  all_goals first | (simp [insOk, *]; done) | (simp_all [insOk]; done) | trace_state
set_option maxHeartbeats 2000000 in
set_option maxRecDepth 100000 in
theorem impl_instrOk6 (R V : Int) (v1 : Array Value) (us : Option Addr) (cs ls : Nat) (params vars slots : Int) (ub : Option Addr) (lb cb : Nat) (op d a b c n : Int) (t : ByteArray) (w : World) (hv : v1 = #[.slice us ls cs, .int .i64 params, .int .i64 vars, .int .i64 slots, .slice ub lb cb])
    (SS : Hid (∀ W, Below w.heap.size w W → Calls Try.prog 127 #[.agg v1] W fun en w' => en = .returned (.agg #[.int .i64 R, .int .i64 V]) ∧ Below W.heap.size W w')) (hop : op = 6) :
    Calls Try.prog 104 #[.agg v1, .agg #[.int .i64 op, .int .i64 d, .int .i64 a, .int .i64 b, .int .i64 c, .int .i64 n, .string t]] w fun en w' => en = .returned (.bool (insOk R V ⟨op, d, a, b, c, n, t⟩)) ∧ Below w.heap.size w w' := by
  subst hv hop
  go_enter Try.func104, Try.ntmps104
  go_wp2_with fail
  refine (SS.out _ (below2 w _ _)).mono ?_
  rintro e1 w1 ⟨rfl, bel1⟩
  obtain ⟨q1, q2, hz, hw⟩ := two bel1
  have HW := hideP hw
  have p0 := (cells_of q2).1 0
  have p1 := (cells_of q2).1 1
  have p2 := (cells_of q2).1 2
  have p3 := (cells_of q2).1 3
  have p4 := (cells_of q2).1 4
  have p5 := (cells_of q2).1 5
  have p6 := (cells_of q2).1 6
  simp at p0 p1 p2 p3 p4 p5 p6
  clear q1 q2 bel1 hw SS
  go_wp2_with (first | (go_at_call 128; refine (allOk_any R V [a] _ 0 _ _ (ints_lit _ [a] _ _ _ (by simp) rfl (by simp))).mono ?_; rintro e2 w2 ⟨rfl, bel2⟩; obtain ⟨s1, _, hz2, hw2⟩ := two bel2; have HW2 := hideP (HW.out.trans (hw2.mono (by omega))); have r2 := (hw2.cell (p := ⟨w.heap.size + 1, 2, none⟩) (by omega)).trans p2; have r5 := (hw2.cell (p := ⟨w.heap.size + 1, 5, none⟩) (by omega)).trans p5; have r6 := (hw2.cell (p := ⟨w.heap.size + 1, 6, none⟩) (by omega)).trans p6; have s2 := (cells_of s1).1 0; have s3 := (cells_of s1).1 1; simp at s2 s3; clear s1 bel2 hw2))
  all_goals go_ret
  all_goals refine ⟨ret_bool ?_, by first | exact HW2.out | exact below_trans HW2.out bel3 | exact HW.out.trans (((Below.refl _ _).alloc (Nat.le_refl _) _).mono (by omega))⟩
  all_goals first | (simp [insOk, *]; done) | (simp_all [insOk]; done) | trace_state
set_option maxHeartbeats 2000000 in
set_option maxRecDepth 100000 in
theorem impl_instrOk7 (R V : Int) (v1 : Array Value) (us : Option Addr) (cs ls : Nat) (params vars slots : Int) (ub : Option Addr) (lb cb : Nat) (op d a b c n : Int) (t : ByteArray) (w : World) (hv : v1 = #[.slice us ls cs, .int .i64 params, .int .i64 vars, .int .i64 slots, .slice ub lb cb])
    (SS : Hid (∀ W, Below w.heap.size w W → Calls Try.prog 127 #[.agg v1] W fun en w' => en = .returned (.agg #[.int .i64 R, .int .i64 V]) ∧ Below W.heap.size W w')) (h0 : ¬ op = 0) (h1 : ¬ op = 1) (h2 : ¬ op = 2) (h3 : ¬ op = 3) (h4 : ¬ op = 4) (h5 : ¬ op = 5) (h6 : ¬ op = 6) :
    Calls Try.prog 104 #[.agg v1, .agg #[.int .i64 op, .int .i64 d, .int .i64 a, .int .i64 b, .int .i64 c, .int .i64 n, .string t]] w fun en w' => en = .returned (.bool (insOk R V ⟨op, d, a, b, c, n, t⟩)) ∧ Below w.heap.size w w' := by
  subst hv
  go_enter Try.func104, Try.ntmps104
  go_wp2_with fail
  refine (SS.out _ (below2 w _ _)).mono ?_
  rintro e1 w1 ⟨rfl, bel1⟩
  obtain ⟨q1, q2, hz, hw⟩ := two bel1
  have HW := hideP hw
  have p0 := (cells_of q2).1 0
  have p1 := (cells_of q2).1 1
  have p2 := (cells_of q2).1 2
  have p3 := (cells_of q2).1 3
  have p4 := (cells_of q2).1 4
  have p5 := (cells_of q2).1 5
  have p6 := (cells_of q2).1 6
  simp at p0 p1 p2 p3 p4 p5 p6
  clear q1 q2 bel1 hw SS
  go_wp2
  all_goals go_ret
  all_goals exact ⟨ret_bool (by simp [insOk, *]), HW.out.trans (((Below.refl _ _).alloc (Nat.le_refl _) _).mono (by omega))⟩
theorem impl_instrOk (g : Gr) (x : Ins) (w : World) (B1 B2 : Nat) (v1 v2 : Array Value) (h1 : GrIs w B1 v1 g) (h2 : InsIs w B2 v2 x) :
    Calls Try.prog 104 #[.agg v1, .agg v2] w fun en w' => en = .returned (.bool (insOk (g.sizes.length : Nat) g.slots x)) ∧ Below w.heap.size w w' := by
  have SS : Hid (∀ W, Below w.heap.size w W → Calls Try.prog 127 #[.agg v1] W fun en w' => en = .returned (.agg #[.int .i64 (g.sizes.length : Nat), .int .i64 g.slots]) ∧ Below W.heap.size W w') := fun W hW => slotScope_any g W B1 v1 (GrKeeps.stays h1 hW)
  obtain ⟨us, cs, ub, cb, hv, _, _⟩ := h1
  obtain ⟨op, d, a, b, c, n, t⟩ := x
  obtain ⟨rfl, _⟩ := h2
  rcases (show op = 0 ∨ op = 1 ∨ op = 2 ∨ op = 3 ∨ op = 4 ∨ op = 5 ∨ op = 6 ∨ (¬ op = 0 ∧ ¬ op = 1 ∧ ¬ op = 2 ∧ ¬ op = 3 ∧ ¬ op = 4 ∧ ¬ op = 5 ∧ ¬ op = 6) by omega) with h | h | h | h | h | h | h | ⟨h0, h1, h2, h3, h4, h5, h6⟩
  · exact impl_instrOk0 _ _ v1 us cs _ _ _ _ ub _ cb op d a b c n t w hv SS h
  · exact impl_instrOk1 _ _ v1 us cs _ _ _ _ ub _ cb op d a b c n t w hv SS h
  · exact impl_instrOk2 _ _ v1 us cs _ _ _ _ ub _ cb op d a b c n t w hv SS h
  · exact impl_instrOk3 _ _ v1 us cs _ _ _ _ ub _ cb op d a b c n t w hv SS h
  · exact impl_instrOk4 _ _ v1 us cs _ _ _ _ ub _ cb op d a b c n t w hv SS h
  · exact impl_instrOk5 _ _ v1 us cs _ _ _ _ ub _ cb op d a b c n t w hv SS h
  · exact impl_instrOk6 _ _ v1 us cs _ _ _ _ ub _ cb op d a b c n t w hv SS h
  · exact impl_instrOk7 _ _ v1 us cs _ _ _ _ ub _ cb op d a b c n t w hv SS h0 h1 h2 h3 h4 h5 h6
end Go.Proofs.Ytjmclmbepnbeoaa
