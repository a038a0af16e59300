/- When a step is right: as a function of the step; the contracts of impl.InstrOk and spec.InstrOk. -/
import Derived.Test.YtobpcfelgobedabGraphD
import Derived.Test.YtobpcfelgobedabHas
namespace Go.Proofs.Ytobpcfelgobedab
open Go.ChangeShapes Go.WideShapes Go.ChangeAt Go.RowKit

def theOps : List ByteArray := [wd [61, 61], wd [60], wd [38], wd [43], wd [45], wd [42]]
def opL (l : List UInt8) : Bool := l == [61, 61] || l == [60] || l == [38] || l == [43] || l == [45] || l == [42]
theorem hasB_theOps (s : ByteArray) : hasB theOps s = opL s.toList := by
  unfold theOps opL
  simp only [hasB_cons, hasB_nil, Bool.or_false, Bool.or_assoc]
def vOk (V n : Int) : Bool := decide (0 ≤ n ∧ n < V)
def plOk (R V n b : Int) : Bool := decide (0 ≤ n ∧ n < R) && (decide (b = -1) || vOk V b)
/-- Whether a step is right, of R regions and V slots. -/
def insOk (R V : Int) (x : Ins) : Bool :=
  if x.op = 0 then decide (x.a = 0) && decide (x.b = 0) && decide (x.c = 0) && (x.t.toList == []) && vOk V x.d
  else if x.op = 1 then decide (x.b = 0) && decide (x.c = 0) && decide (x.n = 0) && (x.t.toList == []) && vOk V x.d && vOk V x.a
  else if x.op = 2 then decide (x.c = 0) && decide (x.n = 0) && vOk V x.d && vOk V x.a && vOk V x.b && opL x.t.toList
  else if x.op = 3 then decide (x.c = 0) && (x.t.toList == []) && vOk V x.d && vOk V x.b && plOk R V x.n x.a
  else if x.op = 4 then decide (x.d = 0) && (x.t.toList == []) && vOk V x.b && vOk V x.c && plOk R V x.n x.a
  else if x.op = 5 then decide (x.a = 0) && decide (x.b = 0) && decide (x.c = 0) && decide (x.n = 0) && (x.t.toList == []) && vOk V x.d
  else if x.op = 6 then decide (x.d = 0) && decide (x.b = 0) && decide (x.c = 0) && decide (x.n = 0) && (x.t.toList == []) && vOk V x.a
  else false

theorem variableOk_any (R V n : Int) (w : World) :
    Calls Try.prog 63 #[.agg #[.int .i64 R, .int .i64 V], .int .i64 n] w fun e w' => e = .returned (.bool (vOk V n)) ∧ Below w.heap.size w w' := by
  go_enter Try.func63, Try.ntmps63
  go_wp2
  all_goals go_ret
  all_goals exact ⟨ret_bool (by simp [vOk]; omega), (Below.refl _ _).alloc (Nat.le_refl _) _⟩
theorem placeOk_any (R V n b : Int) (w : World) :
    Calls Try.prog 55 #[.agg #[.int .i64 R, .int .i64 V], .int .i64 n, .int .i64 b] w fun e w' => e = .returned (.bool (plOk R V n b)) ∧ Below w.heap.size w w' := by
  go_enter Try.func55, Try.ntmps55
  go_wp2_with (go_at_call 63; refine (variableOk_any R V b _).mono ?_; rintro e1 w1 ⟨rfl, bel1⟩)
  all_goals go_ret
  all_goals refine ⟨ret_bool ?_, by first | exact (Below.refl _ _).alloc (Nat.le_refl _) _ | exact below_new bel1⟩
  · simp [plOk, *]
  · clear bel1; simp [plOk, *]
  · simp [plOk]; omega
  · simp [plOk]; omega
set_option maxHeartbeats 1000000 in
theorem operationOk_any (s : ByteArray) (w : World) :
    Calls Try.prog 54 #[.string s] w fun e w' => e = .returned (.bool (opL s.toList)) ∧ w' = w := by
  go_enter Try.func54, Try.ntmps54
  go_wp2
  all_goals first | (simp_all; done) | skip
  all_goals go_ret
  all_goals refine ⟨ret_bool ?_, rfl⟩
  all_goals simp only [opL, *, Bool.true_or, Bool.or_true, Bool.or_false]
theorem slotScope_any (x : Gr) (w : World) (B : Nat) (v : Array Value) (h : GrIs w B v x) :
    Calls Try.prog 52 #[.agg v] w fun en w' => en = .returned (.agg #[.int .i64 (x.sizes.length : Nat), .int .i64 x.slots]) ∧ Below w.heap.size w w' := by
  obtain ⟨sizes, params, vars, slots, blocks⟩ := x
  obtain ⟨us, cs, ub, cb, rfl, _, hz, _⟩ := h
  have hl := hz.1
  have hm := maxLen_lt
  clear hz
  simp only at *
  go_enter Try.func52, Try.ntmps52
  go_wp2
  try simp only [Exit.inBlock, Exit.then]
  refine bodyPost_ret (v := .agg #[.int .i64 (sizes.length : Nat), .int .i64 slots]) (by simp [results, Try.results52, go_sem]) rfl ⟨rfl, ?_⟩
  exact below2 w _ _
set_option maxHeartbeats 1000000 in
theorem allOk_any (R V : Int) (zs : List Int) (w : World) (B : Nat) (a : Option Addr) (cap : Nat) (h : IntsIs w B a zs) :
    Calls Try.prog 53 #[.agg #[.int .i64 R, .int .i64 V], .slice a zs.length cap] w fun e w' => e = .returned (.bool (zs.all (vOk V))) ∧ Below w.heap.size w w' := by
  have hm := maxLen_lt
  have hl := h.1
  have H := hideP h
  clear h
  go_enter Try.func53, Try.ntmps53
  go_wp2
  go_loopw [9] (fun i wr => ∃ j : Nat, j ≤ zs.length ∧ i = .int .i64 j ∧ Below (w.heap.size + 1) (w.alloc (.cells #[.int .i64 R, .int .i64 V] 77)) wr ∧ Hid ((zs.take j).all (vOk V) = true)) (fun i _ => zs.length - (intOf i).toNat)
  case atStart => exact ⟨0, Nat.zero_le _, rfl, Below.refl _ _, show _ = _ by simp⟩
  case round =>
    obtain ⟨j, hj, rfl, bel, hok⟩ := hrel
    have HB := hideP bel
    have hw := hideP (below_new (bel.mono (by simp)))
    have P := hideP ((bel.block w.heap.size (by simp)).trans (show (w.alloc _).heap[w.heap.size]? = _ from Array.getElem?_push_size))
    have hsz := bel.size
    simp at hsz
    clear bel
    by_cases hlt : j < zs.length
    · obtain ⟨b, o, rfl, _, hb, p0⟩ := (H.out.stays hw.out).get j hlt
      obtain ⟨z, hz⟩ : ∃ z, zs[j] = z := ⟨_, rfl⟩
      rw [hz] at p0
      have tk : (zs.take (j + 1)).all (vOk V) = ((zs.take j).all (vOk V) && vOk V z) := by rw [List.take_succ_eq_append_getElem hlt, List.all_append, hz]; simp
      have no : vOk V z = false → zs.all (vOk V) = false := fun h0 => by rw [List.all_eq_false]; exact ⟨z, hz ▸ List.getElem_mem hlt, by simp [h0]⟩
      have q0 := (cells_of P.out).1 0
      have q1 := (cells_of P.out).1 1
      simp at q0 q1
      rw [hok.out, Bool.true_and] at tk
      have TK := hideP tk
      have NO := hideP no
      clear hz tk no
      go_wp2_with fail
      refine (variableOk_any R V z _).mono ?_
      rintro e1 w1 ⟨rfl, bel1⟩
      have hb1 := hideP (HB.out.trans (bel1.mono (by omega)))
      have hw1 := hideP (hw.out.trans (bel1.mono (by omega)))
      clear bel1 p0 q0 q1
      cases hr : vOk V z with
      | false =>
        have E := hideP (NO.out hr)
        clear hr
        go_wp2
        go_ret
        exact ⟨ret_bool E.out.symm, hw1.out⟩
      | true =>
        have T := hideP (TK.out.trans hr)
        clear hr
        go_wp2
        go_roundw
        case rel => exact ⟨j + 1, by omega, by go_num, hb1.out, T⟩
        case measure => simp [intOf]; omega
    · have hjn : j = zs.length := by omega
      subst hjn
      have h1 := hok.out
      rw [List.take_length] at h1
      have E := hideP h1
      clear h1 hok
      go_wp2
      go_ret
      exact ⟨ret_bool E.out.symm, hw.out⟩
end Go.Proofs.Ytobpcfelgobedab
