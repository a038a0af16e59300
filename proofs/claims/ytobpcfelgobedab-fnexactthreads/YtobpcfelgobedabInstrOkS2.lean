/- spec.l04InstrOk at some of the kinds of steps. -/
import Derived.Test.YtobpcfelgobedabInstrOkV
namespace Go.Proofs.Ytobpcfelgobedab
open Go.ChangeShapes Go.WideShapes Go.ChangeAt Go.RowKit
set_option maxHeartbeats 4000000 in
set_option maxRecDepth 100000 in
theorem l04InstrOk3 (V : Int) (us : Option Addr) (cs ls : Nat) (params vars : Int) (ub : Option Addr) (lb cb : Nat) (op d a b c n : Int) (t : ByteArray) (w : World) (hl : ls ≤ maxLen) (hV : 0 ≤ V) (hV2 : V ≤ 9223372036854775807) (hop : op = 3) :
    Calls Try.prog 46 #[.agg #[.slice us ls cs, .int .i64 params, .int .i64 vars, .int .i64 V, .slice ub lb cb], .agg #[.int .i64 op, .int .i64 d, .int .i64 a, .int .i64 b, .int .i64 c, .int .i64 n, .string t]] w fun en w' => en = .returned (.bool (insOk (ls : Nat) V ⟨op, d, a, b, c, n, t⟩)) ∧ Below w.heap.size w w' := by
  have hm := maxLen_lt
  subst hop
  have hti : (t.toList.isEmpty = true ∧ t.toList = []) ∨ (t.toList.isEmpty = false ∧ ¬ t.toList = []) := by cases t.toList <;> simp
  rcases hti with ⟨hti, hte⟩ | ⟨hti, hte⟩
  all_goals go_enter Try.func46, Try.ntmps46
  all_goals go_wp2_with (first | (go_at_call 30; refine (l01In_v V _ _ (by first | rfl | (rw [IntKind.wrap_i64]; omega)) _).mono ?_; rintro e1 w1 ⟨rfl, rfl⟩) | (go_at_call 30; refine (l01In_v (ls : Nat) _ _ (by first | rfl | (rw [IntKind.wrap_i64]; omega)) _).mono ?_; rintro e1 w1 ⟨rfl, rfl⟩) | (go_at_call 60; refine (has_any theOps t _ 6 _ (by decide) (fun j h => lit_cells2 _ theOps _ 9 _ (by simp) rfl j h)).mono ?_; rw [hasB_theOps]; rintro e1 w1 ⟨rfl, rfl⟩))
  all_goals go_ret
  all_goals refine ⟨ret_bool ?_, by first | exact below2 w _ _ | exact (below2 w _ _).alloc (by simp; omega) _⟩
  all_goals first | (simp [insOk, plOk_eq, *]; done) | (simp_all [insOk, plOk_eq]; done) | (rw [dz]; simp_all [insOk, plOk_eq]; done)
end Go.Proofs.Ytobpcfelgobedab
