/- The slot that a step makes: both functions. -/
import Derived.Test.YtdkdimklacblaakInstrD
namespace Go.Proofs.Ytdkdimklacblaak
open Go.ChangeShapes Go.WideShapes Go.ChangeAt Go.RowKit
def makesP (x : Ins) : Int := if x.op = 4 ∨ x.op = 6 then -1 else x.d
theorem spec_makes (x : Ins) (w : World) (B : Nat) (v : Array Value) (h : InsIs w B v x) :
    Calls Try.prog 30 #[.agg v] w fun en w' => en = .returned (.int .i64 (makesP x)) ∧ Below w.heap.size w w' := by
  obtain ⟨op, d, a, b, c, n, t⟩ := x
  obtain ⟨rfl, _⟩ := h
  go_enter Try.func30, Try.ntmps30
  go_wp2
  all_goals go_ret
  all_goals exact ⟨ret_int (by (try simp only [beq_iff_eq, beq_eq_false_iff_ne, ne_eq] at *); unfold makesP; split <;> simp_all), (Below.refl _ _).alloc (Nat.le_refl _) _⟩
theorem impl_makes (x : Ins) (w : World) (B : Nat) (v : Array Value) (h : InsIs w B v x) :
    Calls Try.prog 33 #[.agg v] w fun en w' => en = .returned (.int .i64 (makesP x)) ∧ Below w.heap.size w w' := by
  obtain ⟨op, d, a, b, c, n, t⟩ := x
  obtain ⟨rfl, _⟩ := h
  go_enter Try.func33, Try.ntmps33
  go_wp2
  all_goals go_ret
  all_goals exact ⟨ret_int (by (try simp only [beq_iff_eq, beq_eq_false_iff_ne, ne_eq] at *); unfold makesP; split <;> simp_all), (Below.refl _ _).alloc (Nat.le_refl _) _⟩
end Go.Proofs.Ytdkdimklacblaak
