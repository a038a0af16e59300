/- The contract of spec.l07Def. -/
import Derived.Test.YtjmclmbepnbeoaaRowA
namespace Go.Proofs.Ytjmclmbepnbeoaa
open Go.ChangeShapes Go.WideShapes Go.ChangeAt Go.RowKit
theorem def_any (x : Ins) (w : World) :
    Calls Try.prog 58 #[.agg (insV x)] w fun e w' => e = .returned (.bool (decide (x.op ≠ 4 ∧ x.op ≠ 6))) ∧ Below w.heap.size w w' := by
  obtain ⟨op, d, a, b, c, n, t⟩ := x
  simp only [insV]
  go_enter Try.func58, Try.ntmps58
  by_cases h4 : op = 4
  · subst h4
    go_wp2
    go_ret
    exact ⟨by simp, (Below.refl _ _).alloc (Nat.le_refl _) _⟩
  · have h4b : (op == 4) = false := by simpa using h4
    by_cases h6 : op = 6
    · subst h6
      go_wp2
      go_ret
      exact ⟨by simp, (Below.refl _ _).alloc (Nat.le_refl _) _⟩
    · have h6b : (op == 6) = false := by simpa using h6
      go_wp2
      go_ret
      exact ⟨by simp [h4, h6], (Below.refl _ _).alloc (Nat.le_refl _) _⟩
end Go.Proofs.Ytjmclmbepnbeoaa
