/- The walk of the law FnExactAliasText: both functions are walked where they are called. -/
import Derived.Test.YtgiboadcfnfooabRows
import Derived.Test.YtgiboadcfnfooabBelow0
import Derived.WalkKit
import Derived.ProofKit
import Derived.OpenShut
import Derived.ShutString
import Derived.WalkSpells
import Derived.WalkLawsBesides
namespace Go.Proofs.Ytgiboadcfnfooab
open Go.ChangeShapes Go.WideShapes Go.ChangeAt Go.RowKit
namespace AliasTextLaw
set_option maxRecDepth 100000 in
set_option maxHeartbeats 4000000 in
theorem walk (n : Int) (w : World) :
    Calls Try.prog 3 #[.int .i64 n] w fun e w' => e = .returned (.bool true) ∧ Below w.heap.size w w' := by
  rcases (by omega : n = 0 ∨ n = 1 ∨ n = 2 ∨ n < 0 ∨ 2 < n) with rfl | rfl | rfl | h | h
  case inr.inr.inr.inr =>
    have e : decide (n ≤ 2) = false := by simp; omega
    go_enter Try.func3, Try.ntmps3
    go_wp2
    all_goals first | omega | skip
    all_goals first | (simp_all; done) | skip
    all_goals go_ret
    all_goals exact ⟨rfl, by first | exact Below.refl _ _ | exact (Below.refl _ _).alloc (Nat.le_refl _) _⟩
  all_goals go_enter Try.func3, Try.ntmps3
  all_goals go_wp2
  all_goals first | omega | skip
  all_goals go_ret
  all_goals exact ⟨rfl, by first | exact Below.refl _ _ | exact (Below.refl _ _).alloc (Nat.le_refl _) _⟩
end AliasTextLaw
end Go.Proofs.Ytgiboadcfnfooab
