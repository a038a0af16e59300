/- The walk of the law FnExactBin: both functions are walked where they are called. -/
import Derived.Test.YtfoaplihindeaahRows
import Derived.Test.YtfoaplihindeaahBelow0
import Derived.WalkKit
import Derived.ProofKit
import Derived.OpenShut
import Derived.ShutString
import Derived.WalkSpells
import Derived.WalkLawsBesides
namespace Go.Proofs.Ytfoaplihindeaah
open Go.ChangeShapes Go.WideShapes Go.ChangeAt Go.RowKit
namespace BinLaw
set_option maxHeartbeats 4000000 in
theorem walk (s : ByteArray) (a b : Int) (w : World) (hs : s.size ≤ maxLen) :
    Calls Try.prog 7 #[.string s, .int .i64 a, .int .i64 b] w fun e w' => e = .returned (.bool true) ∧ Below w.heap.size w w' := by
  unfold maxLen at hs
  by_cases hb : s.size ≤ 1048576
  · go_enter Try.func7, Try.ntmps7
    go_wp2
    all_goals first | (simp_all; done) | skip
    all_goals go_ret
    all_goals exact ⟨rfl, Below.refl _ _⟩
  · go_enter Try.func7, Try.ntmps7
    go_wp2_with fail
    go_ret
    exact ⟨rfl, Below.refl _ _⟩
end BinLaw
end Go.Proofs.Ytfoaplihindeaah
