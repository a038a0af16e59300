/- Worlds that have grown, behind what the library makes. -/
import Derived.Test.YtjgiohhfhncepaaDoorBelow1
import Derived.Lib.AtoiErrMem
namespace Go.Proofs.YtjgiohhfhncepaaDoor
open Go.RowKit
theorem below_atoi {w w' : World} {e : TypeId} (h : w' = w ∨ ∃ t, w' = Lib.bytesWorld w e t) : Below w.heap.size w w' := by
  rcases h with rfl | ⟨t, rfl⟩
  · exact Below.refl _ _
  · exact Lib.bytesWorld_below w e t
end Go.Proofs.YtjgiohhfhncepaaDoor
