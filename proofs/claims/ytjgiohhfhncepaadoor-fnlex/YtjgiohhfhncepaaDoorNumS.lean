/- The contract of the specification's ReadNum: the number of 64 bits whose text it is, or 0 and false. Written by wip/mknum.py. -/
import Derived.Test.YtjgiohhfhncepaaDoorRead
import Derived.Test.YtjgiohhfhncepaaDoorNumPl
namespace Go.Proofs.YtjgiohhfhncepaaDoor
open Go.ChangeShapes Go.WideShapes Go.ChangeAt Go.RowKit
theorem ret_num {l : List UInt8} {n : Int} {b : Bool} (h : numR l = (n, b)) : Ending.returned (.tuple #[.int .i64 n, .bool b]) = .returned (.tuple #[.int .i64 (numR l).1, .bool (numR l).2]) := by rw [h]
theorem wrap_step (v d : Nat) (h : 48 ≤ (d : Int)) : wrap64 (((v * 10 + (d - 48) : Nat)) : Int) = wrap64 (wrap64 (wrap64 (10 * wrap64 v) + d) - 48) := by unfold wrap64; omega
end Go.Proofs.YtjgiohhfhncepaaDoor
