/- Pairs of numbers, as a list that a call owns. -/
import Derived.Test.YtooaoankloocmabOwnA
namespace Go.Proofs.Ytooaoankloocmab
open Go.ChangeShapes Go.WideShapes Go.ChangeAt Go.RowKit
def A2E : Elem (Nat × Nat) := { T := 42, ST := 40, sz := 2, bys := 16, z := .agg #[.int .i64 0, .int .i64 0], cs := fun p => [.int .i64 (p.1 : Int), .int .i64 (p.2 : Int)] }
theorem A2Ok : A2E.Ok where
  und := Try.underlying40
  info := by kernel_rfl
  zs := rfl
  pos := by decide
  few := by decide
  len := fun _ => rfl
  one := fun x u hu => by simp [A2E] at hu; rcases hu with rfl | rfl <;> rfl
end Go.Proofs.Ytooaoankloocmab
