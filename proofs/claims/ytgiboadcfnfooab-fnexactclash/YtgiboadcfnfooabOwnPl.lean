/- Lists of places that a call owns. -/
import Derived.Test.YtgiboadcfnfooabOwnG
import Derived.Test.YtgiboadcfnfooabAliP
namespace Go.Proofs.Ytgiboadcfnfooab
open Go.ChangeShapes Go.WideShapes Go.ChangeAt Go.RowKit
def PlE : Elem Pla := { T := 71, ST := 63, sz := 4, bys := 32, z := .agg #[.int .i64 0, .int .i64 0, .int .i64 0, .int .i64 0], cs := fun p => [.int .i64 p.r, .int .i64 p.i, .int .i64 p.j, .int .i64 p.off] }
theorem PlOk : PlE.Ok where
  und := Try.underlying63
  info := by kernel_rfl
  zs := rfl
  pos := by decide
  few := by decide
  len := fun _ => rfl
  one := fun x u hu => by simp [PlE] at hu; rcases hu with rfl | rfl | rfl | rfl <;> rfl
end Go.Proofs.Ytgiboadcfnfooab
