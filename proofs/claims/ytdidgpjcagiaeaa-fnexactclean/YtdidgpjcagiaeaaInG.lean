/- Lists of steps that a call owns. -/
import Derived.Test.YtdidgpjcagiaeaaOwnG
import Derived.Test.YtdidgpjcagiaeaaInstrD
namespace Go.Proofs.Ytdidgpjcagiaeaa
open Go.ChangeShapes Go.WideShapes Go.ChangeAt Go.RowKit
def InE : Elem Ins := { T := 55, ST := 38, sz := 7, bys := 64, z := .agg #[.int .i64 0, .int .i64 0, .int .i64 0, .int .i64 0, .int .i64 0, .int .i64 0, .string ByteArray.empty], cs := fun x => [.int .i64 x.op, .int .i64 x.d, .int .i64 x.a, .int .i64 x.b, .int .i64 x.c, .int .i64 x.n, .string x.t] }
theorem InOk : InE.Ok where
  und := Try.underlying38
  info := by kernel_rfl
  zs := rfl
  pos := by decide
  few := by decide
  len := fun _ => rfl
  one := fun x u hu => by simp [InE] at hu; rcases hu with rfl | rfl | rfl | rfl | rfl | rfl | rfl <;> rfl
/-- All blocks but one row are as they were. -/
def KpL (wr : World) (row : Option Nat) (W : World) : Prop := ∀ k, k < wr.heap.size → some k ≠ row → W.heap[k]? = wr.heap[k]?
theorem KpL.of {wr W : World} {row : Option Nat} (h : Below wr.heap.size wr W) : KpL wr row W := fun k hk _ => h.block k hk
theorem KpL.drew (wr : World) (row : Option Nat) : KpL wr row wr.drew := fun _ _ _ => rfl
theorem KpL.grown {wr W W' : World} {row : Option Nat} (h : Below wr.heap.size wr W) (hg : W.grownBy W' row) : KpL wr row W' := fun k hk hne => (hg.block k (by have := h.size; omega) hne).trans (h.block k hk)
end Go.Proofs.Ytdidgpjcagiaeaa
