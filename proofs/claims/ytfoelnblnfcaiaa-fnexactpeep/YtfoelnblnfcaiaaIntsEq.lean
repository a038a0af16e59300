/- spec.l02Ints and slices.Equal of two lists of numbers; worlds that differ by draws alone; a cut around what draws its order. -/
import Derived.Test.YtfoelnblnfcaiaaInts
namespace Go.Proofs.Ytfoelnblnfcaiaa
open Go.ChangeShapes Go.WideShapes Go.ChangeAt Go.RowKit

/-- What is to be shown behind a region, told once for all orders of it: T is found where the first order ends. -/
structure Cut (T : Prop) : Prop where
  go : T
theorem cut_at {T G : Prop} (main : Cut T → G) (rest : T) : G := main ⟨rest⟩
theorem below_dn {B : Nat} {a w : World} (h : Below B a w) (q : Nat) : Below B a (w.drewN q) := ⟨h.os, h.tape, h.output, h.size, h.block⟩
theorem keep {W W' : World} {b : Nat} {o : Obj} (h : W.heap[b]? = some o) (bel : Below W.heap.size W W') : W'.heap[b]? = some o := (bel.block b (Array.getElem?_eq_some_iff.1 h).1).trans h
theorem blk_new (w : World) (o : Obj) : (w.alloc o).heap[w.heap.size]? = some o := by show (w.heap.push o)[w.heap.size]? = _; exact Array.getElem?_push_size
end Go.Proofs.Ytfoelnblnfcaiaa
