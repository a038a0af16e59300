/- A box of five cells written whole; what folding makes of a block's jump. -/
import Derived.Test.YtjmclmbepnbeoaaFldPG
import Derived.Test.YtjmclmbepnbeoaaRowA
namespace Go.Proofs.Ytjmclmbepnbeoaa
open Go.ChangeShapes Go.WideShapes Go.ChangeAt Go.RowKit Go.Maps
theorem arr5 (c : Array Value) (hc : c.size = 5) (v0 v1 v2 v3 v4 : Value) : ((((c.setIfInBounds 0 v0).setIfInBounds 1 v1).setIfInBounds 2 v2).setIfInBounds 3 v3).setIfInBounds 4 v4 = #[v0, v1, v2, v3, v4] := by
  match c, hc with
  | ⟨[_, _, _, _, _]⟩, _ => rfl
theorem put5n {W : World} {b : Nat} {c : Array Value} {T : TypeId} (h : W.heap[b]? = some (.cells c T (0, 0))) (hc : c.size = 5) (v0 v1 v2 v3 v4 : Value) : (((((W.setCell ⟨b, 0, none⟩ v0).setCell ⟨b, 1, none⟩ v1).setCell ⟨b, 2, none⟩ v2).setCell ⟨b, 3, none⟩ v3).setCell ⟨b, 4, none⟩ v4).heap[b]? = some (.cells #[v0, v1, v2, v3, v4] T (0, 0)) ∧ But b W (((((W.setCell ⟨b, 0, none⟩ v0).setCell ⟨b, 1, none⟩ v1).setCell ⟨b, 2, none⟩ v2).setCell ⟨b, 3, none⟩ v3).setCell ⟨b, 4, none⟩ v4) := by
  have z0 := heap_setCell_same W b 0 c T v0 h
  have z1 := heap_setCell_same _ b 1 _ T v1 z0
  have z2 := heap_setCell_same _ b 2 _ T v2 z1
  have z3 := heap_setCell_same _ b 3 _ T v3 z2
  have z4 := heap_setCell_same _ b 4 _ T v4 z3
  refine ⟨z4.trans ?_, ((((But.refl b W).set 0 v0).set 1 v1).set 2 v2).set 3 v3 |>.set 4 v4⟩
  rw [arr5 c hc]
/-- A block's jump behind its steps. -/
def foldJ (K : Kn) (b : Blk) : Blk := if b.jump = 1 then match K b.a with
    | some v => ⟨[], 0, 0, if v = 0 then b.els else b.to, 0⟩
    | none => b
  else b
theorem foldB_J (b : Blk) : foldB b = { foldJ (foldUp b.code).1 b with code := (foldUp b.code).2 } := by
  unfold foldB foldJ
  by_cases h : b.jump = 1
  · rw [if_pos h, if_pos h]
    cases (foldUp b.code).1 b.a <;> rfl
  · rw [if_neg h, if_neg h]
/-- It is told as these numbers, behind some list. -/
def JumpD (b : Blk) (w : World) (e : Ending) (w' : World) : Prop := ∃ ad n c, e = .returned (.agg #[.slice ad n c, .int .i64 b.jump, .int .i64 b.a, .int .i64 b.to, .int .i64 b.els]) ∧ Below w.heap.size w w'
theorem newB1 (w : World) (o : Obj) : (w.alloc o).heap[w.heap.size]? = some o := by show (w.heap.push o)[w.heap.size]? = _; exact Array.getElem?_push_size
end Go.Proofs.Ytjmclmbepnbeoaa
