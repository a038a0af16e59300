/- Lists of numbers that a call owns, besides: a literal behind a box; what marks leave as it is. -/
import Derived.Test.YtheholgdfmipbaaDoorOwnInt
namespace Go.Proofs.YtheholgdfmipbaaDoor
open Go.ChangeShapes Go.WideShapes Go.ChangeAt Go.RowKit
theorem own_lit2 (w : World) (o : Obj) (l : List Int) (cs : Array Value) (n m : Nat) (hn : n = w.heap.size + 1) (hm : m = l.length) (hcs : cs = (l.map (Value.int .i64)).toArray) (hl : l.length ≤ 1000) : OwnI ((w.alloc o).alloc (.cells cs 3)) w.heap.size (.slice (some ⟨n, 0, none⟩) m m) l := by
  have := own_lit (w.alloc o) l cs n m (by simpa using hn) hm hcs hl
  exact this.mono (by simp)
theorem OwnI.butG {w w' : World} {B g : Nat} {v : Value} {l : List Int} (h : OwnI w B v l) (hb : But g w w') (hne : v.ownBlock ≠ some g) : OwnI w' B v l := by
  obtain ⟨g0, cap, hv, hl, h0 | ⟨g', cap', cur, hv', hB', hh, hr⟩⟩ := h
  · exact ⟨g0, cap, hv, hl, Or.inl h0⟩
  · refine ⟨g0, cap, hv, hl, Or.inr ⟨g', cap', cur, hv', hB', (hb.block g' (Array.getElem?_eq_some_iff.1 hh).1 ?_).trans hh, hr⟩⟩
    intro e; apply hne; rw [← e, hv']; rfl
/-- The block of a slice. -/
theorem own_blk {g n c b : Nat} (h : (Value.slice (some ⟨g, 0, none⟩) n c).ownBlock = some b) : g = b := by simpa [Value.ownBlock] using h
end Go.Proofs.YtheholgdfmipbaaDoor
