/- A graph that a call makes. -/
import Derived.Test.YtobpcfelgobedabGrCp
namespace Go.Proofs.Ytobpcfelgobedab
open Go.ChangeShapes Go.WideShapes Go.ChangeAt Go.RowKit
/-- The answer is the graph x, its own memory alone. -/
def MadeGr (w : World) (x : Gr) (en : Ending) (w' : World) : Prop := ∃ v' S b cs, en = .returned (.agg v') ∧ GrIs w' w.heap.size v' x ∧ GOwn w' v' S b 0 cs ∧ (∀ c ∈ grL S b 0 cs, w.heap.size ≤ c.1 ∧ c.1 < w'.heap.size) ∧ S.n = x.sizes.length ∧ cs.length = x.blocks.length ∧ (∀ i (h : i < cs.length), cs[i].n = (x.blocks[i]!).code.length) ∧ Below w.heap.size w w'
end Go.Proofs.Ytobpcfelgobedab
