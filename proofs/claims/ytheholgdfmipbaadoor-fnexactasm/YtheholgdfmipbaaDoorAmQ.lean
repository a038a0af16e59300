/- AsmWord, both sides, as the law asks. -/
import Derived.Test.YtheholgdfmipbaaDoorAmA
namespace Go.Proofs.YtheholgdfmipbaaDoor
open Go.ChangeShapes Go.WideShapes Go.ChangeAt Go.RowKit
/-- The tables, and that the library's limit is a number. -/
def TabM (w : World) : Prop := TabA w ∧ ∃ ml, w.cell? ⟨4, 0, none⟩ = some (.int .i64 ml)
theorem TabM.stays {w w' : World} (h : TabM w) (bel : Below w.heap.size w w') : TabM w' := by
  obtain ⟨h1, ml, h2⟩ := h
  exact ⟨h1.stays bel, ml, (bel.cell (p := ⟨4, 0, none⟩) (World.block_lt_of_cell? _ _ h2)).trans h2⟩
theorem impl_asmWordQ (m : Img) (p : Int) (w : World) (B : Nat) (v : Array Value) (h : ImgIs w B v m) (ht : TabM w) :
    Calls Tryd.prog 15 #[.agg v, .int .i64 p] w fun en w' => en = .returned (.string ⟨(asmW m p).toArray⟩) ∧ Below w.heap.size w w' := by
  obtain ⟨h1, ml, h2⟩ := ht
  exact impl_asmWord m p w B v h h1 ml h2
end Go.Proofs.YtheholgdfmipbaaDoor
