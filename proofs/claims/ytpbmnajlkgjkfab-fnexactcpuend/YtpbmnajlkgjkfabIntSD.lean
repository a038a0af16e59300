/- Lists of lists of numbers as they lie in memory. -/
import Derived.Test.YtpbmnajlkgjkfabSl
namespace Go.Proofs.Ytpbmnajlkgjkfab
open Go.ChangeShapes Go.WideShapes Go.ChangeAt Go.RowKit
abbrev Rw := List Int
def Rw.sz (x : Rw) : Nat := x.length
/-- One cell that holds a list of numbers. -/
def RwIs (w : World) (B : Nat) (v : Array Value) (x : Rw) : Prop := ∃ urow crow, v = #[.slice urow x.length crow] ∧ IntsIs w B urow x
theorem RwKeeps : Keeps RwIs where
  stays := fun ⟨u, c, e, h⟩ bel => ⟨u, c, e, h.stays bel⟩
  but := fun ⟨u, c, e, h⟩ hg hb => ⟨u, c, e, h.but hg hb⟩
  mono := fun ⟨u, c, e, h⟩ hB => ⟨u, c, e, h.mono hB⟩
/-- Element i of such a list: where it lies, its cell, what it is. -/
theorem Rw_get {w : World} {B : Nat} {a' : Option Addr} {xs : List Rw} (h : SlIs RwIs 1 w B a' xs) (i : Nat) (hi : i < xs.length) :
    ∃ b' o' urow crow, a' = some ⟨b', o', none⟩ ∧ B ≤ b' ∧ b' < w.heap.size ∧ w.cell? ⟨b', o' + i, none⟩ = some (.slice urow xs[i].length crow) ∧ IntsIs w B urow xs[i] := by
  obtain ⟨b', o', v, ha, hB, hb, _, hc, u, c, e, hx⟩ := h.at i hi
  subst e
  refine ⟨b', o', u, c, ha, hB, hb, ?_, hx⟩
  have := hc 0 (by omega)
  simpa using this
end Go.Proofs.Ytpbmnajlkgjkfab
