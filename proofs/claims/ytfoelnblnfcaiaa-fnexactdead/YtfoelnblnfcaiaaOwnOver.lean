/- A list that a call owns, behind marks in other blocks. -/
import Derived.Test.YtfoelnblnfcaiaaOwnIntL
import Derived.Test.YtfoelnblnfcaiaaOverB
namespace Go.Proofs.Ytfoelnblnfcaiaa
open Go.ChangeShapes Go.WideShapes Go.ChangeAt Go.RowKit
theorem OwnI.over {w w' : World} {A B T : Nat} {v : Value} {l : List Int} (h : OwnI w A v l) (ho : Over B T w w') (hne : ∀ g, v.ownBlock = some g → g < B ∨ T ≤ g) : OwnI w' A v l := by
  obtain ⟨g0, cap, hv, hl, h0 | ⟨g', cap', cur, hv', hB', hh, hr⟩⟩ := h
  · exact ⟨g0, cap, hv, hl, Or.inl h0⟩
  · exact ⟨g0, cap, hv, hl, Or.inr ⟨g', cap', cur, hv', hB', (ho.out g' (Array.getElem?_eq_some_iff.1 hh).1 (hne g' (by rw [hv']; rfl))).trans hh, hr⟩⟩
end Go.Proofs.Ytfoelnblnfcaiaa
