/- Out of earlier texts, what is wanted here (written by wip/mklite.py). -/
import Derived.Test.YtfoelnblnfcaiaaOwnIntL
namespace Go.Proofs.Ytfoelnblnfcaiaa
open Go.ChangeShapes Go.WideShapes Go.ChangeAt Go.RowKit Go.Maps
/-- Block g is a row of truths, the first n as f says. -/
def RowT (w : World) (g n : Nat) (f : Nat → Bool) : Prop := ∃ cur : Array Value, w.heap[g]? = some (.cells cur 4 (0, 0)) ∧ n ≤ cur.size ∧ ∀ i, i < n → cur[i]? = some (.bool (f i))
section
variable {w w' : World} {g n : Nat} {f f' : Nat → Bool}
theorem RowT.lt (h : RowT w g n f) : g < w.heap.size := let ⟨_, h1, _⟩ := h; (Array.getElem?_eq_some_iff.1 h1).1
theorem RowT.keep (h : RowT w g n f) (hk : w'.heap[g]? = w.heap[g]?) : RowT w' g n f := let ⟨c, h1, h2⟩ := h; ⟨c, hk.trans h1, h2⟩
theorem RowT.stays (h : RowT w g n f) (b : Below w.heap.size w w') : RowT w' g n f := h.keep (b.block _ h.lt)
theorem RowT.congr (h : RowT w g n f) (e : ∀ i, i < n → f i = f' i) : RowT w g n f' := let ⟨c, h1, h2, h3⟩ := h; ⟨c, h1, h2, fun i hi => by rw [← e i hi]; exact h3 i hi⟩
theorem RowT.at (h : RowT w g n f) {i : Nat} (hi : i < n) : w.cell? ⟨g, i, none⟩ = some (.bool (f i)) ∧ w.frozen? ⟨g, i, none⟩ = false := by
  obtain ⟨cur, hh, _, hc⟩ := h
  exact ⟨by simp [World.cell?, hh, hc i hi], by simp [World.frozen?, hh]⟩
theorem RowT.set (h : RowT w g n f) {i : Nat} (hi : i < n) {b : Bool} (e : ∀ j, j < n → f' j = if j = i then b else f j) : RowT (w.setCell ⟨g, i, none⟩ (.bool b)) g n f' := by
  obtain ⟨cur, hh, hs, hc⟩ := h
  refine ⟨_, heap_setCell_same w g i cur _ _ hh, by simpa using hs, fun j hj => ?_⟩
  rw [Array.getElem?_setIfInBounds, e j hj]
  by_cases he : i = j
  · subst he; rw [if_pos rfl, if_pos (by omega), if_pos rfl]
  · rw [if_neg he, hc j hj, if_neg (fun e => he e.symm)]
end
end Go.Proofs.Ytfoelnblnfcaiaa
