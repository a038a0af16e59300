/- Marks on a list of structs that a call owns: the general part. -/
import Derived.Test.YtooaoankloocmaaOwnA
import Derived.Test.YtooaoankloocmaaMkAll
import Derived.Deep.RegionHeld3
import Derived.Deep.CutRange
import Derived.Deep.LoopGhost
namespace Go.Proofs.Ytooaoankloocmaa
open Go.ChangeShapes Go.WideShapes Go.ChangeAt Go.RowKit
theorem keepB2 {W W' : World} {b : Nat} {o : Obj} (h : W.heap[b]? = some o) (bel : Below W.heap.size W W') : W'.heap[b]? = some o := (bel.block b (Array.getElem?_eq_some_iff.1 h).1).trans h
theorem OwnE.over {α : Type} {E : Elem α} {w w' : World} {A B T : Nat} {v : Value} {l : List α} (h : OwnE E w A v l) (ho : Over B T w w') (hne : ∀ g, v.ownBlock = some g → g < B ∨ T ≤ g) : OwnE E w' A v l :=
  h.blk (fun g hg hlt => ho.out g hlt (hne g hg))
/-- The first N cells of the list's block hold the numbers from k on. -/
def MkdE (w : World) (v : Value) (T : TypeId) (n k N : Nat) : Prop := ∃ g cap cu, v = .slice (some ⟨g, 0, none⟩) n cap ∧ w.heap[g]? = some (.cells cu T (0, 0)) ∧ ∀ r, r < N → cu[r]? = some (.int .i64 ((k + r : Nat) : Int))
theorem MkdE.stays {w w' : World} {v : Value} {T : TypeId} {n k N : Nat} (h : MkdE w v T n k N) (bel : Below w.heap.size w w') : MkdE w' v T n k N := by
  obtain ⟨g, cap, cu, hv, hh, hx⟩ := h
  exact ⟨g, cap, cu, hv, (bel.block g (Array.getElem?_eq_some_iff.1 hh).1).trans hh, hx⟩
/-- One mark more. -/
def MkC (wr : World) (g : Nat) (T : TypeId) (S k n : Nat) : Prop := ∃ cu : Array Value, wr.heap[g]? = some (.cells cu T (0, 0)) ∧ cu.size = S ∧ ∀ r, r < n → cu[r]? = some (.int .i64 ((k + r : Nat) : Int))
theorem MkC.more {wr : World} {g : Nat} {T : TypeId} {S k n : Nat} (h : MkC wr g T S k n) (hn : n < S) {x : Int} (hx : x = ((k + n : Nat) : Int)) : MkC (wr.setCell ⟨g, n, none⟩ (.int .i64 x)) g T S k (n + 1) := by
  obtain ⟨cu, h1, h2, h3⟩ := h
  subst hx
  refine ⟨_, heap_setCell_same _ g n _ _ _ h1, by simpa using h2, fun r hr => ?_⟩
  rw [Array.getElem?_setIfInBounds]
  by_cases he : n = r
  · subst he; rw [if_pos rfl, if_pos (by omega)]
  · rw [if_neg he]; exact h3 r (by omega)
theorem MkC.cell {wr : World} {g : Nat} {T : TypeId} {S k n : Nat} (h : MkC wr g T S k n) (i : Nat) (hi : i < S) : (∃ u, wr.cell? ⟨g, i, none⟩ = some u) ∧ wr.frozen? ⟨g, i, none⟩ = false := by
  obtain ⟨cu, h1, h2, _⟩ := h
  exact ⟨⟨cu[i]'(by omega), by simp [World.cell?, h1, show i < cu.size by omega]⟩, by simp [World.frozen?, h1]⟩
theorem MkC.read {wr : World} {g : Nat} {T : TypeId} {S k n : Nat} (h : MkC wr g T S k n) (i : Nat) (hi : i < n) : wr.cell? ⟨g, i, none⟩ = some (.int .i64 ((k + i : Nat) : Int)) := by
  obtain ⟨cu, h1, _, h3⟩ := h
  simp only [World.cell?, h1]; exact h3 i hi
end Go.Proofs.Ytooaoankloocmaa
