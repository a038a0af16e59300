/- The blocks that go to one: plain. -/
import Derived.Test.YtobpcfelgobedaaRNextP
import Derived.Test.YtobpcfelgobedaaRAddPlain
import Derived.Test.YtobpcfelgobedaaRGrOkP
namespace Go.Proofs.YtobpcfelgobedaaR
open Go.ChangeShapes Go.WideShapes Go.ChangeAt Go.RowKit
/-- Block j goes to n. -/
def goesTo (xs : List Blk) (n : Int) (j : Nat) : Bool := match xs[j]? with
  | some x => decide (n ∈ nextP x)
  | none => false
theorem goesTo_at {xs : List Blk} {n : Int} {j : Nat} (h : j < xs.length) : goesTo xs n j = decide (n ∈ nextP xs[j]) := by simp [goesTo, h]
/-- Of the first j blocks those that go to n. -/
def aheadUp (xs : List Blk) (n : Int) : Nat → List Int
  | 0 => []
  | j + 1 => if goesTo xs n j = true then aheadUp xs n j ++ [(j : Int)] else aheadUp xs n j
theorem aheadUp_lt (xs : List Blk) (n : Int) : ∀ j, ∀ y ∈ aheadUp xs n j, y < (j : Int)
  | 0, y, h => by simp [aheadUp] at h
  | j + 1, y, h => by
    unfold aheadUp at h
    have ih := aheadUp_lt xs n j y
    split at h
    · rw [List.mem_append, List.mem_singleton] at h
      rcases h with h | rfl
      · have := ih h; omega
      · omega
    · have := ih h; omega
theorem aheadUp_len (xs : List Blk) (n : Int) : ∀ j, (aheadUp xs n j).length ≤ j
  | 0 => by simp [aheadUp]
  | j + 1 => by
    have := aheadUp_len xs n j
    unfold aheadUp
    split
    · rw [List.length_append]; simp; omega
    · omega
def aheadP (g : Gr) (n : Int) : List Int := if grOk g = true ∧ 0 ≤ n ∧ n < (g.blocks.length : Nat) then aheadUp g.blocks n g.blocks.length else []
theorem add_new (l : List Int) (n : Int) (h : ∀ y ∈ l, y < n) : addTo l n = l ++ [n] := by
  have := addTo_here n l l.length (Nat.le_refl _) (fun i hi _ => h _ (List.getElem_mem hi)) (fun hh => absurd hh (Nat.lt_irrefl _))
  simpa using this
theorem add_same (l : List Int) (n : Int) (h : ∀ y ∈ l, y < n) : addTo (l ++ [n]) n = l ++ [n] :=
  addTo_there n (l ++ [n]) l.length (by simp) (fun i hi hil => by rw [List.getElem_append_left hil]; exact h _ (List.getElem_mem hil)) (by simp)
theorem grOk_blocks {g : Gr} (h : grOk g = true) : 1 ≤ g.blocks.length ∧ g.blocks.length ≤ 300 := by
  simp only [grOk, frOk, Bool.and_eq_true, decide_eq_true_eq] at h
  omega
theorem aheadP_len (g : Gr) (n : Int) : (aheadP g n).length ≤ 300 := by
  unfold aheadP
  split
  · rename_i h
    exact Nat.le_trans (aheadUp_len _ _ _) (grOk_blocks h.1).2
  · simp
/-- What GraphOk (one of both) tells. -/
def OkIs (f : Nat) (g : Gr) : Prop := ∀ W A v, GrIs W A v g → Calls Try.prog f #[.agg v] W fun en w' => en = .returned (.bool (grOk g)) ∧ Below W.heap.size W w'
end Go.Proofs.YtobpcfelgobedaaR
