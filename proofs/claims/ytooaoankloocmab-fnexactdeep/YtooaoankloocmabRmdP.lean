/- Chapter 10, plain: what a block rules, by ways. -/
import Derived.Test.YtooaoankloocmabOrdPA
import Derived.Test.YtooaoankloocmabRulA
import Derived.Test.YtooaoankloocmabNxPA
namespace Go.Proofs.Ytooaoankloocmab
open Go.ChangeShapes Go.WideShapes Go.ChangeAt Go.RowKit Go.Maps
theorem rul_iff {xs : List Blk} (hx : AllIn xs) (i k : Int) : Rul xs i k ↔ (Way (preN xs) [0] (-1) k ∧ ¬ Way (preN xs) [0] i k) := by
  rw [way_all hx]
  unfold Rul
  constructor
  · rintro ⟨h1, h2, h3⟩
    refine ⟨h2, fun h => ?_⟩
    by_cases e : i = 0
    · subst e; exact way_none h
    · exact h3 ⟨e, (way_wo e k).1 h⟩
  · rintro ⟨h1, h2⟩
    refine ⟨?_, h1, fun h => h2 ((way_wo h.1 k).2 h.2)⟩
    by_cases e : i = 0
    · subst e; exact Reach.zero
    · cases Classical.em (Reach xs i) with
      | inl h => exact h
      | inr h => exact absurd ((way_wo e k).2 (reach_wo h h1)) h2
theorem rest_few {xs : List Blk} (hn : xs.length ≤ 300) : 1 + restN (preN xs) [] xs.length ≤ 100000 := by
  have h : ∀ i, (preN xs i).length ≤ 2 := fun i => by
    unfold preN nxt
    split
    · exact nextP_len _
    · simp
  have := restN_le (met := []) h xs.length
  omega
theorem pre_in {xs : List Blk} (hx : AllIn xs) : ∀ i, i < xs.length → ∀ y ∈ preN xs i, InR xs.length y := fun _ _ y hy => nxt_in hx _ y hy
/-- What a block rules. -/
def RulMd (xs : List Blk) (i : Int) (y : Int) : Prop := Way (preN xs) [0] (-1) y ∧ ¬ Way (preN xs) [0] i y
theorem rulMd_in {xs : List Blk} (hx : AllIn xs) (h0 : 0 < xs.length) {i y : Int} (h : RulMd xs i y) : InR xs.length y := by
  have := (way_all hx y).1 h.1
  clear h
  induction this with
  | zero => exact ⟨Int.le_refl _, by omega⟩
  | step _ hb _ => exact nxt_in hx _ _ hb
end Go.Proofs.Ytooaoankloocmab
