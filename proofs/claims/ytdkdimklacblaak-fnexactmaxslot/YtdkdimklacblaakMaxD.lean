/- The greatest slot: what both functions have in common. -/
import Derived.Test.YtdkdimklacblaakMaxP
import Derived.Test.YtdkdimklacblaakAheadP
import Derived.Test.YtdkdimklacblaakMakesC
import Derived.Test.YtdkdimklacblaakUses
namespace Go.Proofs.Ytdkdimklacblaak
open Go.ChangeShapes Go.WideShapes Go.ChangeAt Go.RowKit
def met (x : Ins) : List Int := makesP x :: usesP x
def maxP (g : Gr) : Int := if grOk g = true then topOf (g.blocks.flatMap (metS usesP makesP)) else -1
theorem grOk_steps {g : Gr} (h : grOk g = true) : (codeAll g.blocks).length ≤ 1000 := by
  simp only [grOk, Bool.and_eq_true, decide_eq_true_eq] at h
  omega
theorem usesP_len (x : Ins) : (usesP x).length ≤ 3 := by
  unfold usesP cellP
  repeat' split
  all_goals simp
theorem met_flat (l : List Ins) : (l.flatMap met).length ≤ 4 * l.length := by
  induction l with
  | nil => simp
  | cons y l ih => have := usesP_len y; rw [List.flatMap_cons, List.length_append, List.length_cons]; simp only [met, List.length_cons] at ih ⊢; omega
theorem met_few (pre : List Ins) (h : pre.length + 1 ≤ 1000) : (-1 :: pre.flatMap met).length ≤ 10000 := by
  have := met_flat pre
  rw [List.length_cons]; omega
theorem metJ_len (b : Blk) : (metJ b).length ≤ 1 := by unfold metJ; split <;> simp
theorem metJ_flat (l : List Blk) : (l.flatMap metJ).length ≤ l.length := by
  induction l with
  | nil => simp
  | cons y l ih => have := metJ_len y; rw [List.flatMap_cons, List.length_append, List.length_cons]; omega
theorem own_shape {w : World} {B : Nat} {v : Value} {l : List Int} (h : OwnI w B v l) : ∃ n g cap, v = .slice (some ⟨g, 0, none⟩) n cap := let ⟨g, c, e, _⟩ := h; ⟨_, g, c, e⟩
end Go.Proofs.Ytdkdimklacblaak
