/- The contract of spec.Rules (written by wip/mkrlss.py). -/
import Derived.Test.YtooaoankloocmabRulA
import Derived.Test.YtooaoankloocmabLlG
namespace Go.Proofs.Ytooaoankloocmab
open Go.ChangeShapes Go.WideShapes Go.ChangeAt Go.RowKit
noncomputable def rulUp (xs : List Blk) (j : Nat) : List (List Int) := (List.range j).map (fun (k : Nat) => upB (fun i => rulB xs (i : Int) (k : Int)) xs.length)
noncomputable def rulesP (g : Gr) : List (List Int) := if grOk g = true then rulUp g.blocks g.blocks.length else []
theorem rulUp_succ (xs : List Blk) (j : Nat) : rulUp xs (j + 1) = rulUp xs j ++ [upB (fun i => rulB xs (i : Int) (j : Int)) xs.length] := by unfold rulUp; rw [List.range_succ, List.map_append]; rfl
theorem rulUp_len (xs : List Blk) (j : Nat) : (rulUp xs j).length = j := by unfold rulUp; simp
/-- The rows of truths, as they are read. -/
def RbAt (n B : Nat) (v3 : Value) (rows3 : List Nat) (F : Nat → Nat → Bool) (W : World) : Prop := OwnE (RbE n) W B v3 rows3 ∧ ∀ i (hi : i < rows3.length), RowT W rows3[i] n (F i)
section
variable {n B : Nat} {v3 : Value} {rows3 : List Nat} {F : Nat → Nat → Bool} {W W' : World}
theorem RbAt.stays (h : RbAt n B v3 rows3 F W) (b : Below W.heap.size W W') : RbAt n B v3 rows3 F W' := ⟨h.1.stays b, fun i hi => (h.2 i hi).stays b⟩
theorem RbAt.typed {g : Nat} {cur : Array Value} {t : TypeId} (h : RbAt n B v3 rows3 F W) (hg : W.grownBy W' (some g)) (ht : W.heap[g]? = some (.cells cur t (0, 0))) (h1 : t ≠ 4) (h2 : t ≠ 72) : RbAt n B v3 rows3 F W' := ⟨h.1.rtyped hg ht h2, fun i hi => (h.2 i hi).typed hg ht h1⟩
theorem RbAt.at {g m c : Nat} (h : RbAt n B (.slice (some ⟨g, 0, none⟩) m c) rows3 F W) {i k : Nat} (hi : i < rows3.length) (hk : k < n) : W.cell? ⟨g, i, none⟩ = some (.slice (some ⟨rows3[i], 0, none⟩) n n) ∧ W.cell? ⟨rows3[i], k, none⟩ = some (.bool (F i k)) := by
  have h0 := h.1.at (RbOk n) i hi 0 (by show 0 < 1; decide)
  refine ⟨?_, ((h.2 i hi).at hk).1⟩
  simpa [RbE] using h0
end
end Go.Proofs.Ytooaoankloocmab
