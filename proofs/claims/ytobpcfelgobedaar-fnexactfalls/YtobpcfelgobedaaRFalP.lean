/- How many blocks go on to the next one: plain. -/
import Derived.Test.YtobpcfelgobedaaRAheadP
namespace Go.Proofs.YtobpcfelgobedaaR
open Go.ChangeShapes Go.WideShapes Go.ChangeAt Go.RowKit
/-- Whether block i goes on to the next one. -/
def fallB (i : Nat) (b : Blk) : Bool := decide (b.jump ≠ 2) && decide (b.to = (i : Int) + 1)
/-- How many of the first k blocks do so. -/
def fallN (bs : List Blk) : Nat → Nat
  | 0 => 0
  | k + 1 => fallN bs k + (match bs[k]? with | some b => if fallB k b = true then 1 else 0 | none => 0)
theorem fallN_le (bs : List Blk) : ∀ k, fallN bs k ≤ k
  | 0 => Nat.le_refl _
  | k + 1 => by
    have := fallN_le bs k
    simp only [fallN]
    split
    · split <;> omega
    · omega
theorem fallN_yes {bs : List Blk} {k : Nat} {b : Blk} (h : k < bs.length) (hb : bs[k] = b) (hf : fallB k b = true) : fallN bs (k + 1) = fallN bs k + 1 := by
  simp [fallN, List.getElem?_eq_getElem h, hb, hf]
theorem fallN_no {bs : List Blk} {k : Nat} {b : Blk} (h : k < bs.length) (hb : bs[k] = b) (hf : fallB k b = false) : fallN bs (k + 1) = fallN bs k := by
  simp [fallN, List.getElem?_eq_getElem h, hb, hf]
def fallsP (g : Gr) : Int := if grOk g = true then ((fallN g.blocks g.blocks.length : Nat) : Int) else -1
end Go.Proofs.YtobpcfelgobedaaR
