/- A Fact as its cells lie in memory, and slices of these (written by wip/mkshape.py). -/
import Derived.Test.YtjmclmbepnbeoaaDoorSl
namespace Go.Proofs.YtjmclmbepnbeoaaDoor
open Go.ChangeShapes Go.WideShapes Go.ChangeAt Go.RowKit
structure Fct where
  slot : Int
  val : Int
instance : Inhabited Fct := ⟨⟨0, 0⟩⟩
/-- Its numbers are of 64 bits. -/
def Fct.wf (x : Fct) : Prop := I64 x.slot ∧ I64 x.val
def FctIs (_w : World) (_B : Nat) (v : Array Value) (x : Fct) : Prop := v = #[.int .i64 x.slot, .int .i64 x.val] ∧ x.wf
theorem FctKeeps : Keeps FctIs where
  stays := fun h _ => h
  but := fun h _ _ => h
  mono := fun h _ => h
/-- How great it is, as the law counts it. -/
def Fct.sz (_ : Fct) : Nat := 0
/-- Element i of a slice of these: where it lies, its cells, what it is. -/
theorem Fct_get {w : World} {B : Nat} {a' : Option Addr} {xs : List Fct} (h : SlIs FctIs 2 w B a' xs) (i : Nat) (hi : i < xs.length) :
    ∃ b' o' slot val, a' = some ⟨b', o', none⟩ ∧ B ≤ b' ∧ b' < w.heap.size ∧ xs[i] = ⟨slot, val⟩ ∧ w.cell? ⟨b', o' + i * 2, none⟩ = some (.int .i64 slot) ∧ w.cell? ⟨b', o' + i * 2 + 1, none⟩ = some (.int .i64 val) ∧ FctIs w B #[.int .i64 slot, .int .i64 val] ⟨slot, val⟩ := by
  obtain ⟨b', o', v, ha, hB, hb, _, hc, hx⟩ := h.at i hi
  have hx0 := hx
  obtain ⟨e, ok⟩ := hx0
  obtain ⟨x, hxe⟩ : ∃ x, xs[i] = x := ⟨_, rfl⟩
  rw [hxe] at hx e
  subst e
  obtain ⟨slot, val⟩ := x
  exact ⟨b', o', slot, val, ha, hB, hb, hxe, hc 0 (by omega), hc 1 (by omega), hx⟩
end Go.Proofs.YtjmclmbepnbeoaaDoor
