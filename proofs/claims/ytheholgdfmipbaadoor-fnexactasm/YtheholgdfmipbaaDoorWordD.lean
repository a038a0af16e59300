/- A Word as its cells lie in memory, and slices of these (written by wip/mkshape.py). -/
import Derived.Test.YtheholgdfmipbaaDoorSl
namespace Go.Proofs.YtheholgdfmipbaaDoor
open Go.ChangeShapes Go.WideShapes Go.ChangeAt Go.RowKit
structure Wrd where
  op : Int
  r : Int
  a : Int
  b : Int
  n : Int
instance : Inhabited Wrd := ⟨⟨0, 0, 0, 0, 0⟩⟩
/-- Its numbers are of 64 bits. -/
def Wrd.wf (x : Wrd) : Prop := I64 x.op ∧ I64 x.r ∧ I64 x.a ∧ I64 x.b ∧ I64 x.n
def WrdIs (_w : World) (_B : Nat) (v : Array Value) (x : Wrd) : Prop := v = #[.int .i64 x.op, .int .i64 x.r, .int .i64 x.a, .int .i64 x.b, .int .i64 x.n] ∧ x.wf
theorem WrdKeeps : Keeps WrdIs where
  stays := fun h _ => h
  but := fun h _ _ => h
  mono := fun h _ => h
/-- How great it is, as the law counts it. -/
def Wrd.sz (_ : Wrd) : Nat := 0
/-- Element i of a slice of these: where it lies, its cells, what it is. -/
theorem Wrd_get {w : World} {B : Nat} {a' : Option Addr} {xs : List Wrd} (h : SlIs WrdIs 5 w B a' xs) (i : Nat) (hi : i < xs.length) :
    ∃ b' o' op r a b n, a' = some ⟨b', o', none⟩ ∧ B ≤ b' ∧ b' < w.heap.size ∧ xs[i] = ⟨op, r, a, b, n⟩ ∧ w.cell? ⟨b', o' + i * 5, none⟩ = some (.int .i64 op) ∧ w.cell? ⟨b', o' + i * 5 + 1, none⟩ = some (.int .i64 r) ∧ w.cell? ⟨b', o' + i * 5 + 2, none⟩ = some (.int .i64 a) ∧ w.cell? ⟨b', o' + i * 5 + 3, none⟩ = some (.int .i64 b) ∧ w.cell? ⟨b', o' + i * 5 + 4, none⟩ = some (.int .i64 n) ∧ WrdIs w B #[.int .i64 op, .int .i64 r, .int .i64 a, .int .i64 b, .int .i64 n] ⟨op, r, a, b, n⟩ := by
  obtain ⟨b', o', v, ha, hB, hb, _, hc, hx⟩ := h.at i hi
  have hx0 := hx
  obtain ⟨e, ok⟩ := hx0
  obtain ⟨x, hxe⟩ : ∃ x, xs[i] = x := ⟨_, rfl⟩
  rw [hxe] at hx e
  subst e
  obtain ⟨op, r, a, b, n⟩ := x
  exact ⟨b', o', op, r, a, b, n, ha, hB, hb, hxe, hc 0 (by omega), hc 1 (by omega), hc 2 (by omega), hc 3 (by omega), hc 4 (by omega), hx⟩
end Go.Proofs.YtheholgdfmipbaaDoor
