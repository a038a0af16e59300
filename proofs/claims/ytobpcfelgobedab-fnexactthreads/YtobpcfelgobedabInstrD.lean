/- An Instr as its cells lie in memory, and slices of these (written by wip/mkshape.py). -/
import Derived.Test.YtobpcfelgobedabSl
namespace Go.Proofs.Ytobpcfelgobedab
open Go.ChangeShapes Go.WideShapes Go.ChangeAt Go.RowKit
structure Ins where
  op : Int
  d : Int
  a : Int
  b : Int
  c : Int
  n : Int
  t : ByteArray
instance : Inhabited Ins := ⟨⟨0, 0, 0, 0, 0, 0, ByteArray.empty⟩⟩
/-- Its numbers are of 64 bits. -/
def Ins.wf (x : Ins) : Prop := I64 x.op ∧ I64 x.d ∧ I64 x.a ∧ I64 x.b ∧ I64 x.c ∧ I64 x.n
def InsIs (_w : World) (_B : Nat) (v : Array Value) (x : Ins) : Prop := v = #[.int .i64 x.op, .int .i64 x.d, .int .i64 x.a, .int .i64 x.b, .int .i64 x.c, .int .i64 x.n, .string x.t] ∧ x.wf ∧ x.t.size ≤ maxLen
theorem InsKeeps : Keeps InsIs where
  stays := fun h _ => h
  but := fun h _ _ => h
  mono := fun h _ => h
/-- How great it is, as the law counts it. -/
def Ins.sz (x : Ins) : Nat := x.t.size
/-- Element i of a slice of these: where it lies, its cells, what it is. -/
theorem Ins_get {w : World} {B : Nat} {a' : Option Addr} {xs : List Ins} (h : SlIs InsIs 7 w B a' xs) (i : Nat) (hi : i < xs.length) :
    ∃ b' o' op d a b c n t, a' = some ⟨b', o', none⟩ ∧ B ≤ b' ∧ b' < w.heap.size ∧ xs[i] = ⟨op, d, a, b, c, n, t⟩ ∧ w.cell? ⟨b', o' + i * 7, none⟩ = some (.int .i64 op) ∧ w.cell? ⟨b', o' + i * 7 + 1, none⟩ = some (.int .i64 d) ∧ w.cell? ⟨b', o' + i * 7 + 2, none⟩ = some (.int .i64 a) ∧ w.cell? ⟨b', o' + i * 7 + 3, none⟩ = some (.int .i64 b) ∧ w.cell? ⟨b', o' + i * 7 + 4, none⟩ = some (.int .i64 c) ∧ w.cell? ⟨b', o' + i * 7 + 5, none⟩ = some (.int .i64 n) ∧ w.cell? ⟨b', o' + i * 7 + 6, none⟩ = some (.string t) ∧ InsIs w B #[.int .i64 op, .int .i64 d, .int .i64 a, .int .i64 b, .int .i64 c, .int .i64 n, .string t] ⟨op, d, a, b, c, n, t⟩ := by
  obtain ⟨b', o', v, ha, hB, hb, _, hc, hx⟩ := h.at i hi
  have hx0 := hx
  obtain ⟨e, ok, st⟩ := hx0
  obtain ⟨x, hxe⟩ : ∃ x, xs[i] = x := ⟨_, rfl⟩
  rw [hxe] at hx e
  subst e
  obtain ⟨op, d, a, b, c, n, t⟩ := x
  exact ⟨b', o', op, d, a, b, c, n, t, ha, hB, hb, hxe, hc 0 (by omega), hc 1 (by omega), hc 2 (by omega), hc 3 (by omega), hc 4 (by omega), hc 5 (by omega), hc 6 (by omega), hx⟩
end Go.Proofs.Ytobpcfelgobedab
