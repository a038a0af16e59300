/- A Place as its cells lie in memory, and slices of these (written by wip/mkshape.py). -/
import Derived.Test.YtgiboadcfnfooaaSl
namespace Go.Proofs.Ytgiboadcfnfooaa
open Go.ChangeShapes Go.WideShapes Go.ChangeAt Go.RowKit
structure Plc where
  region : Int
  pi : Int
  pj : Int
  off : Int
instance : Inhabited Plc := ⟨⟨0, 0, 0, 0⟩⟩
/-- Its numbers are of 64 bits. -/
def Plc.wf (x : Plc) : Prop := I64 x.region ∧ I64 x.pi ∧ I64 x.pj ∧ I64 x.off
def PlcIs (_w : World) (_B : Nat) (v : Array Value) (x : Plc) : Prop := v = #[.int .i64 x.region, .int .i64 x.pi, .int .i64 x.pj, .int .i64 x.off] ∧ x.wf
theorem PlcKeeps : Keeps PlcIs where
  stays := fun h _ => h
  but := fun h _ _ => h
  mono := fun h _ => h
/-- How great it is, as the law counts it. -/
def Plc.sz (_ : Plc) : Nat := 0
/-- Element i of a slice of these: where it lies, its cells, what it is. -/
theorem Plc_get {w : World} {B : Nat} {a' : Option Addr} {xs : List Plc} (h : SlIs PlcIs 4 w B a' xs) (i : Nat) (hi : i < xs.length) :
    ∃ b' o' region pi pj off, a' = some ⟨b', o', none⟩ ∧ B ≤ b' ∧ b' < w.heap.size ∧ xs[i] = ⟨region, pi, pj, off⟩ ∧ w.cell? ⟨b', o' + i * 4, none⟩ = some (.int .i64 region) ∧ w.cell? ⟨b', o' + i * 4 + 1, none⟩ = some (.int .i64 pi) ∧ w.cell? ⟨b', o' + i * 4 + 2, none⟩ = some (.int .i64 pj) ∧ w.cell? ⟨b', o' + i * 4 + 3, none⟩ = some (.int .i64 off) ∧ PlcIs w B #[.int .i64 region, .int .i64 pi, .int .i64 pj, .int .i64 off] ⟨region, pi, pj, off⟩ := by
  obtain ⟨b', o', v, ha, hB, hb, _, hc, hx⟩ := h.at i hi
  have hx0 := hx
  obtain ⟨e, ok⟩ := hx0
  obtain ⟨x, hxe⟩ : ∃ x, xs[i] = x := ⟨_, rfl⟩
  rw [hxe] at hx e
  subst e
  obtain ⟨region, pi, pj, off⟩ := x
  exact ⟨b', o', region, pi, pj, off, ha, hB, hb, hxe, hc 0 (by omega), hc 1 (by omega), hc 2 (by omega), hc 3 (by omega), hx⟩
end Go.Proofs.Ytgiboadcfnfooaa
