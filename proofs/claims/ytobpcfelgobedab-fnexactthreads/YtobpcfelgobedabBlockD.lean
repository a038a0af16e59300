/- A Block as its cells lie in memory, and slices of these (written by wip/mkshape.py). -/
import Derived.Test.YtobpcfelgobedabInstrD
namespace Go.Proofs.Ytobpcfelgobedab
open Go.ChangeShapes Go.WideShapes Go.ChangeAt Go.RowKit
structure Blk where
  code : List Ins
  jump : Int
  a : Int
  to : Int
  els : Int
instance : Inhabited Blk := ⟨⟨[], 0, 0, 0, 0⟩⟩
/-- Its numbers are of 64 bits. -/
def Blk.wf (x : Blk) : Prop := I64 x.jump ∧ I64 x.a ∧ I64 x.to ∧ I64 x.els
def BlkIs (w : World) (B : Nat) (v : Array Value) (x : Blk) : Prop := ∃ (ucode : Option Addr) (ccode : Nat), v = #[.slice ucode x.code.length ccode, .int .i64 x.jump, .int .i64 x.a, .int .i64 x.to, .int .i64 x.els] ∧ x.wf ∧ SlIs InsIs 7 w B ucode x.code
theorem BlkKeeps : Keeps BlkIs where
  stays := fun ⟨ucode, ccode, e, ok, hcode⟩ bel => ⟨ucode, ccode, e, ok, (hcode.stays InsKeeps bel)⟩
  but := fun ⟨ucode, ccode, e, ok, hcode⟩ hg hb => ⟨ucode, ccode, e, ok, (hcode.but InsKeeps hg hb)⟩
  mono := fun ⟨ucode, ccode, e, ok, hcode⟩ hB => ⟨ucode, ccode, e, ok, (hcode.mono InsKeeps hB)⟩
/-- How great it is, as the law counts it. -/
def Blk.sz (x : Blk) : Nat := (slSz Ins.sz x.code)
/-- Element i of a slice of these: where it lies, its cells, what it is. -/
theorem Blk_get {w : World} {B : Nat} {a' : Option Addr} {xs : List Blk} (h : SlIs BlkIs 5 w B a' xs) (i : Nat) (hi : i < xs.length) :
    ∃ b' o' code jump a to els ucode ccode, a' = some ⟨b', o', none⟩ ∧ B ≤ b' ∧ b' < w.heap.size ∧ xs[i] = ⟨code, jump, a, to, els⟩ ∧ w.cell? ⟨b', o' + i * 5, none⟩ = some (.slice ucode code.length ccode) ∧ w.cell? ⟨b', o' + i * 5 + 1, none⟩ = some (.int .i64 jump) ∧ w.cell? ⟨b', o' + i * 5 + 2, none⟩ = some (.int .i64 a) ∧ w.cell? ⟨b', o' + i * 5 + 3, none⟩ = some (.int .i64 to) ∧ w.cell? ⟨b', o' + i * 5 + 4, none⟩ = some (.int .i64 els) ∧ BlkIs w B #[.slice ucode code.length ccode, .int .i64 jump, .int .i64 a, .int .i64 to, .int .i64 els] ⟨code, jump, a, to, els⟩ := by
  obtain ⟨b', o', v, ha, hB, hb, _, hc, hx⟩ := h.at i hi
  have hx0 := hx
  obtain ⟨ucode, ccode, e, ok, hcode⟩ := hx0
  obtain ⟨x, hxe⟩ : ∃ x, xs[i] = x := ⟨_, rfl⟩
  rw [hxe] at hx e
  subst e
  obtain ⟨code, jump, a, to, els⟩ := x
  exact ⟨b', o', code, jump, a, to, els, ucode, ccode, ha, hB, hb, hxe, hc 0 (by omega), hc 1 (by omega), hc 2 (by omega), hc 3 (by omega), hc 4 (by omega), hx⟩
end Go.Proofs.Ytobpcfelgobedab
