/- A Graph as its cells lie in memory, and slices of these (written by wip/mkshape.py). -/
import Derived.Test.YtobpcfelgobedabBlockD
namespace Go.Proofs.Ytobpcfelgobedab
open Go.ChangeShapes Go.WideShapes Go.ChangeAt Go.RowKit
structure Gr where
  sizes : List Int
  params : Int
  vars : Int
  slots : Int
  blocks : List Blk
instance : Inhabited Gr := ⟨⟨[], 0, 0, 0, []⟩⟩
/-- Its numbers are of 64 bits. -/
def Gr.wf (x : Gr) : Prop := I64 x.params ∧ I64 x.vars ∧ I64 x.slots
def GrIs (w : World) (B : Nat) (v : Array Value) (x : Gr) : Prop := ∃ (usizes : Option Addr) (csizes : Nat) (ublocks : Option Addr) (cblocks : Nat), v = #[.slice usizes x.sizes.length csizes, .int .i64 x.params, .int .i64 x.vars, .int .i64 x.slots, .slice ublocks x.blocks.length cblocks] ∧ x.wf ∧ IntsIs w B usizes x.sizes ∧ SlIs BlkIs 5 w B ublocks x.blocks
theorem GrKeeps : Keeps GrIs where
  stays := fun ⟨usizes, csizes, ublocks, cblocks, e, ok, hsizes, hblocks⟩ bel => ⟨usizes, csizes, ublocks, cblocks, e, ok, (hsizes.stays bel), (hblocks.stays BlkKeeps bel)⟩
  but := fun ⟨usizes, csizes, ublocks, cblocks, e, ok, hsizes, hblocks⟩ hg hb => ⟨usizes, csizes, ublocks, cblocks, e, ok, (hsizes.but hg hb), (hblocks.but BlkKeeps hg hb)⟩
  mono := fun ⟨usizes, csizes, ublocks, cblocks, e, ok, hsizes, hblocks⟩ hB => ⟨usizes, csizes, ublocks, cblocks, e, ok, (hsizes.mono hB), (hblocks.mono BlkKeeps hB)⟩
/-- How great it is, as the law counts it. -/
def Gr.sz (x : Gr) : Nat := x.sizes.length + (slSz Blk.sz x.blocks)
/-- Element i of a slice of these: where it lies, its cells, what it is. -/
theorem Gr_get {w : World} {B : Nat} {a' : Option Addr} {xs : List Gr} (h : SlIs GrIs 5 w B a' xs) (i : Nat) (hi : i < xs.length) :
    ∃ b' o' sizes params vars slots blocks usizes csizes ublocks cblocks, a' = some ⟨b', o', none⟩ ∧ B ≤ b' ∧ b' < w.heap.size ∧ xs[i] = ⟨sizes, params, vars, slots, blocks⟩ ∧ w.cell? ⟨b', o' + i * 5, none⟩ = some (.slice usizes sizes.length csizes) ∧ w.cell? ⟨b', o' + i * 5 + 1, none⟩ = some (.int .i64 params) ∧ w.cell? ⟨b', o' + i * 5 + 2, none⟩ = some (.int .i64 vars) ∧ w.cell? ⟨b', o' + i * 5 + 3, none⟩ = some (.int .i64 slots) ∧ w.cell? ⟨b', o' + i * 5 + 4, none⟩ = some (.slice ublocks blocks.length cblocks) ∧ GrIs w B #[.slice usizes sizes.length csizes, .int .i64 params, .int .i64 vars, .int .i64 slots, .slice ublocks blocks.length cblocks] ⟨sizes, params, vars, slots, blocks⟩ := by
  obtain ⟨b', o', v, ha, hB, hb, _, hc, hx⟩ := h.at i hi
  have hx0 := hx
  obtain ⟨usizes, csizes, ublocks, cblocks, e, ok, hsizes, hblocks⟩ := hx0
  obtain ⟨x, hxe⟩ : ∃ x, xs[i] = x := ⟨_, rfl⟩
  rw [hxe] at hx e
  subst e
  obtain ⟨sizes, params, vars, slots, blocks⟩ := x
  exact ⟨b', o', sizes, params, vars, slots, blocks, usizes, csizes, ublocks, cblocks, ha, hB, hb, hxe, hc 0 (by omega), hc 1 (by omega), hc 2 (by omega), hc 3 (by omega), hc 4 (by omega), hx⟩
end Go.Proofs.Ytobpcfelgobedab
