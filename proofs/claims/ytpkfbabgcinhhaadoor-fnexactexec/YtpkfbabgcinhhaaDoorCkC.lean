/- An Instr as its cells lie in memory, and slices of these (written by wip/mkshape.py). -/
import Derived.Test.YtpkfbabgcinhhaaDoorCkA
namespace Go.Proofs.YtpkfbabgcinhhaaDoor
open Go.ChangeShapes Go.WideShapes Go.ChangeAt Go.RowKit
structure Ins where
  op : Int
  d : Int
  a : Int
  b : Int
  c : Int
  n : Int
  t : ByteArray
instance : Inhabited Ins := ⟨⟨0, 0, 0, 0, 0, 0, ByteArray.empty⟩⟩
/-- Its numbers are of 64 bits. -/
def Ins.wf (x : Ins) : Prop := I64 x.op ∧ I64 x.d ∧ I64 x.a ∧ I64 x.b ∧ I64 x.c ∧ I64 x.n
def InsIs (_w : World) (_B : Nat) (v : Array Value) (x : Ins) : Prop := v = #[.int .i64 x.op, .int .i64 x.d, .int .i64 x.a, .int .i64 x.b, .int .i64 x.c, .int .i64 x.n, .string x.t] ∧ x.wf ∧ x.t.size ≤ maxLen
theorem InsKeeps : Keeps InsIs where
  stays := fun h _ => h
  but := fun h _ _ => h
  mono := fun h _ => h
/-- How great it is, as the law counts it. -/
def Ins.sz (x : Ins) : Nat := x.t.size
/-- Element i of a slice of these: where it lies, its cells, what it is. -/
theorem Ins_get {w : World} {B : Nat} {a' : Option Addr} {xs : List Ins} (h : SlIs InsIs 7 w B a' xs) (i : Nat) (hi : i < xs.length) :
    ∃ b' o' op d a b c n t, a' = some ⟨b', o', none⟩ ∧ B ≤ b' ∧ b' < w.heap.size ∧ xs[i] = ⟨op, d, a, b, c, n, t⟩ ∧ w.cell? ⟨b', o' + i * 7, none⟩ = some (.int .i64 op) ∧ w.cell? ⟨b', o' + i * 7 + 1, none⟩ = some (.int .i64 d) ∧ w.cell? ⟨b', o' + i * 7 + 2, none⟩ = some (.int .i64 a) ∧ w.cell? ⟨b', o' + i * 7 + 3, none⟩ = some (.int .i64 b) ∧ w.cell? ⟨b', o' + i * 7 + 4, none⟩ = some (.int .i64 c) ∧ w.cell? ⟨b', o' + i * 7 + 5, none⟩ = some (.int .i64 n) ∧ w.cell? ⟨b', o' + i * 7 + 6, none⟩ = some (.string t) ∧ InsIs w B #[.int .i64 op, .int .i64 d, .int .i64 a, .int .i64 b, .int .i64 c, .int .i64 n, .string t] ⟨op, d, a, b, c, n, t⟩ := by
  obtain ⟨b', o', v, ha, hB, hb, _, hc, hx⟩ := h.at i hi
  have hx0 := hx
  obtain ⟨e, ok, st⟩ := hx0
  obtain ⟨x, hxe⟩ : ∃ x, xs[i] = x := ⟨_, rfl⟩
  rw [hxe] at hx e
  subst e
  obtain ⟨op, d, a, b, c, n, t⟩ := x
  exact ⟨b', o', op, d, a, b, c, n, t, ha, hB, hb, hxe, hc 0 (by omega), hc 1 (by omega), hc 2 (by omega), hc 3 (by omega), hc 4 (by omega), hc 5 (by omega), hc 6 (by omega), hx⟩
end Go.Proofs.YtpkfbabgcinhhaaDoor

/- A Block as its cells lie in memory, and slices of these (written by wip/mkshape.py). -/
namespace Go.Proofs.YtpkfbabgcinhhaaDoor
open Go.ChangeShapes Go.WideShapes Go.ChangeAt Go.RowKit
structure Blk where
  code : List Ins
  jump : Int
  a : Int
  to : Int
  els : Int
instance : Inhabited Blk := ⟨⟨[], 0, 0, 0, 0⟩⟩
/-- Its numbers are of 64 bits. -/
def Blk.wf (x : Blk) : Prop := I64 x.jump ∧ I64 x.a ∧ I64 x.to ∧ I64 x.els
def BlkIs (w : World) (B : Nat) (v : Array Value) (x : Blk) : Prop := ∃ (ucode : Option Addr) (ccode : Nat), v = #[.slice ucode x.code.length ccode, .int .i64 x.jump, .int .i64 x.a, .int .i64 x.to, .int .i64 x.els] ∧ x.wf ∧ SlIs InsIs 7 w B ucode x.code
theorem BlkKeeps : Keeps BlkIs where
  stays := fun ⟨ucode, ccode, e, ok, hcode⟩ bel => ⟨ucode, ccode, e, ok, (hcode.stays InsKeeps bel)⟩
  but := fun ⟨ucode, ccode, e, ok, hcode⟩ hg hb => ⟨ucode, ccode, e, ok, (hcode.but InsKeeps hg hb)⟩
  mono := fun ⟨ucode, ccode, e, ok, hcode⟩ hB => ⟨ucode, ccode, e, ok, (hcode.mono InsKeeps hB)⟩
/-- How great it is, as the law counts it. -/
def Blk.sz (x : Blk) : Nat := (slSz Ins.sz x.code)
/-- Element i of a slice of these: where it lies, its cells, what it is. -/
theorem Blk_get {w : World} {B : Nat} {a' : Option Addr} {xs : List Blk} (h : SlIs BlkIs 5 w B a' xs) (i : Nat) (hi : i < xs.length) :
    ∃ b' o' code jump a to els ucode ccode, a' = some ⟨b', o', none⟩ ∧ B ≤ b' ∧ b' < w.heap.size ∧ xs[i] = ⟨code, jump, a, to, els⟩ ∧ w.cell? ⟨b', o' + i * 5, none⟩ = some (.slice ucode code.length ccode) ∧ w.cell? ⟨b', o' + i * 5 + 1, none⟩ = some (.int .i64 jump) ∧ w.cell? ⟨b', o' + i * 5 + 2, none⟩ = some (.int .i64 a) ∧ w.cell? ⟨b', o' + i * 5 + 3, none⟩ = some (.int .i64 to) ∧ w.cell? ⟨b', o' + i * 5 + 4, none⟩ = some (.int .i64 els) ∧ BlkIs w B #[.slice ucode code.length ccode, .int .i64 jump, .int .i64 a, .int .i64 to, .int .i64 els] ⟨code, jump, a, to, els⟩ := by
  obtain ⟨b', o', v, ha, hB, hb, _, hc, hx⟩ := h.at i hi
  have hx0 := hx
  obtain ⟨ucode, ccode, e, ok, hcode⟩ := hx0
  obtain ⟨x, hxe⟩ : ∃ x, xs[i] = x := ⟨_, rfl⟩
  rw [hxe] at hx e
  subst e
  obtain ⟨code, jump, a, to, els⟩ := x
  exact ⟨b', o', code, jump, a, to, els, ucode, ccode, ha, hB, hb, hxe, hc 0 (by omega), hc 1 (by omega), hc 2 (by omega), hc 3 (by omega), hc 4 (by omega), hx⟩
end Go.Proofs.YtpkfbabgcinhhaaDoor

/- A Graph as its cells lie in memory, and slices of these (written by wip/mkshape.py). -/
namespace Go.Proofs.YtpkfbabgcinhhaaDoor
open Go.ChangeShapes Go.WideShapes Go.ChangeAt Go.RowKit
structure Gr where
  sizes : List Int
  params : Int
  vars : Int
  slots : Int
  blocks : List Blk
instance : Inhabited Gr := ⟨⟨[], 0, 0, 0, []⟩⟩
/-- Its numbers are of 64 bits. -/
def Gr.wf (x : Gr) : Prop := I64 x.params ∧ I64 x.vars ∧ I64 x.slots
def GrIs (w : World) (B : Nat) (v : Array Value) (x : Gr) : Prop := ∃ (usizes : Option Addr) (csizes : Nat) (ublocks : Option Addr) (cblocks : Nat), v = #[.slice usizes x.sizes.length csizes, .int .i64 x.params, .int .i64 x.vars, .int .i64 x.slots, .slice ublocks x.blocks.length cblocks] ∧ x.wf ∧ IntsIs w B usizes x.sizes ∧ SlIs BlkIs 5 w B ublocks x.blocks
theorem GrKeeps : Keeps GrIs where
  stays := fun ⟨usizes, csizes, ublocks, cblocks, e, ok, hsizes, hblocks⟩ bel => ⟨usizes, csizes, ublocks, cblocks, e, ok, (hsizes.stays bel), (hblocks.stays BlkKeeps bel)⟩
  but := fun ⟨usizes, csizes, ublocks, cblocks, e, ok, hsizes, hblocks⟩ hg hb => ⟨usizes, csizes, ublocks, cblocks, e, ok, (hsizes.but hg hb), (hblocks.but BlkKeeps hg hb)⟩
  mono := fun ⟨usizes, csizes, ublocks, cblocks, e, ok, hsizes, hblocks⟩ hB => ⟨usizes, csizes, ublocks, cblocks, e, ok, (hsizes.mono hB), (hblocks.mono BlkKeeps hB)⟩
/-- How great it is, as the law counts it. -/
def Gr.sz (x : Gr) : Nat := x.sizes.length + (slSz Blk.sz x.blocks)
/-- Element i of a slice of these: where it lies, its cells, what it is. -/
theorem Gr_get {w : World} {B : Nat} {a' : Option Addr} {xs : List Gr} (h : SlIs GrIs 5 w B a' xs) (i : Nat) (hi : i < xs.length) :
    ∃ b' o' sizes params vars slots blocks usizes csizes ublocks cblocks, a' = some ⟨b', o', none⟩ ∧ B ≤ b' ∧ b' < w.heap.size ∧ xs[i] = ⟨sizes, params, vars, slots, blocks⟩ ∧ w.cell? ⟨b', o' + i * 5, none⟩ = some (.slice usizes sizes.length csizes) ∧ w.cell? ⟨b', o' + i * 5 + 1, none⟩ = some (.int .i64 params) ∧ w.cell? ⟨b', o' + i * 5 + 2, none⟩ = some (.int .i64 vars) ∧ w.cell? ⟨b', o' + i * 5 + 3, none⟩ = some (.int .i64 slots) ∧ w.cell? ⟨b', o' + i * 5 + 4, none⟩ = some (.slice ublocks blocks.length cblocks) ∧ GrIs w B #[.slice usizes sizes.length csizes, .int .i64 params, .int .i64 vars, .int .i64 slots, .slice ublocks blocks.length cblocks] ⟨sizes, params, vars, slots, blocks⟩ := by
  obtain ⟨b', o', v, ha, hB, hb, _, hc, hx⟩ := h.at i hi
  have hx0 := hx
  obtain ⟨usizes, csizes, ublocks, cblocks, e, ok, hsizes, hblocks⟩ := hx0
  obtain ⟨x, hxe⟩ : ∃ x, xs[i] = x := ⟨_, rfl⟩
  rw [hxe] at hx e
  subst e
  obtain ⟨sizes, params, vars, slots, blocks⟩ := x
  exact ⟨b', o', sizes, params, vars, slots, blocks, usizes, csizes, ublocks, cblocks, ha, hB, hb, hxe, hc 0 (by omega), hc 1 (by omega), hc 2 (by omega), hc 3 (by omega), hc 4 (by omega), hx⟩
end Go.Proofs.YtpkfbabgcinhhaaDoor
