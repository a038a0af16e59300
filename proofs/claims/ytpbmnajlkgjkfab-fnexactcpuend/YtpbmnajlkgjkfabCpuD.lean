/- A Cpu as its cells lie in memory, and slices of these (written by wip/mkshape.py). -/
import Derived.Test.YtpbmnajlkgjkfabIntSD
namespace Go.Proofs.Ytpbmnajlkgjkfab
open Go.ChangeShapes Go.WideShapes Go.ChangeAt Go.RowKit
structure Cp where
  pos : Int
  regs : List Int
  slots : List Int
  mem : List Rw
  input : List Int
  out : List Int
  code : Int
  over : Bool
  val : Int
instance : Inhabited Cp := ⟨⟨0, [], [], [], [], [], 0, false, 0⟩⟩
/-- Its numbers are of 64 bits. -/
def Cp.wf (x : Cp) : Prop := I64 x.pos ∧ I64 x.code ∧ I64 x.val
def CpIs (w : World) (B : Nat) (v : Array Value) (x : Cp) : Prop := ∃ (uregs : Option Addr) (cregs : Nat) (uslots : Option Addr) (cslots : Nat) (umem : Option Addr) (cmem : Nat) (uinput : Option Addr) (cinput : Nat) (uout : Option Addr) (cout : Nat), v = #[.int .i64 x.pos, .slice uregs x.regs.length cregs, .slice uslots x.slots.length cslots, .slice umem x.mem.length cmem, .slice uinput x.input.length cinput, .slice uout x.out.length cout, .int .i64 x.code, .bool x.over, .int .i64 x.val] ∧ x.wf ∧ IntsIs w B uregs x.regs ∧ IntsIs w B uslots x.slots ∧ SlIs RwIs 1 w B umem x.mem ∧ IntsIs w B uinput x.input ∧ IntsIs w B uout x.out
theorem CpKeeps : Keeps CpIs where
  stays := fun ⟨uregs, cregs, uslots, cslots, umem, cmem, uinput, cinput, uout, cout, e, ok, hregs, hslots, hmem, hinput, hout⟩ bel => ⟨uregs, cregs, uslots, cslots, umem, cmem, uinput, cinput, uout, cout, e, ok, (hregs.stays bel), (hslots.stays bel), (hmem.stays RwKeeps bel), (hinput.stays bel), (hout.stays bel)⟩
  but := fun ⟨uregs, cregs, uslots, cslots, umem, cmem, uinput, cinput, uout, cout, e, ok, hregs, hslots, hmem, hinput, hout⟩ hg hb => ⟨uregs, cregs, uslots, cslots, umem, cmem, uinput, cinput, uout, cout, e, ok, (hregs.but hg hb), (hslots.but hg hb), (hmem.but RwKeeps hg hb), (hinput.but hg hb), (hout.but hg hb)⟩
  mono := fun ⟨uregs, cregs, uslots, cslots, umem, cmem, uinput, cinput, uout, cout, e, ok, hregs, hslots, hmem, hinput, hout⟩ hB => ⟨uregs, cregs, uslots, cslots, umem, cmem, uinput, cinput, uout, cout, e, ok, (hregs.mono hB), (hslots.mono hB), (hmem.mono RwKeeps hB), (hinput.mono hB), (hout.mono hB)⟩
/-- How great it is, as the law counts it. -/
def Cp.sz (x : Cp) : Nat := x.regs.length + x.slots.length + (slSz Rw.sz x.mem) + x.input.length + x.out.length
/-- Element i of a slice of these: where it lies, its cells, what it is. -/
theorem Cp_get {w : World} {B : Nat} {a' : Option Addr} {xs : List Cp} (h : SlIs CpIs 9 w B a' xs) (i : Nat) (hi : i < xs.length) :
    ∃ b' o' pos regs slots mem input out code over val uregs cregs uslots cslots umem cmem uinput cinput uout cout, a' = some ⟨b', o', none⟩ ∧ B ≤ b' ∧ b' < w.heap.size ∧ xs[i] = ⟨pos, regs, slots, mem, input, out, code, over, val⟩ ∧ w.cell? ⟨b', o' + i * 9, none⟩ = some (.int .i64 pos) ∧ w.cell? ⟨b', o' + i * 9 + 1, none⟩ = some (.slice uregs regs.length cregs) ∧ w.cell? ⟨b', o' + i * 9 + 2, none⟩ = some (.slice uslots slots.length cslots) ∧ w.cell? ⟨b', o' + i * 9 + 3, none⟩ = some (.slice umem mem.length cmem) ∧ w.cell? ⟨b', o' + i * 9 + 4, none⟩ = some (.slice uinput input.length cinput) ∧ w.cell? ⟨b', o' + i * 9 + 5, none⟩ = some (.slice uout out.length cout) ∧ w.cell? ⟨b', o' + i * 9 + 6, none⟩ = some (.int .i64 code) ∧ w.cell? ⟨b', o' + i * 9 + 7, none⟩ = some (.bool over) ∧ w.cell? ⟨b', o' + i * 9 + 8, none⟩ = some (.int .i64 val) ∧ CpIs w B #[.int .i64 pos, .slice uregs regs.length cregs, .slice uslots slots.length cslots, .slice umem mem.length cmem, .slice uinput input.length cinput, .slice uout out.length cout, .int .i64 code, .bool over, .int .i64 val] ⟨pos, regs, slots, mem, input, out, code, over, val⟩ := by
  obtain ⟨b', o', v, ha, hB, hb, _, hc, hx⟩ := h.at i hi
  have hx0 := hx
  obtain ⟨uregs, cregs, uslots, cslots, umem, cmem, uinput, cinput, uout, cout, e, ok, hregs, hslots, hmem, hinput, hout⟩ := hx0
  obtain ⟨x, hxe⟩ : ∃ x, xs[i] = x := ⟨_, rfl⟩
  rw [hxe] at hx e
  subst e
  obtain ⟨pos, regs, slots, mem, input, out, code, over, val⟩ := x
  exact ⟨b', o', pos, regs, slots, mem, input, out, code, over, val, uregs, cregs, uslots, cslots, umem, cmem, uinput, cinput, uout, cout, ha, hB, hb, hxe, hc 0 (by omega), hc 1 (by omega), hc 2 (by omega), hc 3 (by omega), hc 4 (by omega), hc 5 (by omega), hc 6 (by omega), hc 7 (by omega), hc 8 (by omega), hx⟩
end Go.Proofs.Ytpbmnajlkgjkfab
