/- An Image as its cells lie in memory, and slices of these (written by wip/mkshape.py). -/
import Derived.Test.YtheholgdfmipbaaDoorWordD
namespace Go.Proofs.YtheholgdfmipbaaDoor
open Go.ChangeShapes Go.WideShapes Go.ChangeAt Go.RowKit
structure Img where
  sizes : List Int
  params : Int
  slots : Int
  code : List Wrd
instance : Inhabited Img := ⟨⟨[], 0, 0, []⟩⟩
/-- Its numbers are of 64 bits. -/
def Img.wf (x : Img) : Prop := I64 x.params ∧ I64 x.slots
def ImgIs (w : World) (B : Nat) (v : Array Value) (x : Img) : Prop := ∃ (usizes : Option Addr) (csizes : Nat) (ucode : Option Addr) (ccode : Nat), v = #[.slice usizes x.sizes.length csizes, .int .i64 x.params, .int .i64 x.slots, .slice ucode x.code.length ccode] ∧ x.wf ∧ IntsIs w B usizes x.sizes ∧ SlIs WrdIs 5 w B ucode x.code
theorem ImgKeeps : Keeps ImgIs where
  stays := fun ⟨usizes, csizes, ucode, ccode, e, ok, hsizes, hcode⟩ bel => ⟨usizes, csizes, ucode, ccode, e, ok, (hsizes.stays bel), (hcode.stays WrdKeeps bel)⟩
  but := fun ⟨usizes, csizes, ucode, ccode, e, ok, hsizes, hcode⟩ hg hb => ⟨usizes, csizes, ucode, ccode, e, ok, (hsizes.but hg hb), (hcode.but WrdKeeps hg hb)⟩
  mono := fun ⟨usizes, csizes, ucode, ccode, e, ok, hsizes, hcode⟩ hB => ⟨usizes, csizes, ucode, ccode, e, ok, (hsizes.mono hB), (hcode.mono WrdKeeps hB)⟩
/-- How great it is, as the law counts it. -/
def Img.sz (x : Img) : Nat := x.sizes.length + (slSz Wrd.sz x.code)
/-- Element i of a slice of these: where it lies, its cells, what it is. -/
theorem Img_get {w : World} {B : Nat} {a' : Option Addr} {xs : List Img} (h : SlIs ImgIs 4 w B a' xs) (i : Nat) (hi : i < xs.length) :
    ∃ b' o' sizes params slots code usizes csizes ucode ccode, a' = some ⟨b', o', none⟩ ∧ B ≤ b' ∧ b' < w.heap.size ∧ xs[i] = ⟨sizes, params, slots, code⟩ ∧ w.cell? ⟨b', o' + i * 4, none⟩ = some (.slice usizes sizes.length csizes) ∧ w.cell? ⟨b', o' + i * 4 + 1, none⟩ = some (.int .i64 params) ∧ w.cell? ⟨b', o' + i * 4 + 2, none⟩ = some (.int .i64 slots) ∧ w.cell? ⟨b', o' + i * 4 + 3, none⟩ = some (.slice ucode code.length ccode) ∧ ImgIs w B #[.slice usizes sizes.length csizes, .int .i64 params, .int .i64 slots, .slice ucode code.length ccode] ⟨sizes, params, slots, code⟩ := by
  obtain ⟨b', o', v, ha, hB, hb, _, hc, hx⟩ := h.at i hi
  have hx0 := hx
  obtain ⟨usizes, csizes, ucode, ccode, e, ok, hsizes, hcode⟩ := hx0
  obtain ⟨x, hxe⟩ : ∃ x, xs[i] = x := ⟨_, rfl⟩
  rw [hxe] at hx e
  subst e
  obtain ⟨sizes, params, slots, code⟩ := x
  exact ⟨b', o', sizes, params, slots, code, usizes, csizes, ucode, ccode, ha, hB, hb, hxe, hc 0 (by omega), hc 1 (by omega), hc 2 (by omega), hc 3 (by omega), hx⟩
end Go.Proofs.YtheholgdfmipbaaDoor
