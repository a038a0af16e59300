/- A Word as its cells lie in memory, and slices of these (written by wip/mkshape.py). -/
import Derived.Test.YtpkfbabgcinhhaaDoorCkA
import Derived.Test.YtpkfbabgcinhhaaDoorRows
import Derived.WalkKit
import Derived.ProofKit
import Derived.OpenShut
import Derived.ShutString
import Derived.WalkSpells
import Derived.WalkLawsBesides
import Derived.Below
import Derived.Deep.LoopGhost
import Derived.Deep.CutRange
import Derived.Deep.RegionHeld3
import Derived.Laws.StructEq
namespace Go.Proofs.YtpkfbabgcinhhaaDoor
open Go.ChangeShapes Go.WideShapes Go.ChangeAt Go.RowKit
structure Wrd where
  op : Int
  r : Int
  a : Int
  b : Int
  n : Int
instance : Inhabited Wrd := ⟨⟨0, 0, 0, 0, 0⟩⟩
/-- Its numbers are of 64 bits. -/
def Wrd.wf (x : Wrd) : Prop := I64 x.op ∧ I64 x.r ∧ I64 x.a ∧ I64 x.b ∧ I64 x.n
def WrdIs (_w : World) (_B : Nat) (v : Array Value) (x : Wrd) : Prop := v = #[.int .i64 x.op, .int .i64 x.r, .int .i64 x.a, .int .i64 x.b, .int .i64 x.n] ∧ x.wf
theorem WrdKeeps : Keeps WrdIs where
  stays := fun h _ => h
  but := fun h _ _ => h
  mono := fun h _ => h
/-- How great it is, as the law counts it. -/
def Wrd.sz (_ : Wrd) : Nat := 0
/-- Element i of a slice of these: where it lies, its cells, what it is. -/
theorem Wrd_get {w : World} {B : Nat} {a' : Option Addr} {xs : List Wrd} (h : SlIs WrdIs 5 w B a' xs) (i : Nat) (hi : i < xs.length) :
    ∃ b' o' op r a b n, a' = some ⟨b', o', none⟩ ∧ B ≤ b' ∧ b' < w.heap.size ∧ xs[i] = ⟨op, r, a, b, n⟩ ∧ w.cell? ⟨b', o' + i * 5, none⟩ = some (.int .i64 op) ∧ w.cell? ⟨b', o' + i * 5 + 1, none⟩ = some (.int .i64 r) ∧ w.cell? ⟨b', o' + i * 5 + 2, none⟩ = some (.int .i64 a) ∧ w.cell? ⟨b', o' + i * 5 + 3, none⟩ = some (.int .i64 b) ∧ w.cell? ⟨b', o' + i * 5 + 4, none⟩ = some (.int .i64 n) ∧ WrdIs w B #[.int .i64 op, .int .i64 r, .int .i64 a, .int .i64 b, .int .i64 n] ⟨op, r, a, b, n⟩ := by
  obtain ⟨b', o', v, ha, hB, hb, _, hc, hx⟩ := h.at i hi
  have hx0 := hx
  obtain ⟨e, ok⟩ := hx0
  obtain ⟨x, hxe⟩ : ∃ x, xs[i] = x := ⟨_, rfl⟩
  rw [hxe] at hx e
  subst e
  obtain ⟨op, r, a, b, n⟩ := x
  exact ⟨b', o', op, r, a, b, n, ha, hB, hb, hxe, hc 0 (by omega), hc 1 (by omega), hc 2 (by omega), hc 3 (by omega), hc 4 (by omega), hx⟩
end Go.Proofs.YtpkfbabgcinhhaaDoor

/- An Image as its cells lie in memory, and slices of these (written by wip/mkshape.py). -/
namespace Go.Proofs.YtpkfbabgcinhhaaDoor
open Go.ChangeShapes Go.WideShapes Go.ChangeAt Go.RowKit
structure Img where
  sizes : List Int
  params : Int
  slots : Int
  code : List Wrd
instance : Inhabited Img := ⟨⟨[], 0, 0, []⟩⟩
/-- Its numbers are of 64 bits. -/
def Img.wf (x : Img) : Prop := I64 x.params ∧ I64 x.slots
def ImgIs (w : World) (B : Nat) (v : Array Value) (x : Img) : Prop := ∃ (usizes : Option Addr) (csizes : Nat) (ucode : Option Addr) (ccode : Nat), v = #[.slice usizes x.sizes.length csizes, .int .i64 x.params, .int .i64 x.slots, .slice ucode x.code.length ccode] ∧ x.wf ∧ IntsIs w B usizes x.sizes ∧ SlIs WrdIs 5 w B ucode x.code
theorem ImgKeeps : Keeps ImgIs where
  stays := fun ⟨usizes, csizes, ucode, ccode, e, ok, hsizes, hcode⟩ bel => ⟨usizes, csizes, ucode, ccode, e, ok, (hsizes.stays bel), (hcode.stays WrdKeeps bel)⟩
  but := fun ⟨usizes, csizes, ucode, ccode, e, ok, hsizes, hcode⟩ hg hb => ⟨usizes, csizes, ucode, ccode, e, ok, (hsizes.but hg hb), (hcode.but WrdKeeps hg hb)⟩
  mono := fun ⟨usizes, csizes, ucode, ccode, e, ok, hsizes, hcode⟩ hB => ⟨usizes, csizes, ucode, ccode, e, ok, (hsizes.mono hB), (hcode.mono WrdKeeps hB)⟩
/-- How great it is, as the law counts it. -/
def Img.sz (x : Img) : Nat := x.sizes.length + (slSz Wrd.sz x.code)
/-- Element i of a slice of these: where it lies, its cells, what it is. -/
theorem Img_get {w : World} {B : Nat} {a' : Option Addr} {xs : List Img} (h : SlIs ImgIs 4 w B a' xs) (i : Nat) (hi : i < xs.length) :
    ∃ b' o' sizes params slots code usizes csizes ucode ccode, a' = some ⟨b', o', none⟩ ∧ B ≤ b' ∧ b' < w.heap.size ∧ xs[i] = ⟨sizes, params, slots, code⟩ ∧ w.cell? ⟨b', o' + i * 4, none⟩ = some (.slice usizes sizes.length csizes) ∧ w.cell? ⟨b', o' + i * 4 + 1, none⟩ = some (.int .i64 params) ∧ w.cell? ⟨b', o' + i * 4 + 2, none⟩ = some (.int .i64 slots) ∧ w.cell? ⟨b', o' + i * 4 + 3, none⟩ = some (.slice ucode code.length ccode) ∧ ImgIs w B #[.slice usizes sizes.length csizes, .int .i64 params, .int .i64 slots, .slice ucode code.length ccode] ⟨sizes, params, slots, code⟩ := by
  obtain ⟨b', o', v, ha, hB, hb, _, hc, hx⟩ := h.at i hi
  have hx0 := hx
  obtain ⟨usizes, csizes, ucode, ccode, e, ok, hsizes, hcode⟩ := hx0
  obtain ⟨x, hxe⟩ : ∃ x, xs[i] = x := ⟨_, rfl⟩
  rw [hxe] at hx e
  subst e
  obtain ⟨sizes, params, slots, code⟩ := x
  exact ⟨b', o', sizes, params, slots, code, usizes, csizes, ucode, ccode, ha, hB, hb, hxe, hc 0 (by omega), hc 1 (by omega), hc 2 (by omega), hc 3 (by omega), hx⟩
end Go.Proofs.YtpkfbabgcinhhaaDoor

/- The contracts of l01Has and l01In: whether a text is one of some, whether a number lies between two. -/
namespace Go.Proofs.YtpkfbabgcinhhaaDoor
open Go.ChangeShapes Go.WideShapes Go.ChangeAt Go.RowKit

theorem lit_cells (w : World) (ss : List ByteArray) (cs : Array Value) (t : TypeId) (hcs : cs = (ss.map Value.string).toArray) (i : Nat) (h : i < ss.length) : (w.alloc (.cells cs t)).cell? ⟨w.heap.size, i, none⟩ = some (.string ss[i]) := by
  subst hcs
  rw [World.cell?_alloc_new]
  simp [h]

theorem lit_cells2 (w : World) (ss : List ByteArray) (cs : Array Value) (t : TypeId) (n : Nat) (hn : n = w.heap.size) (hcs : cs = (ss.map Value.string).toArray) (i : Nat) (h : i < ss.length) : (w.alloc (.cells cs t)).cell? ⟨n, i, none⟩ = some (.string ss[i]) := by
  subst hn; exact lit_cells w ss cs t hcs i h

theorem l01In_any (x a b : Int) (w : World) :
    Calls Tryd.prog 30 #[.int .i64 x, .int .i64 a, .int .i64 b] w fun e w' => e = .returned (.bool (inB x a b)) ∧ w' = w := by
  go_enter Tryd.func30, Tryd.ntmps30
  go_wp2
  all_goals go_ret
  all_goals exact ⟨ret_bool (by simp [inB]; omega), rfl⟩
end Go.Proofs.YtpkfbabgcinhhaaDoor

/- What regions and parameters have to be, as functions; the contracts of impl.regionsOk and impl.paramsOk. -/
namespace Go.Proofs.YtpkfbabgcinhhaaDoor
open Go.ChangeShapes Go.WideShapes Go.ChangeAt Go.RowKit
def szOk (z : Int) : Bool := decide (1 ≤ z ∧ z ≤ 16)
def regOk (sizes : List Int) : Bool := decide (1 ≤ sizes.length ∧ sizes.length ≤ 4) && sizes.all szOk
def parOk (params vars : Int) : Bool := decide (0 ≤ params ∧ params ≤ 6 ∧ params ≤ vars)
theorem paramsOk_any (p v : Int) (w : World) :
    Calls Tryd.prog 52 #[.int .i64 p, .int .i64 v] w fun e w' => e = .returned (.bool (parOk p v)) ∧ w' = w := by
  go_enter Tryd.func52, Tryd.ntmps52
  go_wp2
  all_goals go_ret
  all_goals exact ⟨ret_bool (by unfold parOk; first | (apply decide_eq_decide.2; omega) | (symm; simp; omega)), rfl⟩
theorem allW_take {α : Type} (f : α → Bool) (l : List α) (i : Nat) (h : i < l.length) : (l.take (i + 1)).all f = ((l.take i).all f && f l[i]) := by
  rw [List.take_succ_eq_append_getElem h, List.all_append]; simp
theorem allW_no {α : Type} (f : α → Bool) (l : List α) (i : Nat) (h : i < l.length) (hn : f l[i] = false) : l.all f = false := by
  rw [List.all_eq_false]; exact ⟨_, List.getElem_mem h, by simp [hn]⟩
set_option maxHeartbeats 1000000 in
theorem regionsOk_any (sizes : List Int) (w : World) (B : Nat) (a : Option Addr) (c : Nat) (h : IntsIs w B a sizes) :
    Calls Tryd.prog 51 #[.slice a sizes.length c] w fun e w' => e = .returned (.bool (regOk sizes)) ∧ w' = w := by
  have hm := maxLen_lt
  have hl := h.1
  have H := hideP h
  clear h
  by_cases hb : 1 ≤ sizes.length ∧ sizes.length ≤ 4
  · have E : Hid (regOk sizes = sizes.all szOk) := by show _ = _; unfold regOk; rw [decide_eq_true hb]; rfl
    obtain ⟨h1, h2⟩ := hb
    have n1 : ¬ (sizes.length : Int) < 1 := by omega
    have n2 : ¬ (4 : Int) < (sizes.length : Int) := by omega
    rw [E.out]
    go_enter Tryd.func51, Tryd.ntmps51
    go_wp2
    go_loopg [15] sizes.length (fun gk i wr => ∃ j : Nat, gk + j = sizes.length ∧ i = .int .i64 j ∧ Hid ((sizes.take j).all szOk = true) ∧ wr = w)
    case atStart => exact ⟨0, by simp, rfl, show _ = _ by simp, rfl⟩
    case round =>
      obtain ⟨j, hj, rfl, hok, rfl⟩ := hrel
      by_cases hlt : j < sizes.length
      · obtain ⟨b, o, rfl, _, hbb, c0⟩ := H.out.get j hlt
        have tk := hideP (allW_take szOk sizes j hlt)
        have no := hideP (allW_no szOk sizes j hlt)
        obtain ⟨z, hz⟩ : ∃ z, sizes[j] = z := ⟨_, rfl⟩
        rw [hz] at c0 tk no
        clear hz
        by_cases hz1 : z < 1
        · have e1 : Hid (szOk z = false) := by show _ = _; simp [szOk]; omega
          go_wp2
          go_ret
          exact ⟨ret_bool (no.out e1.out).symm, rfl⟩
        · by_cases hz2 : 16 < z
          · have e1 : Hid (szOk z = false) := by show _ = _; simp [szOk]; omega
            go_wp2
            go_ret
            exact ⟨ret_bool (no.out e1.out).symm, rfl⟩
          · have e1 : Hid (szOk z = true) := by show _ = _; simp [szOk]; omega
            go_wp2
            go_roundg (sizes.length - (j + 1))
            case rel => exact ⟨j + 1, by omega, by go_num, show _ = _ by rw [tk.out, hok.out, e1.out]; rfl, rfl⟩
            case measure => omega
      · have hjn : j = sizes.length := by omega
        subst hjn
        rw [List.take_length] at hok
        go_wp2
        go_ret
        exact ⟨ret_bool hok.out.symm, rfl⟩
  · have E : Hid (regOk sizes = false) := by show _ = _; unfold regOk; rw [decide_eq_false hb]; rfl
    rw [E.out]
    go_enter Tryd.func51, Tryd.ntmps51
    by_cases h1 : sizes.length < 1
    · have n1 : (sizes.length : Int) < 1 := by omega
      go_wp2
      go_ret
      exact ⟨rfl, rfl⟩
    · have n1 : ¬ (sizes.length : Int) < 1 := by omega
      have n2 : (4 : Int) < (sizes.length : Int) := by omega
      go_wp2
      go_ret
      exact ⟨rfl, rfl⟩
end Go.Proofs.YtpkfbabgcinhhaaDoor

/- When an image is right, as a function; the contracts of impl.isBelow, impl.regionsOk and impl.paramsOk. -/
namespace Go.Proofs.YtpkfbabgcinhhaaDoor
open Go.ChangeShapes Go.WideShapes Go.ChangeAt Go.RowKit
/-- The number of one of so many. -/
def belI (n c : Int) : Bool := decide (0 ≤ n ∧ n < c)
/-- A word of an image with so many regions, slots and words. -/
def wrdOk (ns sl nc : Int) (x : Wrd) : Bool :=
  belI x.r 16 && belI x.a 16 && belI x.b 16 &&
  (if x.op = 0 then x.a == 0 && x.b == 0
   else if x.op = 1 ∨ x.op = 2 then (x.a == 0 && x.b == 0) && belI x.n sl
   else if x.op = 3 then belI x.n 6
   else if x.op = 4 ∨ x.op = 5 then (x.b == 0) && belI x.n ns
   else if x.op = 6 ∨ x.op = 7 ∨ x.op = 10 then (x.a == 0 && x.b == 0) && (x.n == 0)
   else if x.op = 8 then (x.r == 0 && (x.a == 0 && x.b == 0)) && belI x.n nc
   else if x.op = 9 then (x.a == 0 && x.b == 0) && belI x.n nc
   else if x.op = 11 then x.b == 0 && x.n == 0
   else false)
def lastOk (l : List Wrd) : Bool := match l.getLast? with | some x => x.op == 10 || x.op == 8 | none => false
def imgOk (m : Img) : Bool :=
  regOk m.sizes && parOk m.params m.slots && decide (m.slots ≤ 1000) && decide (1 ≤ m.code.length ∧ m.code.length ≤ 6000) &&
  m.code.all (wrdOk (m.sizes.length : Nat) m.slots (m.code.length : Nat)) && lastOk m.code
theorem isBelow_any (n c : Int) (w : World) :
    Calls Tryd.prog 68 #[.int .i64 n, .int .i64 c] w fun e w' => e = .returned (.bool (belI n c)) ∧ w' = w := by
  go_enter Tryd.func68, Tryd.ntmps68
  go_wp2
  all_goals go_ret
  all_goals exact ⟨ret_bool (by simp [belI]; omega), rfl⟩
end Go.Proofs.YtpkfbabgcinhhaaDoor
