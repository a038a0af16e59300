/- Out of earlier texts, what is wanted here (written by wip/mklite.py). -/
import Derived.Test.YtpkfbabgcinhhaaDoorCkE
import Derived.Maps.RangeWalk
import Derived.Maps.OwnSet
import Derived.Maps.OwnOps
import Derived.DeepKeys4
import Derived.Deep.LoopGhost
import Derived.Deep.CutRange
import Derived.Deep.RegionHeld3
namespace Go.Proofs.YtpkfbabgcinhhaaDoor
open Go.ChangeShapes Go.WideShapes Go.ChangeAt Go.RowKit Go.Maps
theorem But.ofG {b : Nat} {w w' : World} (h : w.grownBy w' (some b)) : But b w w' := ⟨h.os, h.tape, h.output, h.size, fun k hk hne => h.block k hk (by simpa using hne)⟩
theorem lawI : Keyed Tryd.prog 3 := int_keyed Tryd.underlying3
def heldV (v : Value) : Option (DataW Value × List MemPlace) := some (.held v, [])
theorem emKey {s : Int} (h : I64 s) : keyOf Tryd.prog 3 (.int .i64 s) = some (.int .i64 s) := keyOf_int_mk Tryd.underlying3 (WalkArith.wf_i64 h)
theorem emLit {s : Int} (h : I64 s) : WideAt.IsKeyLit (.int .i64 s) := lawI.key (emKey h)
theorem emNe {a b : Int} (h : a ≠ b) : (Lit.int .i64 a : Lit) ≠ .int .i64 b := fun e => h (by simpa using e)
theorem emZero (w : World) : (zeroValue 22).run Tryd.prog w = .ok (.slice none 0 0) w := by kernel_rfl
def ReadsE (D : DataW Value) (E : Int → Option Value) : Prop := ∀ s, I64 s → Maps.has D (.int .i64 s) = (E s).isSome ∧ ∀ v, E s = some v → ∀ z, D.atKey (.int .i64 s) z = .held v
/-- The map in block b is this function. -/
def EmAt (w : World) (b n : Nat) (E : Int → Option Value) : Prop := (∀ s v, E s = some v → I64 s) ∧ ∃ D : DataW Value, w.ownsMap Tryd.prog 3 heldV b n D ∧ ReadsE D E
section
variable {w w' : World} {b n : Nat} {E : Int → Option Value}
theorem EmAt.made (w : World) : EmAt (w.alloc (.map #[] 0)) w.heap.size 0 (fun _ => none) := ⟨fun _ _ e => (by cases e), _, World.ownsMap_made _ _ _ _, fun s _ => ⟨by simp [Maps.has], fun _ e => (by cases e)⟩⟩
theorem EmAt.lt (h : EmAt w b n E) : b < w.heap.size := let ⟨_, _, h1, _⟩ := h; h1.lt
theorem EmAt.isMap (h : EmAt w b n E) : ∃ es clock, w.heap[b]? = some (.map es clock) := let ⟨_, _, ⟨es, clock, h1, _⟩, _⟩ := h; ⟨es, clock, h1⟩
theorem EmAt.blk (h : EmAt w b n E) (hb : w'.heap[b]? = w.heap[b]?) : EmAt w' b n E := let ⟨ok, D, ⟨es, clock, h1, h2⟩, h3⟩ := h; ⟨ok, D, ⟨es, clock, hb.trans h1, h2⟩, h3⟩
theorem EmAt.stays (h : EmAt w b n E) (bel : Below w.heap.size w w') : EmAt w' b n E := h.blk (bel.block b h.lt)
/-- A look into it. -/
theorem EmAt.look (h : EmAt w b n E) {T : TypeId} (ht : Tryd.prog.underlying T = some (.map 3 22)) {s : Int} (hs : I64 s) : (Instr.lookup T (.map (some b)) (.int .i64 s) false).run Tryd.prog w = .ok ((E s).getD (.slice none 0 0)) w := by
  obtain ⟨_, D, h1, h2⟩ := h
  obtain ⟨v, ps, hr, hv⟩ := h1.lookup lawI ht (emZero w) (zd := .held (.slice none 0 0)) (zp := []) rfl (emKey hs)
  have e : v = (E s).getD (.slice none 0 0) := by
    unfold heldV at hv
    cases he : E s with
    | none =>
      have hf : Maps.has D (.int .i64 s) = false := by rw [(h2 s hs).1, he]; rfl
      rw [Maps.atKey_of_not_has hf] at hv
      simp at hv
      simpa using hv.1
    | some u =>
      rw [(h2 s hs).2 u he] at hv
      simp at hv
      simpa using hv.1
  rw [hr, e]
/-- One put into it. -/
theorem EmAt.put (h : EmAt w b n E) {T : TypeId} (ht : Tryd.prog.underlying T = some (.map 3 22)) {s : Int} (hs : I64 s) (v : Value) (hn : n < 1000000) : ∃ w', (Instr.mapUpdate T (.map (some b)) (.int .i64 s) v).run Tryd.prog w = .ok () w' ∧ EmAt w' b (n + 1) (fun z => if z = s then some v else E z) ∧ But b w w' := by
  obtain ⟨ok, D, h1, h2⟩ := h
  obtain ⟨w', hr, hw', hg⟩ := h1.update lawI ht (by unfold maxLen; omega) (emKey hs) (d := .held v) (ps := []) (val := v) rfl
  refine ⟨w', hr, ⟨fun z u e => ?_, _, hw', fun z hz => ?_⟩, But.ofG hg⟩
  · by_cases ez : z = s
    · rw [ez]; exact hs
    · simp only [if_neg ez] at e; exact ok z u e
  · by_cases ez : z = s
    · subst ez
      refine ⟨by rw [Maps.has_put_same h1.isMap (emLit hs)]; simp, fun u e zd => ?_⟩
      simp only [if_true] at e
      cases e
      exact Maps.atKey_put_same h1.isMap (emLit hs) _ _
    · have hne := emNe ez
      refine ⟨by rw [Maps.has_put_other hne, (h2 z hz).1]; simp [ez], fun u e zd => ?_⟩
      simp only [if_neg ez] at e
      rw [Maps.atKey_put_other hne]
      exact (h2 z hz).2 u e zd
end
end Go.Proofs.YtpkfbabgcinhhaaDoor

/- The program's machine as it lies in memory: what stays when one of its parts is written. -/
namespace Go.Proofs.YtpkfbabgcinhhaaDoor
open Go.ChangeShapes Go.WideShapes Go.ChangeAt Go.RowKit
/-- The method that does words of this Op. -/
def kindF : Nat → Nat
  | 0 => 54
  | 1 => 55
  | 2 => 56
  | 3 => 57
  | 4 => 58
  | 5 => 59
  | 6 => 60
  | 7 => 61
  | 8 => 62
  | 9 => 63
  | 10 => 64
  | _ => 65
def kindV (b i : Nat) : Value := .func (.func (kindF i)) #[.pointer (some ⟨b, 0, none⟩)] #[]
structure PLay where
  b : Nat
  v : Nat
  cv : Nat
  mp : Nat
  mb : Nat → Nat
  mc : Nat → Nat
  uw : Option Addr
  cw : Nat
  /-- Blocks of others that the machine leaves alone, and what stands there. -/
  hs : Nat → Prop
  ho : Nat → Obj
/-- The machine's own cells. -/
def BoxIs (L : PLay) (n : Nat) (ui : Option Addr) (ci : Nat) (vo : Value) (w : World) (s : Mch) (g : List Int) (k : Int) : Prop :=
  ∃ cs : Array Value, w.heap[L.b]? = some (.cells cs 64 (0, 0)) ∧ cs.size = 35 ∧ cs[0]? = some (.slice (some ⟨L.v, 0, none⟩) s.vars.length L.cv) ∧ cs[1]? = some (.map (some L.mp)) ∧ cs[2]? = some (.slice ui s.input.length ci) ∧ cs[3]? = some (.int .i64 s.fuel) ∧ cs[4]? = some vo ∧ cs[5]? = some (.slice L.uw n L.cw) ∧ cs[22]? = some (.int .i64 k) ∧ (∀ (i : Nat) (h : i < g.length), cs[6 + i]? = some (.int .i64 g[i])) ∧ ∀ (i : Nat), i < 12 → cs[23 + i]? = some (kindV L.b i)
section
variable {w0 : World} {L : PLay} {n : Nat} {ui : Option Addr} {ci : Nat} {vo : Value} {w w' : World} {s : Mch} {g : List Int} {k : Int}
theorem BoxIs.blk (h : BoxIs L n ui ci vo w s g k) : ∃ cs : Array Value, w.heap[L.b]? = some (.cells cs 64 (0, 0)) ∧ cs.size = 35 := let ⟨cs, h1, h2, _⟩ := h; ⟨cs, h1, h2⟩
theorem BoxIs.lt (h : BoxIs L n ui ci vo w s g k) : L.b < w.heap.size := let ⟨_, h1, _⟩ := h; (Array.getElem?_eq_some_iff.1 h1).1
theorem BoxIs.keep (h : BoxIs L n ui ci vo w s g k) (e : w'.heap[L.b]? = w.heap[L.b]?) : BoxIs L n ui ci vo w' s g k := let ⟨cs, h1, h2⟩ := h; ⟨cs, e.trans h1, h2⟩
theorem set_at {cs : Array Value} {i j : Nat} {v u : Value} (h : cs[j]? = some u) (hne : i ≠ j) : (cs.setIfInBounds i v)[j]? = some u := by
  rw [Array.getElem?_setIfInBounds, if_neg hne]; exact h
theorem set_here {cs : Array Value} {i : Nat} {v : Value} (h : i < cs.size) : (cs.setIfInBounds i v)[i]? = some v := by
  rw [Array.getElem?_setIfInBounds, if_pos rfl, if_pos h]
theorem BoxIs.reg (h : BoxIs L n ui ci vo w s g k) (j : Nat) (hj : j < 16) (z : Int) : BoxIs L n ui ci vo (w.setCell ⟨L.b, 6 + j, none⟩ (.int .i64 z)) s (g.set j z) k := by
  obtain ⟨cs, h1, h2, c0, c1, c2, c3, c4, c5, c6, c7, c8⟩ := h
  refine ⟨_, heap_setCell_same w L.b (6 + j) cs _ _ h1, by simpa using h2, set_at c0 (by omega), set_at c1 (by omega), set_at c2 (by omega), set_at c3 (by omega), set_at c4 (by omega), set_at c5 (by omega), set_at c6 (by omega), fun i hi => ?_, fun i hi => set_at (c8 i hi) (by omega)⟩
  rw [List.length_set] at hi
  by_cases e : j = i
  · subst e; rw [List.getElem_set_self]; exact set_here (by omega)
  · rw [List.getElem_set_ne e]; exact set_at (c7 i hi) (by omega)
theorem BoxIs.fuel (h : BoxIs L n ui ci vo w s g k) (hg : g.length = 16) (z : Int) : BoxIs L n ui ci vo (w.setCell ⟨L.b, 3, none⟩ (.int .i64 z)) { s with fuel := z } g k := by
  obtain ⟨cs, h1, h2, c0, c1, c2, c3, c4, c5, c6, c7, c8⟩ := h
  exact ⟨_, heap_setCell_same w L.b 3 cs _ _ h1, by simpa using h2, set_at c0 (by omega), set_at c1 (by omega), set_at c2 (by omega), set_here (by omega), set_at c4 (by omega), set_at c5 (by omega), set_at c6 (by omega), fun i hi => set_at (c7 i hi) (by omega), fun i hi => set_at (c8 i hi) (by omega)⟩
theorem BoxIs.pos (h : BoxIs L n ui ci vo w s g k) (hg : g.length = 16) (z : Int) : BoxIs L n ui ci vo (w.setCell ⟨L.b, 22, none⟩ (.int .i64 z)) s g z := by
  obtain ⟨cs, h1, h2, c0, c1, c2, c3, c4, c5, c6, c7, c8⟩ := h
  exact ⟨_, heap_setCell_same w L.b 22 cs _ _ h1, by simpa using h2, set_at c0 (by omega), set_at c1 (by omega), set_at c2 (by omega), set_at c3 (by omega), set_at c4 (by omega), set_at c5 (by omega), set_here (by omega), fun i hi => set_at (c7 i hi) (by omega), fun i hi => set_at (c8 i hi) (by omega)⟩
theorem BoxIs.inp (h : BoxIs L n ui ci vo w s g k) (hg : g.length = 16) (u : Option Addr) (l : List Int) (c : Nat) : BoxIs L n u c vo (w.setCell ⟨L.b, 2, none⟩ (.slice u l.length c)) { s with input := l } g k := by
  obtain ⟨cs, h1, h2, c0, c1, c2, c3, c4, c5, c6, c7, c8⟩ := h
  exact ⟨_, heap_setCell_same w L.b 2 cs _ _ h1, by simpa using h2, set_at c0 (by omega), set_at c1 (by omega), set_here (by omega), set_at c3 (by omega), set_at c4 (by omega), set_at c5 (by omega), set_at c6 (by omega), fun i hi => set_at (c7 i hi) (by omega), fun i hi => set_at (c8 i hi) (by omega)⟩
theorem BoxIs.out (h : BoxIs L n ui ci vo w s g k) (hg : g.length = 16) (u : Value) (l : List Int) : BoxIs L n ui ci u (w.setCell ⟨L.b, 4, none⟩ u) { s with out := l } g k := by
  obtain ⟨cs, h1, h2, c0, c1, c2, c3, c4, c5, c6, c7, c8⟩ := h
  exact ⟨_, heap_setCell_same w L.b 4 cs _ _ h1, by simpa using h2, set_at c0 (by omega), set_at c1 (by omega), set_at c2 (by omega), set_at c3 (by omega), set_here (by omega), set_at c5 (by omega), set_at c6 (by omega), fun i hi => set_at (c7 i hi) (by omega), fun i hi => set_at (c8 i hi) (by omega)⟩
/-- The region's slice, by its number. -/
def regE (L : PLay) (m : List (List Int)) : Int → Option Value := fun z => if 0 ≤ z ∧ z < (m.length : Nat) then some (.slice (some ⟨L.mb z.toNat, 0, none⟩) (m.getD z.toNat []).length (L.mc z.toNat)) else none
/-- The machine with this run, these registers, at this word; all that it may write lies from w0's end on. -/
structure PAt (w0 : World) (L : PLay) (code : List Wrd) (ui : Option Addr) (ci : Nat) (vo : Value) (w : World) (s : Mch) (g : List Int) (k : Int) : Prop where
  box : BoxIs L code.length ui ci vo w s g k
  g16 : g.length = 16
  vars : RowZ w L.v s.vars
  rows : ∀ i (h : i < s.mem.length), RowZ w (L.mb i) s.mem[i]
  map : ∃ n, EmAt w L.mp n (regE L s.mem)
  bel : Below w0.heap.size w0 w
  code : SlIs WrdIs 5 w0 0 L.uw code
  inp : IntsIs w0 0 ui s.input
  icap : s.input.length ≤ ci ∧ ci ≤ maxLen
  alu : ∀ q, q < 6 → w0.cell? ⟨1, q, none⟩ = some (.string ⟨(aluS q).toArray⟩)
  out : OwnN IntE w w0.heap.size vo s.out
  lowB : w0.heap.size ≤ L.b
  lowV : w0.heap.size ≤ L.v
  lowP : w0.heap.size ≤ L.mp
  lowI : ∀ i, i < s.mem.length → w0.heap.size ≤ L.mb i
  ri : ∀ i, i < s.mem.length → L.mb i ≠ L.v
  ij : ∀ i j, i < s.mem.length → j < s.mem.length → L.mb i = L.mb j → i = j
  oo : ∀ o, vo.ownBlock = some o → o ≠ L.v ∧ ∀ i, i < s.mem.length → o ≠ L.mb i
  hold : ∀ q, L.hs q → w.heap[q]? = some (L.ho q) ∧ q ≠ L.b ∧ q ≠ L.v ∧ vo.ownBlock ≠ some q ∧ ∀ i, i < s.mem.length → q ≠ L.mb i
variable {code : List Wrd}
theorem PAt.lt (h : PAt w0 L code ui ci vo w s g k) : L.b < w.heap.size := h.box.lt
theorem PAt.low (h : PAt w0 L code ui ci vo w s g k) : w0.heap.size ≤ w.heap.size := h.bel.size
theorem lt_some {w : World} {q : Nat} {o : Obj} (h : w.heap[q]? = some o) : q < w.heap.size := (Array.getElem?_eq_some_iff.1 h).1
/-- What a call leaves as it was. -/
theorem PAt.stays (h : PAt w0 L code ui ci vo w s g k) (b : Below w.heap.size w w') : PAt w0 L code ui ci vo w' s g k :=
  { box := h.box.keep (b.block _ h.box.lt), g16 := h.g16, vars := h.vars.keep (b.block _ h.vars.lt), rows := fun i hi => (h.rows i hi).keep (b.block _ (h.rows i hi).lt), map := let ⟨n, hn⟩ := h.map; ⟨n, hn.blk (b.block _ hn.lt)⟩
    bel := h.bel.trans (b.mono h.low), code := h.code, inp := h.inp, icap := h.icap, alu := h.alu, out := h.out.keep (fun g _ hg => b.block g hg), lowB := h.lowB, lowV := h.lowV, lowP := h.lowP, lowI := h.lowI, ri := h.ri, ij := h.ij, oo := h.oo
    hold := fun q hq => let ⟨a, r⟩ := h.hold q hq; ⟨(b.block _ (lt_some a)).trans a, r⟩ }
/-- Its own cells are written. -/
theorem PAt.setBox (h : PAt w0 L code ui ci vo w s g k) {w2 : World} (kb : But L.b w w2) {s2 : Mch} {ui2 : Option Addr} {ci2 : Nat} {g2 : List Int} {k2 : Int} (hb : BoxIs L code.length ui2 ci2 vo w2 s2 g2 k2) (em : s2.mem = s.mem) (ev : s2.vars = s.vars) (eo : s2.out = s.out) (hi : IntsIs w0 0 ui2 s2.input) (hc : s2.input.length ≤ ci2 ∧ ci2 ≤ maxLen) (hg : g2.length = 16) :
    PAt w0 L code ui2 ci2 vo w2 s2 g2 k2 := by
  obtain ⟨cs, hx, _⟩ := h.box.blk
  obtain ⟨mem2, vars2, input2, fuel2, code2, over2, val2, out2⟩ := s2
  simp only at em ev eo hi hc
  subst em ev eo
  have nv := h.vars.ne hx (by decide)
  have on : vo.ownBlock ≠ some L.b := fun e => by
    obtain ⟨cur, hh⟩ := h.out.block e
    exact absurd rfl (typ_ne2 hh hx (by decide))
  obtain ⟨n, hn⟩ := h.map
  have nm : L.mp ≠ L.b := fun e => by obtain ⟨es, cl, h1⟩ := hn.isMap; rw [e, hx] at h1; cases h1
  exact
    { box := hb, g16 := hg
      vars := h.vars.keep (kb.block _ h.vars.lt nv)
      rows := fun i hi => (h.rows i hi).keep (kb.block _ (h.rows i hi).lt ((h.rows i hi).ne hx (by decide)))
      map := ⟨n, hn.blk (kb.block _ hn.lt nm)⟩
      bel := h.bel.trans (kb.below h.lowB h.low), code := h.code, inp := hi, icap := hc, alu := h.alu
      out := h.out.butB kb on
      lowB := h.lowB, lowV := h.lowV, lowP := h.lowP, lowI := h.lowI, ri := h.ri, ij := h.ij, oo := h.oo
      hold := fun q hq => let ⟨a, b, r⟩ := h.hold q hq; ⟨(kb.block _ (lt_some a) b).trans a, b, r⟩ }
theorem PAt.reg (h : PAt w0 L code ui ci vo w s g k) (j : Nat) (hj : j < 16) (z : Int) : PAt w0 L code ui ci vo (w.setCell ⟨L.b, 6 + j, none⟩ (.int .i64 z)) s (g.set j z) k :=
  h.setBox ((But.refl _ _).set _ _) (h.box.reg j hj z) rfl rfl rfl h.inp h.icap (by rw [List.length_set]; exact h.g16)
theorem PAt.fuel (h : PAt w0 L code ui ci vo w s g k) (z : Int) : PAt w0 L code ui ci vo (w.setCell ⟨L.b, 3, none⟩ (.int .i64 z)) { s with fuel := z } g k :=
  h.setBox ((But.refl _ _).set _ _) (h.box.fuel h.g16 z) rfl rfl rfl h.inp h.icap h.g16
theorem PAt.pos (h : PAt w0 L code ui ci vo w s g k) (z : Int) : PAt w0 L code ui ci vo (w.setCell ⟨L.b, 22, none⟩ (.int .i64 z)) s g z :=
  h.setBox ((But.refl _ _).set _ _) (h.box.pos h.g16 z) rfl rfl rfl h.inp h.icap h.g16
theorem PAt.get (h : PAt w0 L code ui ci vo w s g k) (u : Option Addr) (l : List Int) (c : Nat) (hl : IntsIs w0 0 u l) (hc : l.length ≤ c ∧ c ≤ maxLen) : PAt w0 L code u c vo (w.setCell ⟨L.b, 2, none⟩ (.slice u l.length c)) { s with input := l } g k :=
  h.setBox ((But.refl _ _).set _ _) (h.box.inp h.g16 u l c) rfl rfl rfl hl hc h.g16
/-- A variable is written. -/
theorem PAt.setVar (h : PAt w0 L code ui ci vo w s g k) (j : Nat) (z : Int) : PAt w0 L code ui ci vo (w.setCell ⟨L.v, j, none⟩ (.int .i64 z)) { s with vars := s.vars.set j z } g k := by
  have kb := (But.refl L.v w).set j (.int .i64 z)
  obtain ⟨cs, hx, _⟩ := h.box.blk
  have nb := h.vars.ne hx (by decide)
  have on : vo.ownBlock ≠ some L.v := fun e => (h.oo _ e).1 rfl
  obtain ⟨n, hn⟩ := h.map
  have nm : L.mp ≠ L.v := fun e => by obtain ⟨es, cl, h1⟩ := hn.isMap; obtain ⟨cur, h2, _⟩ := h.vars; rw [e, h2] at h1; cases h1
  exact
    { box := by have := h.box.keep (kb.block _ h.box.lt (Ne.symm nb)); unfold BoxIs at *; simpa using this
      g16 := h.g16, vars := h.vars.set j z
      rows := fun i hi => (h.rows i hi).keep (kb.block _ (h.rows i hi).lt (h.ri i hi))
      map := ⟨n, hn.blk (kb.block _ hn.lt nm)⟩
      bel := h.bel.trans (kb.below h.lowV h.low), code := h.code, inp := h.inp, icap := h.icap, alu := h.alu
      out := h.out.butB kb on
      lowB := h.lowB, lowV := h.lowV, lowP := h.lowP, lowI := h.lowI, ri := h.ri, ij := h.ij, oo := h.oo
      hold := fun q hq => let ⟨a, b, c, r⟩ := h.hold q hq; ⟨(kb.block _ (lt_some a) c).trans a, b, c, r⟩ }
/-- A place of a region is written. -/
theorem PAt.setMem (h : PAt w0 L code ui ci vo w s g k) (i : Nat) (hi : i < s.mem.length) (j : Nat) (z : Int) : PAt w0 L code ui ci vo (w.setCell ⟨L.mb i, j, none⟩ (.int .i64 z)) { s with mem := s.mem.set i (s.mem[i].set j z) } g k := by
  have kb := (But.refl (L.mb i) w).set j (.int .i64 z)
  obtain ⟨cs, hx, _⟩ := h.box.blk
  have nb := (h.rows i hi).ne hx (by decide)
  have on : vo.ownBlock ≠ some (L.mb i) := fun e => (h.oo _ e).2 i hi rfl
  obtain ⟨n, hn⟩ := h.map
  have nm : L.mp ≠ L.mb i := fun e => by obtain ⟨es, cl, h1⟩ := hn.isMap; obtain ⟨cur, h2, _⟩ := h.rows i hi; rw [e, h2] at h1; cases h1
  have er : regE L (s.mem.set i (s.mem[i].set j z)) = regE L s.mem := by
    funext y
    unfold regE
    rw [List.length_set]
    by_cases hy : 0 ≤ y ∧ y < (s.mem.length : Nat)
    · rw [if_pos hy, if_pos hy]
      congr 2
      rw [List.getD_eq_getElem?_getD, List.getD_eq_getElem?_getD, List.getElem?_set]
      by_cases he : i = y.toNat
      · subst he
        rw [if_pos rfl, if_pos hi, List.getElem?_eq_getElem hi]; simp
      · rw [if_neg he]
    · rw [if_neg hy, if_neg hy]
  exact
    { box := h.box.keep (kb.block _ h.box.lt (Ne.symm nb))
      g16 := h.g16, vars := h.vars.keep (kb.block _ h.vars.lt (Ne.symm (h.ri i hi)))
      rows := fun q hq => by
        have hq' : q < s.mem.length := by simpa using hq
        by_cases e : i = q
        · subst e; simp only [List.getElem_set_self]; exact (h.rows i hi).set j z
        · simp only [List.getElem_set_ne e]; exact (h.rows q hq').keep (kb.block _ (h.rows q hq').lt (fun e2 => e (h.ij _ _ hq' hi e2).symm))
      map := ⟨n, by simp only; rw [er]; exact hn.blk (kb.block _ hn.lt nm)⟩
      bel := h.bel.trans (kb.below (h.lowI i hi) h.low), code := h.code, inp := h.inp, icap := h.icap, alu := h.alu
      out := h.out.butB kb on
      lowB := h.lowB, lowV := h.lowV, lowP := h.lowP
      lowI := fun q hq => h.lowI q (by simpa using hq), ri := fun q hq => h.ri q (by simpa using hq), ij := fun q r hq hr => h.ij q r (by simpa using hq) (by simpa using hr), oo := fun o e => ⟨(h.oo o e).1, fun q hq => (h.oo o e).2 q (by simpa using hq)⟩
      hold := fun q hq => let ⟨a, b, c, d, r⟩ := h.hold q hq; ⟨(kb.block _ (lt_some a) (r i hi)).trans a, b, c, d, fun j hj => r j (by simpa using hj)⟩ }
end
end Go.Proofs.YtpkfbabgcinhhaaDoor

/- What the machine's methods do with a word: number, move, fetch, keep, jump, jumpAtZero, stop. -/
namespace Go.Proofs.YtpkfbabgcinhhaaDoor
open Go.ChangeShapes Go.WideShapes Go.ChangeAt Go.RowKit
theorem drewNP (w : World) (q : Nat) : Below w.heap.size w (w.drewN q) := by
  induction q with
  | zero => exact Below.refl _ _
  | succ q ih => exact ih.drew
/-- A word in a box of its own. -/
def WBox (op r a b n : Int) : Obj := .cells #[.int .i64 op, .int .i64 r, .int .i64 a, .int .i64 b, .int .i64 n] 73
section
variable {w0 : World} {L : PLay} {ui : Option Addr} {ci : Nat} {vo : Value} {w w' : World} {s : Mch} {g : List Int} {k : Int} {code : List Wrd}
theorem PAt.cells (h : PAt w0 L code ui ci vo w s g k) : w.cell? ⟨L.b, 0, none⟩ = some (.slice (some ⟨L.v, 0, none⟩) s.vars.length L.cv) ∧ w.cell? ⟨L.b, 1, none⟩ = some (.map (some L.mp)) ∧ w.cell? ⟨L.b, 2, none⟩ = some (.slice ui s.input.length ci) ∧ w.cell? ⟨L.b, 3, none⟩ = some (.int .i64 s.fuel) ∧ w.cell? ⟨L.b, 4, none⟩ = some vo ∧ w.cell? ⟨L.b, 5, none⟩ = some (.slice L.uw code.length L.cw) ∧ w.cell? ⟨L.b, 22, none⟩ = some (.int .i64 k) := by
  obtain ⟨cs, h1, h2, c0, c1, c2, c3, c4, c5, c6, c7, c8⟩ := h.box
  have e := (cells_of h1).1
  exact ⟨(e 0).trans c0, (e 1).trans c1, (e 2).trans c2, (e 3).trans c3, (e 4).trans c4, (e 5).trans c5, (e 22).trans c6⟩
theorem PAt.rg (h : PAt w0 L code ui ci vo w s g k) (q : Nat) (hq : q < 16) : w.cell? ⟨L.b, 6 + q, none⟩ = some (.int .i64 (g.getD q 0)) := by
  obtain ⟨cs, h1, h2, c0, c1, c2, c3, c4, c5, c6, c7, c8⟩ := h.box
  have hl : q < g.length := by rw [h.g16]; exact hq
  rw [(cells_of h1).1 (6 + q), c7 q hl, List.getD_eq_getElem?_getD, List.getElem?_eq_getElem hl]; rfl
theorem PAt.kd (h : PAt w0 L code ui ci vo w s g k) (q : Nat) (hq : q < 12) : w.cell? ⟨L.b, 23 + q, none⟩ = some (kindV L.b q) := by
  obtain ⟨cs, h1, h2, c0, c1, c2, c3, c4, c5, c6, c7, c8⟩ := h.box
  rw [(cells_of h1).1 (23 + q), c8 q hq]
theorem PAt.fz (h : PAt w0 L code ui ci vo w s g k) (o : Nat) : w.frozen? ⟨L.b, o, none⟩ = false := by
  obtain ⟨cs, h1, _⟩ := h.box
  exact (cells_of h1).2 o
theorem cell_keep {b o : Nat} {v : Value} (h : w.cell? ⟨b, o, none⟩ = some v) (hb : b < w.heap.size) (k : Below w.heap.size w w') : w'.cell? ⟨b, o, none⟩ = some v := (k.cell (p := ⟨b, o, none⟩) hb).trans h
set_option maxHeartbeats 4000000 in
set_option maxRecDepth 100000 in
theorem number_any (h : PAt w0 L code ui ci vo w s g k) (op a b n : Int) (r : Nat) (hr : r < 16) :
    Calls Tryd.prog 54 #[.pointer (some ⟨L.b, 0, none⟩), .agg #[.int .i64 op, .int .i64 r, .int .i64 a, .int .i64 b, .int .i64 n]] w fun en w' => en = .returned .nilIface ∧ PAt w0 L code ui ci vo w' s (g.set r n) k := by
  have AL : Hid (∀ (x : World) o, Below x.heap.size x (x.alloc o)) := fun x o => (Below.refl _ _).alloc (Nat.le_refl _) o
  have H := hideP (h.stays (AL.out _ (WBox op r a b n)))
  have H0 := hideP h
  have hb0 := h.lt
  have hr2 : (r : Int) < 16 := by omega
  have d0 := H.out.rg r hr
  have f0 := H.out.fz (6 + r)
  unfold WBox at *
  clear h
  go_enter Tryd.func54, Tryd.ntmps54
  go_upto_region 1 with fail
  go_region
  all_goals go_wp2
  all_goals go_ret
  all_goals first
    | exact ⟨rfl, ((H0.out.reg r hr n).stays (AL.out _ _)).stays (Below.refl _ _).drew⟩
    | exact ⟨rfl, (H.out.reg r hr n).stays (Below.refl _ _).drew⟩
set_option maxHeartbeats 4000000 in
set_option maxRecDepth 100000 in
theorem move_any (h : PAt w0 L code ui ci vo w s g k) (op b n : Int) (r a : Nat) (hr : r < 16) (ha : a < 16) :
    Calls Tryd.prog 65 #[.pointer (some ⟨L.b, 0, none⟩), .agg #[.int .i64 op, .int .i64 r, .int .i64 a, .int .i64 b, .int .i64 n]] w fun en w' => en = .returned .nilIface ∧ PAt w0 L code ui ci vo w' s (g.set r (g.getD a 0)) k := by
  have AL : Hid (∀ (x : World) o, Below x.heap.size x (x.alloc o)) := fun x o => (Below.refl _ _).alloc (Nat.le_refl _) o
  have H := hideP (h.stays (AL.out _ (WBox op r a b n)))
  have H0 := hideP h
  have hb0 := h.lt
  have hr2 : (r : Int) < 16 := by omega
  have ha2 : (a : Int) < 16 := by omega
  have d0 := H.out.rg r hr
  have d1 := H.out.rg a ha
  have f0 := H.out.fz (6 + r)
  unfold WBox at *
  clear h
  go_enter Tryd.func65, Tryd.ntmps65
  go_upto_region 1 with fail
  go_region
  all_goals go_wp2
  all_goals go_ret
  all_goals first
    | exact ⟨rfl, ((H0.out.reg r hr _).stays (AL.out _ _)).stays (Below.refl _ _).drew⟩
    | exact ⟨rfl, (H.out.reg r hr _).stays (Below.refl _ _).drew⟩
set_option maxHeartbeats 4000000 in
set_option maxRecDepth 100000 in
theorem fetch_any (h : PAt w0 L code ui ci vo w s g k) (op a b : Int) (r n : Nat) (hr : r < 16) (hn : n < s.vars.length) :
    Calls Tryd.prog 55 #[.pointer (some ⟨L.b, 0, none⟩), .agg #[.int .i64 op, .int .i64 r, .int .i64 a, .int .i64 b, .int .i64 n]] w fun en w' => en = .returned .nilIface ∧ PAt w0 L code ui ci vo w' s (g.set r (s.vars.getD n 0)) k := by
  have AL : Hid (∀ (x : World) o, Below x.heap.size x (x.alloc o)) := fun x o => (Below.refl _ _).alloc (Nat.le_refl _) o
  have H := hideP (h.stays (AL.out _ (WBox op r a b n)))
  have H0 := hideP h
  have hb0 := h.lt
  have hr2 : (r : Int) < 16 := by omega
  have d0 := H.out.rg r hr
  have f0 := H.out.fz (6 + r)
  have d1 := H.out.cells.1
  have d2 := (H.out.vars.at n hn).1
  have hlt := H.out.vars.lt
  have ev : s.vars.getD n 0 = s.vars[n] := by rw [List.getD_eq_getElem?_getD, List.getElem?_eq_getElem hn]; rfl
  obtain ⟨z, hz⟩ : ∃ z, s.vars.getD n 0 = z := ⟨_, rfl⟩
  rw [← ev, hz] at d2
  rw [hz]
  clear ev hz
  unfold WBox at *
  clear h
  go_enter Tryd.func55, Tryd.ntmps55
  go_upto_region 1 with fail
  go_region
  all_goals go_wp2
  all_goals go_ret
  all_goals first
    | exact ⟨rfl, ((H0.out.reg r hr _).stays (AL.out _ _)).stays (Below.refl _ _).drew⟩
    | exact ⟨rfl, (H.out.reg r hr _).stays (Below.refl _ _).drew⟩
set_option maxHeartbeats 4000000 in
set_option maxRecDepth 100000 in
theorem keep_any (h : PAt w0 L code ui ci vo w s g k) (op a b : Int) (r n : Nat) (hr : r < 16) (hn : n < s.vars.length) :
    Calls Tryd.prog 56 #[.pointer (some ⟨L.b, 0, none⟩), .agg #[.int .i64 op, .int .i64 r, .int .i64 a, .int .i64 b, .int .i64 n]] w fun en w' => en = .returned .nilIface ∧ PAt w0 L code ui ci vo w' { s with vars := s.vars.set n (g.getD r 0) } g k := by
  have AL : Hid (∀ (x : World) o, Below x.heap.size x (x.alloc o)) := fun x o => (Below.refl _ _).alloc (Nat.le_refl _) o
  have H := hideP (h.stays (AL.out _ (WBox op r a b n)))
  have H0 := hideP h
  have hb0 := h.lt
  have hr2 : (r : Int) < 16 := by omega
  have d0 := H.out.rg r hr
  have d1 := H.out.cells.1
  have d2 := (H.out.vars.at n hn).1
  have f0 := (H.out.vars.at n hn).2
  have hlt := H0.out.vars.lt
  unfold WBox at *
  clear h
  go_enter Tryd.func56, Tryd.ntmps56
  go_upto_region 1 with fail
  go_region
  all_goals go_wp2
  all_goals go_ret
  all_goals first
    | exact ⟨rfl, ((H0.out.setVar n _).stays (AL.out _ _)).stays (Below.refl _ _).drew⟩
    | exact ⟨rfl, (H.out.setVar n _).stays (Below.refl _ _).drew⟩
set_option maxHeartbeats 4000000 in
set_option maxRecDepth 100000 in
theorem jump_any (h : PAt w0 L code ui ci vo w s g k) (op r a b n : Int) :
    Calls Tryd.prog 62 #[.pointer (some ⟨L.b, 0, none⟩), .agg #[.int .i64 op, .int .i64 r, .int .i64 a, .int .i64 b, .int .i64 n]] w fun en w' => en = .returned .nilIface ∧ PAt w0 L code ui ci vo w' s g n := by
  have AL : Hid (∀ (x : World) o, Below x.heap.size x (x.alloc o)) := fun x o => (Below.refl _ _).alloc (Nat.le_refl _) o
  have H := hideP (h.stays (AL.out _ (WBox op r a b n)))
  have H0 := hideP h
  have hb0 := h.lt
  have d0 := H.out.cells.2.2.2.2.2.2
  have f0 := H.out.fz 22
  unfold WBox at *
  clear h
  go_enter Tryd.func62, Tryd.ntmps62
  go_upto_region 1 with fail
  go_wp2
  go_ret
  first
    | exact ⟨rfl, (H0.out.pos n).stays (AL.out _ _)⟩
    | exact ⟨rfl, H.out.pos n⟩
set_option maxHeartbeats 4000000 in
set_option maxRecDepth 100000 in
theorem jz_any (h : PAt w0 L code ui ci vo w s g k) (op a b n : Int) (r : Nat) (hr : r < 16) :
    Calls Tryd.prog 63 #[.pointer (some ⟨L.b, 0, none⟩), .agg #[.int .i64 op, .int .i64 r, .int .i64 a, .int .i64 b, .int .i64 n]] w fun en w' => en = .returned .nilIface ∧ PAt w0 L code ui ci vo w' s g (if g.getD r 0 = 0 then n else k) := by
  have AL : Hid (∀ (x : World) o, Below x.heap.size x (x.alloc o)) := fun x o => (Below.refl _ _).alloc (Nat.le_refl _) o
  have H := hideP (h.stays (AL.out _ (WBox op r a b n)))
  have H0 := hideP h
  have hb0 := h.lt
  have hr2 : (r : Int) < 16 := by omega
  have d0 := H.out.rg r hr
  have d1 := H.out.cells.2.2.2.2.2.2
  have f0 := H.out.fz 22
  obtain ⟨z, hz⟩ : ∃ z, g.getD r 0 = z := ⟨_, rfl⟩
  rw [hz] at d0 ⊢
  clear hz
  obtain ⟨k2, hk2⟩ : ∃ k2, (if z = 0 then n else k) = k2 := ⟨_, rfl⟩
  have HK := hideP hk2
  rw [hk2]
  clear hk2
  unfold WBox at *
  clear h
  go_enter Tryd.func63, Tryd.ntmps63
  go_upto_region 1 with fail
  by_cases hz : z = 0
  · subst hz
    have hk : Hid (k2 = n) := HK.out.symm.trans (if_pos rfl)
    clear HK
    go_quiet (fail)
    go_wp2
    go_ret
    rw [hk.out]
    first
      | exact ⟨rfl, ((H0.out.pos n).stays (AL.out _ _)).stays (Below.refl _ _).drew⟩
      | exact ⟨rfl, (H.out.pos n).stays (Below.refl _ _).drew⟩
      | exact ⟨rfl, (H.out.stays (drewNP _ _)).pos n⟩
      | exact ⟨rfl, (H.out.pos n).stays (drewNP _ _)⟩
  · have hk : Hid (k2 = k) := HK.out.symm.trans (if_neg hz)
    have hzb : (z == 0) = false := by simpa using hz
    clear HK
    go_quiet (fail)
    go_wp2
    go_ret
    rw [hk.out]
    exact ⟨rfl, H.out.stays (drewNP _ _)⟩
set_option maxHeartbeats 4000000 in
set_option maxRecDepth 100000 in
theorem stop_any (h : PAt w0 L code ui ci vo w s g k) (op a b n : Int) (r : Nat) (hr : r < 16) :
    Calls Tryd.prog 64 #[.pointer (some ⟨L.b, 0, none⟩), .agg #[.int .i64 op, .int .i64 r, .int .i64 a, .int .i64 b, .int .i64 n]] w fun en w' => en = .returned (.iface 111 (.agg #[.int .i64 0, .int .i64 (g.getD r 0)])) ∧ PAt w0 L code ui ci vo w' s g k := by
  have AL : Hid (∀ (x : World) o, Below x.heap.size x (x.alloc o)) := fun x o => (Below.refl _ _).alloc (Nat.le_refl _) o
  have H := hideP (h.stays (AL.out _ (WBox op r a b n)))
  have H0 := hideP h
  have hb0 := h.lt
  have hr2 : (r : Int) < 16 := by omega
  have d0 := H.out.rg r hr
  unfold WBox at *
  clear h
  go_enter Tryd.func64, Tryd.ntmps64
  go_upto_region 1 with fail
  go_region
  all_goals go_wp2
  all_goals go_ret
  all_goals exact ⟨rfl, H.out.stays (Below.refl _ _).drew⟩
end
end Go.Proofs.YtpkfbabgcinhhaaDoor

/- What the machine's state does: takeFuel, get, place; and the machine's cell. -/
namespace Go.Proofs.YtpkfbabgcinhhaaDoor
open Go.ChangeShapes Go.WideShapes Go.ChangeAt Go.RowKit
section
variable {w0 : World} {L : PLay} {ui : Option Addr} {ci : Nat} {vo : Value} {w w' : World} {s : Mch} {g : List Int} {k : Int} {code : List Wrd}
set_option maxHeartbeats 4000000 in
theorem takeFuel_no (h : PAt w0 L code ui ci vo w s g k) (hf : s.fuel = 0) :
    Calls Tryd.prog 66 #[.pointer (some ⟨L.b, 0, none⟩)] w fun en w' => en = .returned (.iface 111 (.agg #[.int .i64 2, .int .i64 0])) ∧ w' = w := by
  have d3 := h.cells.2.2.2.1
  rw [hf] at d3
  clear h
  go_enter Tryd.func66, Tryd.ntmps66
  go_wp2
  go_ret
  exact ⟨rfl, rfl⟩
set_option maxHeartbeats 4000000 in
theorem takeFuel_yes (h : PAt w0 L code ui ci vo w s g k) (hf : 0 < s.fuel) (hf2 : s.fuel ≤ 1000000) :
    Calls Tryd.prog 66 #[.pointer (some ⟨L.b, 0, none⟩)] w fun en w' => en = .returned .nilIface ∧ PAt w0 L code ui ci vo w' { s with fuel := s.fuel - 1 } g k := by
  have d3 := h.cells.2.2.2.1
  have f3 := h.fz 3
  have H := hideP (h.fuel (s.fuel - 1))
  obtain ⟨f, hfe⟩ : ∃ f, s.fuel = f := ⟨_, rfl⟩
  rw [hfe] at d3 H hf hf2 ⊢
  clear h hfe
  have hne : (f == 0) = false := by simp; omega
  go_enter Tryd.func66, Tryd.ntmps66
  go_wp2
  go_ret
  exact ⟨rfl, H.out⟩
set_option maxHeartbeats 4000000 in
theorem pmGet_any (h : PAt w0 L code ui ci vo w s g k) :
    Calls Tryd.prog 71 #[.pointer (some ⟨L.b, 0, none⟩)] w fun en w' => en = .returned (.int .i64 (getV s.input)) ∧ (∃ ui' ci', PAt w0 L code ui' ci' vo w' { s with input := s.input.tail } g k) ∧ But L.b w w' := by
  have H := hideP h
  have hm := maxLen_lt
  have x2 := h.cells.2.2.1
  have fz := h.fz 2
  have BR := hideP (But.refl L.b w)
  have hic := h.icap
  have HI := hideP h.inp
  have HB := hideP h.bel
  clear h
  obtain ⟨mem, vars, input, fuel, cod, over, val, out⟩ := s
  simp only at x2 hic HI
  cases input with
  | nil =>
    go_enter Tryd.func71, Tryd.ntmps71
    go_wp2
    go_ret
    exact ⟨rfl, ⟨_, _, H.out⟩, BR.out⟩
  | cons x r =>
    obtain ⟨ib, io, rfl, _, hib, c00⟩ := HI.out.get 0 (by simp)
    have c0 := (HB.out.cell (p := ⟨ib, io + 0, none⟩) hib).trans c00
    have hiw : ib < w.heap.size := Nat.lt_of_lt_of_le hib HB.out.size
    simp only [List.length_cons, List.getElem_cons_zero, Nat.add_zero] at c0 x2 hic
    have hr0 : (0 : Int) ≤ (r.length : Int) + 1 := by omega
    have hr1 : (1 : Int) ≤ (r.length : Int) + 1 := by omega
    have hr2 : (r.length : Int) + 1 ≤ (ci : Int) := by omega
    by_cases e1 : ci = 1
    · subst e1
      have hr : r.length = 0 := by omega
      have rl : r = [] := List.eq_nil_of_length_eq_zero hr
      subst rl
      have K := hideP (H.out.get (some ⟨ib, io, none⟩) [] 0 ⟨by simp, Or.inl rfl⟩ ⟨by simp, by omega⟩)
      have KB := hideP ((But.refl L.b w).set 2 (.slice (some ⟨ib, io, none⟩) ([] : List Int).length 0))
      clear HI HB c00
      go_enter Tryd.func71, Tryd.ntmps71
      go_wp2
      go_ret
      exact ⟨rfl, ⟨_, _, K.out⟩, KB.out⟩
    · have HT : Hid (IntsIs w0 0 (some ⟨ib, io + 1, none⟩) r) := by
        refine ⟨by have := HI.out.1; simp at this; omega, Or.inr ⟨ib, io + 1, rfl, Nat.zero_le _, hib, fun h0 => absurd h0 (Nat.lt_irrefl _), fun j hj => ?_⟩⟩
        obtain ⟨ib2, io2, e, _, _, h3⟩ := HI.out.get (j + 1) (by simp only [List.length_cons]; omega)
        cases e
        rw [show io + 1 + j = io + (j + 1) by omega]; simpa using h3
      have K := hideP (H.out.get (some ⟨ib, io + 1, none⟩) r (ci - 1) HT.out ⟨by omega, by omega⟩)
      have KB := hideP ((But.refl L.b w).set 2 (.slice (some ⟨ib, io + 1, none⟩) r.length (ci - 1)))
      clear HI HB c00 HT
      go_enter Tryd.func71, Tryd.ntmps71
      go_wp2
      go_ret
      exact ⟨rfl, ⟨_, _, K.out⟩, KB.out⟩
/-- The place that is asked for, or a trap. -/
def PlRes (L : PLay) (m : List (List Int)) (q : Nat) (i : Int) (w : World) (en : Ending) (w' : World) : Prop :=
  w' = w ∧ ((memIn m q i = true ∧ en = .returned (.tuple #[.pointer (some ⟨L.mb q, i.toNat, none⟩), .nilIface])) ∨ (memIn m q i = false ∧ en = .returned (.tuple #[.pointer none, .iface 111 (.agg #[.int .i64 1, .int .i64 0])])))
set_option maxHeartbeats 4000000 in
set_option maxRecDepth 100000 in
theorem place_any (h : PAt w0 L code ui ci vo w s g k) (q : Nat) (hq : q < s.mem.length) (hq2 : q < 1000) (i : Int) :
    Calls Tryd.prog 77 #[.pointer (some ⟨L.b, 0, none⟩), .int .i64 (q : Int), .int .i64 (-1), .int .i64 i] w fun en w' => PlRes L s.mem q i w en w' := by
  have d1 := h.cells.2.1
  obtain ⟨n, hn⟩ := h.map
  have lk := hn.look (T := 57) Tryd.underlying57 (s := (q : Int)) ⟨by omega, by omega⟩
  have er : regE L s.mem (q : Int) = some (.slice (some ⟨L.mb q, 0, none⟩) (s.mem[q]).length (L.mc q)) := by
    unfold regE
    rw [if_pos ⟨by omega, by omega⟩, Int.toNat_natCast, List.getD_eq_getElem?_getD, List.getElem?_eq_getElem hq]; rfl
  rw [er] at lk
  simp only [Option.getD_some] at lk
  obtain ⟨N, hN⟩ : ∃ N, (s.mem[q]).length = N := ⟨_, rfl⟩
  have em : Hid (memIn s.mem (q : Int) i = decide (0 ≤ i ∧ i < (N : Int))) := by
    show _ = _
    unfold memIn
    rw [Int.toNat_natCast, List.getD_eq_getElem?_getD, List.getElem?_eq_getElem hq, Option.getD_some, hN]
  rw [hN] at lk
  clear hN hn h er
  obtain ⟨y, hy⟩ : ∃ y, memIn s.mem (q : Int) i = y := ⟨_, rfl⟩
  have PR : Hid (∀ en w', (w' = w ∧ ((y = true ∧ en = .returned (.tuple #[.pointer (some ⟨L.mb q, i.toNat, none⟩), .nilIface])) ∨ (y = false ∧ en = .returned (.tuple #[.pointer none, .iface 111 (.agg #[.int .i64 1, .int .i64 0])])))) → PlRes L s.mem q i w en w') := fun en w' h => by unfold PlRes; rw [hy]; exact h
  rw [hy] at em
  clear hy
  by_cases h0 : 0 ≤ i
  · by_cases h1 : i < (N : Int)
    · have hy : Hid (y = true) := by show _ = _; rw [em.out]; simp [h0, h1]
      clear em
      obtain ⟨j, rfl⟩ : ∃ j : Nat, i = (j : Int) := ⟨i.toNat, by omega⟩
      go_enter Tryd.func77, Tryd.ntmps77
      go_wp2
      refine bodyPost_ret (results_tmp2 rfl _ _ _) rfl ?_
      exact PR.out _ _ ⟨rfl, Or.inl ⟨hy.out, by simp⟩⟩
    · have hy : Hid (y = false) := by show _ = _; rw [em.out]; simp; omega
      clear em
      go_enter Tryd.func77, Tryd.ntmps77
      go_wp2
      refine bodyPost_ret (results_tmp2 rfl _ _ _) rfl ?_
      exact PR.out _ _ ⟨rfl, Or.inr ⟨hy.out, rfl⟩⟩
  · have hy : Hid (y = false) := by show _ = _; rw [em.out]; simp; omega
    clear em
    go_enter Tryd.func77, Tryd.ntmps77
    go_wp2
    refine bodyPost_ret (results_tmp2 rfl _ _ _) rfl ?_
    exact PR.out _ _ ⟨rfl, Or.inr ⟨hy.out, rfl⟩⟩
set_option maxHeartbeats 8000000 in
set_option maxRecDepth 100000 in
theorem cell_any (h : PAt w0 L code ui ci vo w s g k) (op r b : Int) (q a : Nat) (ha : a < 16) (hq : q < s.mem.length) (hq2 : q < 1000) :
    Calls Tryd.prog 70 #[.pointer (some ⟨L.b, 0, none⟩), .agg #[.int .i64 op, .int .i64 r, .int .i64 a, .int .i64 b, .int .i64 q]] w fun en w' => (∃ w2, PlRes L s.mem q (g.getD a 0) w2 en w2) ∧ Below w.heap.size w w' := by
  have AL : Hid (∀ (x : World) o, Below x.heap.size x (x.alloc o)) := fun x o => (Below.refl _ _).alloc (Nat.le_refl _) o
  have H := hideP (h.stays (AL.out _ (WBox op r a b q)))
  have PL : Hid (∀ W, Below w.heap.size w W → Calls Tryd.prog 77 #[.pointer (some ⟨L.b, 0, none⟩), .int .i64 (q : Int), .int .i64 (-1), .int .i64 (g.getD a 0)] W fun en w' => PlRes L s.mem q (g.getD a 0) W en w') := fun W hW => place_any (h.stays hW) q hq hq2 _
  have hb0 := h.lt
  have ha2 : (a : Int) < 16 := by omega
  have d0 := H.out.rg a ha
  obtain ⟨z, hz⟩ : ∃ z, g.getD a 0 = z := ⟨_, rfl⟩
  rw [hz] at d0 PL ⊢
  have R1 : Hid (∃ v, (∀ W, Below w.heap.size w W → Calls Tryd.prog 77 #[.pointer (some ⟨L.b, 0, none⟩), .int .i64 (q : Int), .int .i64 (-1), .int .i64 z] W fun en w' => en = .returned v ∧ w' = W) ∧ (∃ a b, v = .tuple #[a, b]) ∧ ∀ w2, PlRes L s.mem q z w2 (.returned v) w2) := by
    by_cases hy : memIn s.mem q z = true
    · exact ⟨.tuple #[.pointer (some ⟨L.mb q, z.toNat, none⟩), .nilIface], fun W hW => (PL.out W hW).mono (by rintro en w' ⟨h1, ⟨_, h2⟩ | ⟨h2, _⟩⟩; exact ⟨h2, h1⟩; rw [hy] at h2; cases h2), ⟨_, _, rfl⟩, fun w2 => ⟨rfl, Or.inl ⟨hy, rfl⟩⟩⟩
    · have hy' : memIn s.mem q z = false := by simpa using hy
      exact ⟨.tuple #[.pointer none, .iface 111 (.agg #[.int .i64 1, .int .i64 0])], fun W hW => (PL.out W hW).mono (by rintro en w' ⟨h1, ⟨h2, _⟩ | ⟨_, h2⟩⟩; exact absurd h2 hy; exact ⟨h2, h1⟩), ⟨_, _, rfl⟩, fun w2 => ⟨rfl, Or.inr ⟨hy', rfl⟩⟩⟩
  obtain ⟨v, PV, ⟨va, vb, rfl⟩, PF⟩ := R1.out
  have PX := hideP PV
  have PY := hideP PF
  unfold WBox at *
  clear h hz hq H PL R1 PV PF
  go_enter Tryd.func70, Tryd.ntmps70
  go_upto_region 1 with fail
  obtain ⟨W, hW⟩ : ∃ W, w.alloc (.cells #[.int .i64 op, .int .i64 r, .int .i64 a, .int .i64 b, .int .i64 q] 73) = W := ⟨_, rfl⟩
  have BW := hideP (AL.out w (.cells #[.int .i64 op, .int .i64 r, .int .i64 a, .int .i64 b, .int .i64 q] 73))
  have e2 : (w.alloc (.cells #[.int .i64 op, .int .i64 r, .int .i64 a, .int .i64 b, .int .i64 q] 73)).cell? ⟨w.heap.size, 2, none⟩ = some (.int .i64 a) := by rw [World.cell?_alloc_new]; rfl
  have e4 : (w.alloc (.cells #[.int .i64 op, .int .i64 r, .int .i64 a, .int .i64 b, .int .i64 q] 73)).cell? ⟨w.heap.size, 4, none⟩ = some (.int .i64 q) := by rw [World.cell?_alloc_new]; rfl
  rw [hW] at d0 BW e2 e4 ⊢
  clear hW AL
  have PZ : Hid (∀ n, Calls Tryd.prog 77 #[.pointer (some ⟨L.b, 0, none⟩), .int .i64 (q : Int), .int .i64 (-1), .int .i64 z] (W.drewN n) fun en w' => en = .returned (.tuple #[va, vb]) ∧ w' = W.drewN n) := fun n => PX.out _ (BW.out.trans ((drewNP _ _).mono BW.out.size))
  clear PX
  go_quiet (first | (go_at_call 77; refine Calls.quiet_of_same (PZ.out _)))
  go_wp2
  refine bodyPost_ret (results_tmp2 rfl _ _ _) rfl ?_
  exact ⟨⟨w, PY.out w⟩, BW.out.trans ((drewNP _ _).mono BW.out.size)⟩
end
end Go.Proofs.YtpkfbabgcinhhaaDoor

/- What the machine's methods do with a word: load, store, take. -/
namespace Go.Proofs.YtpkfbabgcinhhaaDoor
open Go.ChangeShapes Go.WideShapes Go.ChangeAt Go.RowKit
section
variable {w0 : World} {L : PLay} {ui : Option Addr} {ci : Nat} {vo : Value} {w w' : World} {s : Mch} {g : List Int} {k : Int} {code : List Wrd}
/-- A trap, as the methods tell it. -/
def trapV : Value := .iface 111 (.agg #[.int .i64 1, .int .i64 0])
def LdRes (w0 : World) (L : PLay) (code : List Wrd) (ui : Option Addr) (ci : Nat) (vo : Value) (s s2 : Mch) (g g2 : List Int) (k : Int) (y : Bool) (en : Ending) (w' : World) : Prop :=
  (y = true ∧ en = .returned .nilIface ∧ PAt w0 L code ui ci vo w' s2 g2 k) ∨ (y = false ∧ en = .returned (.iface 111 (.agg #[.int .i64 1, .int .i64 0])) ∧ PAt w0 L code ui ci vo w' s g k)
set_option maxHeartbeats 8000000 in
set_option maxRecDepth 100000 in
theorem load_any (h : PAt w0 L code ui ci vo w s g k) (op b : Int) (q a r : Nat) (hr : r < 16) (ha : a < 16) (hq : q < s.mem.length) (hq2 : q < 1000) :
    Calls Tryd.prog 58 #[.pointer (some ⟨L.b, 0, none⟩), .agg #[.int .i64 op, .int .i64 r, .int .i64 a, .int .i64 b, .int .i64 q]] w fun en w' => LdRes w0 L code ui ci vo s s g (g.set r (memG s.mem q (g.getD a 0))) k (memIn s.mem q (g.getD a 0)) en w' := by
  have AL : Hid (∀ (x : World) o, Below x.heap.size x (x.alloc o)) := fun x o => (Below.refl _ _).alloc (Nat.le_refl _) o
  have H := hideP (h.stays (AL.out _ (WBox op r a b q)))
  have CE := hideP (cell_any H.out op r b q a ha hq hq2)
  have hb0 := h.lt
  have hr2 : (r : Int) < 16 := by omega
  obtain ⟨z, hz⟩ : ∃ z, g.getD a 0 = z := ⟨_, rfl⟩
  rw [hz] at CE ⊢
  have B0 : Hid ((w.alloc (WBox op r a b q)).heap[w.heap.size]? = some (WBox op r a b q)) := by show (w.heap.push _)[w.heap.size]? = _; exact Array.getElem?_push_size
  unfold WBox at *
  clear h hz
  go_enter Tryd.func58, Tryd.ntmps58
  go_wp2_with fail
  refine CE.out.mono ?_
  rintro en1 w1 ⟨⟨w2, _, hres⟩, bel1⟩
  have H1 := hideP (H.out.stays bel1)
  have Q1 := hideP ((bel1.block _ (Array.getElem?_eq_some_iff.1 B0.out).1).trans B0.out)
  have e1 := (cells_of Q1.out).1 1
  simp at e1
  clear bel1 CE H B0 AL
  rcases hres with ⟨hy, rfl⟩ | ⟨hy, rfl⟩
  · have hm0 : 0 ≤ z ∧ z.toNat < s.mem[q].length := by
      unfold memIn at hy
      rw [Int.toNat_natCast, List.getD_eq_getElem?_getD, List.getElem?_eq_getElem hq, Option.getD_some] at hy
      have := of_decide_eq_true hy
      omega
    obtain ⟨j, rfl⟩ : ∃ j : Nat, z = (j : Int) := ⟨z.toNat, by omega⟩
    have hj : j < s.mem[q].length := by simpa using hm0.2
    have d0 := H1.out.rg r hr
    have f0 := H1.out.fz (6 + r)
    have d1 := ((H1.out.rows q hq).at j hj).1
    have hlt := (H1.out.rows q hq).lt
    have ev : memG s.mem q j = s.mem[q][j] := by
      unfold memG
      rw [Int.toNat_natCast, Int.toNat_natCast, List.getD_eq_getElem?_getD, List.getD_eq_getElem?_getD, List.getElem?_eq_getElem hq, Option.getD_some, List.getElem?_eq_getElem hj]; rfl
    obtain ⟨x, hx⟩ : ∃ x, memG s.mem q j = x := ⟨_, rfl⟩
    rw [← ev, hx] at d1
    have HX := hideP hx
    have HY := hideP hy
    clear ev hm0 hx hy Q1
    simp only [Int.toNat_natCast]
    go_wp2
    go_region
    all_goals go_wp2
    all_goals go_ret
    all_goals exact Or.inl ⟨HY.out, rfl, by rw [HX.out]; first | exact (H1.out.reg r hr x).stays (Below.refl _ _).drew | exact (H1.out.stays (Below.refl _ _).drew).reg r hr x⟩
  · have HY := hideP hy
    clear hy e1 Q1
    go_wp2
    go_ret
    exact Or.inr ⟨HY.out, rfl, H1.out⟩
set_option maxHeartbeats 8000000 in
set_option maxRecDepth 100000 in
theorem store_any (h : PAt w0 L code ui ci vo w s g k) (op b : Int) (q a r : Nat) (hr : r < 16) (ha : a < 16) (hq : q < s.mem.length) (hq2 : q < 1000) :
    Calls Tryd.prog 59 #[.pointer (some ⟨L.b, 0, none⟩), .agg #[.int .i64 op, .int .i64 r, .int .i64 a, .int .i64 b, .int .i64 q]] w fun en w' => LdRes w0 L code ui ci vo s { s with mem := memS s.mem q (g.getD a 0) (g.getD r 0) } g g k (memIn s.mem q (g.getD a 0)) en w' := by
  have AL : Hid (∀ (x : World) o, Below x.heap.size x (x.alloc o)) := fun x o => (Below.refl _ _).alloc (Nat.le_refl _) o
  have H := hideP (h.stays (AL.out _ (WBox op r a b q)))
  have CE := hideP (cell_any H.out op r b q a ha hq hq2)
  have hb0 := h.lt
  have hr2 : (r : Int) < 16 := by omega
  obtain ⟨z, hz⟩ : ∃ z, g.getD a 0 = z := ⟨_, rfl⟩
  rw [hz] at CE ⊢
  have B0 : Hid ((w.alloc (WBox op r a b q)).heap[w.heap.size]? = some (WBox op r a b q)) := by show (w.heap.push _)[w.heap.size]? = _; exact Array.getElem?_push_size
  unfold WBox at *
  clear h hz
  go_enter Tryd.func59, Tryd.ntmps59
  go_wp2_with fail
  refine CE.out.mono ?_
  rintro en1 w1 ⟨⟨w2, _, hres⟩, bel1⟩
  have H1 := hideP (H.out.stays bel1)
  have Q1 := hideP ((bel1.block _ (Array.getElem?_eq_some_iff.1 B0.out).1).trans B0.out)
  have e1 := (cells_of Q1.out).1 1
  simp at e1
  clear bel1 CE H B0 AL
  rcases hres with ⟨hy, rfl⟩ | ⟨hy, rfl⟩
  · have hm0 : 0 ≤ z ∧ z.toNat < s.mem[q].length := by
      unfold memIn at hy
      rw [Int.toNat_natCast, List.getD_eq_getElem?_getD, List.getElem?_eq_getElem hq, Option.getD_some] at hy
      have := of_decide_eq_true hy
      omega
    obtain ⟨j, rfl⟩ : ∃ j : Nat, z = (j : Int) := ⟨z.toNat, by omega⟩
    have hj : j < s.mem[q].length := by simpa using hm0.2
    have d0 := H1.out.rg r hr
    have d1 := ((H1.out.rows q hq).at j hj).1
    have f1 := ((H1.out.rows q hq).at j hj).2
    have hlt := (H1.out.rows q hq).lt
    obtain ⟨x, hx⟩ : ∃ x, g.getD r 0 = x := ⟨_, rfl⟩
    rw [hx] at d0
    have HX := hideP hx
    have ev : Hid (memS s.mem q j x = s.mem.set q (s.mem[q].set j x)) := by
      show _ = _
      unfold memS
      rw [Int.toNat_natCast, Int.toNat_natCast, List.getD_eq_getElem?_getD, List.getElem?_eq_getElem hq, Option.getD_some]
    have HY := hideP hy
    clear hm0 hx hy Q1
    simp only [Int.toNat_natCast]
    go_wp2
    go_region
    all_goals go_wp2
    all_goals go_ret
    all_goals exact Or.inl ⟨HY.out, rfl, by rw [HX.out, ev.out]; first | exact (H1.out.setMem q hq j x).stays (Below.refl _ _).drew | exact (H1.out.stays (Below.refl _ _).drew).setMem q hq j x⟩
  · have HY := hideP hy
    clear hy e1 Q1
    go_wp2
    go_ret
    exact Or.inr ⟨HY.out, rfl, H1.out⟩
set_option maxHeartbeats 8000000 in
set_option maxRecDepth 100000 in
theorem take_any (h : PAt w0 L code ui ci vo w s g k) (op a b n : Int) (r : Nat) (hr : r < 16) :
    Calls Tryd.prog 60 #[.pointer (some ⟨L.b, 0, none⟩), .agg #[.int .i64 op, .int .i64 r, .int .i64 a, .int .i64 b, .int .i64 n]] w fun en w' => en = .returned .nilIface ∧ ∃ ui' ci', PAt w0 L code ui' ci' vo w' { s with input := s.input.tail } (g.set r (getV s.input)) k := by
  have AL : Hid (∀ (x : World) o, Below x.heap.size x (x.alloc o)) := fun x o => (Below.refl _ _).alloc (Nat.le_refl _) o
  have H := hideP (h.stays (AL.out _ (WBox op r a b n)))
  have hb0 := h.lt
  have hr2 : (r : Int) < 16 := by omega
  obtain ⟨z, hz⟩ : ∃ z, getV s.input = z := ⟨_, rfl⟩
  have B0 : Hid ((w.alloc (WBox op r a b n)).heap[w.heap.size]? = some (WBox op r a b n)) := by show (w.heap.push _)[w.heap.size]? = _; exact Array.getElem?_push_size
  have GE : Hid (∀ W, PAt w0 L code ui ci vo W s g k → Calls Tryd.prog 71 #[.pointer (some ⟨L.b, 0, none⟩)] W fun en w' => en = .returned (.int .i64 z) ∧ (∃ ui' ci', PAt w0 L code ui' ci' vo w' { s with input := s.input.tail } g k) ∧ But L.b W w') := fun W hW => hz ▸ pmGet_any hW
  rw [hz]
  unfold WBox at *
  clear h hz AL
  go_enter Tryd.func60, Tryd.ntmps60
  go_upto_region 1 with fail
  obtain ⟨W, hW⟩ : ∃ W, w.alloc (.cells #[.int .i64 op, .int .i64 r, .int .i64 a, .int .i64 b, .int .i64 n] 73) = W := ⟨_, rfl⟩
  rw [hW] at H B0 ⊢
  clear hW
  have e1 := (cells_of B0.out).1 1
  simp at e1
  have lB : w.heap.size < W.heap.size := (Array.getElem?_eq_some_iff.1 B0.out).1
  have SK : Hid (W.drew.cell? ⟨w.heap.size, 1, none⟩ = some (.int .i64 r)) := e1
  have HD := hideP (H.out.stays (Below.refl _ _).drew)
  have lD : Hid (w.heap.size < W.drew.heap.size) := lB
  have hne : Hid (w.heap.size ≠ L.b) := by show _ ≠ _; omega
  clear e1 H B0 lB
  go_region_held3 (fun W' => W'.cell? ⟨w.heap.size, 1, none⟩ = some (.int .i64 r)) (first | exact SK.out | exact SK1.out | exact SK2.out) (first
    | (go_at_call 71; refine (GE.out _ HD.out).mono ?_; rintro ea wa ⟨rfl, ⟨ui', ci', ha⟩, ba⟩; have SK1 := hideP ((ba.cell lD.out hne.out).trans SK.out); have d0 := ha.rg r hr; have f0 := ha.fz (6 + r); have HA := hideP ha; have SK2 : Hid ((wa.setCell ⟨L.b, 6 + r, none⟩ (.int .i64 z)).cell? ⟨w.heap.size, 1, none⟩ = some (.int .i64 r)) := (((But.refl L.b wa).set (6 + r) (.int .i64 z)).cell (Nat.lt_of_lt_of_le lD.out ba.size) hne.out).trans SK1.out; clear ba ha))
  all_goals go_wp2
  all_goals go_ret
  all_goals exact ⟨rfl, _, _, HA.out.reg r hr z⟩
end
end Go.Proofs.YtpkfbabgcinhhaaDoor
