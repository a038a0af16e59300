/- Words in a list of one's own; an image of one's own out of its two lists. -/
import Derived.Test.YtehccknppnmbkaaDoorMksW
import Derived.Test.YtehccknppnmbkaaDoorOwnG
namespace Go.Proofs.YtehccknppnmbkaaDoor
open Go.ChangeShapes Go.WideShapes Go.ChangeAt Go.RowKit
def wcs (x : Wrd) : List Value := [.int .i64 x.op, .int .i64 x.r, .int .i64 x.a, .int .i64 x.b, .int .i64 x.n]
def WrE : Elem Wrd := { T := 69, ST := 30, sz := 5, bys := 40, z := .agg #[.int .i64 0, .int .i64 0, .int .i64 0, .int .i64 0, .int .i64 0], cs := wcs }
theorem WrOk : WrE.Ok where
  und := Tryd.underlying30
  info := by kernel_rfl
  zs := rfl
  pos := by decide
  few := by decide
  len := fun _ => rfl
  one := fun x u hu => by simp [WrE, wcs] at hu; rcases hu with rfl | rfl | rfl | rfl | rfl <;> rfl
theorem wrd_slis {w : World} {B g n cap : Nat} {l : List Wrd} (h : OwnE WrE w B (.slice (some ⟨g, 0, none⟩) n cap) l) (hwf : ∀ x ∈ l, x.wf) : SlIs WrdIs 5 w B (some ⟨g, 0, none⟩) l := by
  obtain ⟨g', cap', cur, hv, hB, hh, hc, hm, hs, hx⟩ := h.parts WrOk
  cases hv
  refine ⟨Nat.le_trans hc hm, fun i => (wcs (l[i]?.getD default)).toArray, Or.inr ⟨g, 0, rfl, hB, (Array.getElem?_eq_some_iff.1 hh).1, fun _ => ⟨cur, _, hh⟩, fun i hi => ⟨rfl, fun j hj => ?_⟩⟩, fun i hi => ?_⟩
  · have h0 := hx i hi j hj
    rw [(cells_of hh).1, Nat.zero_add]
    show cur[i * 5 + j]? = (wcs (l[i]?.getD default)).toArray[j]?
    rw [List.getElem?_eq_getElem hi]
    exact h0.trans (by simp [WrE])
  · show WrdIs w B (wcs (l[i]?.getD default)).toArray l[i]
    rw [List.getElem?_eq_getElem hi]
    exact ⟨rfl, hwf _ (List.getElem_mem hi)⟩
theorem OwnE.ne_int {w : World} {B B2 g n cap g2 n2 cap2 : Nat} {l : List Wrd} {zs : List Int} (h : OwnE WrE w B (.slice (some ⟨g, 0, none⟩) n cap) l) (h2 : OwnI w B2 (.slice (some ⟨g2, 0, none⟩) n2 cap2) zs) : g2 ≠ g := fun e => by
  obtain ⟨g', cap', cur, hv, _, hh, _⟩ := h.parts WrOk
  obtain ⟨g3, cap3, cur3, hv3, _, hh3, _⟩ := h2.parts
  cases hv
  cases hv3
  rw [e, hh] at hh3
  injection hh3 with hh3
  injection hh3 with _ e2
  exact absurd e2 (by decide)
/-- The image is these two lists, each in a block of its own. -/
theorem img_of {w : World} {B gs cs gc cc : Nat} {m : Img} (h1 : OwnI w B (.slice (some ⟨gs, 0, none⟩) m.sizes.length cs) m.sizes) (h2 : OwnE WrE w B (.slice (some ⟨gc, 0, none⟩) m.code.length cc) m.code) (hw : m.wf) (hwf : ∀ x ∈ m.code, x.wf) :
    ImgIs w B #[.slice (some ⟨gs, 0, none⟩) m.sizes.length cs, .int .i64 m.params, .int .i64 m.slots, .slice (some ⟨gc, 0, none⟩) m.code.length cc] m :=
  ⟨_, _, _, _, rfl, hw, h1.is.2, wrd_slis h2 hwf⟩
theorem mown_of {w : World} {B gs cs gc cc : Nat} {m : Img} (h1 : OwnI w B (.slice (some ⟨gs, 0, none⟩) m.sizes.length cs) m.sizes) (h2 : OwnE WrE w B (.slice (some ⟨gc, 0, none⟩) m.code.length cc) m.code) :
    MOwn w #[.slice (some ⟨gs, 0, none⟩) m.sizes.length cs, .int .i64 m.params, .int .i64 m.slots, .slice (some ⟨gc, 0, none⟩) m.code.length cc] ⟨gs, 0, m.sizes.length⟩ ⟨gc, 0, m.code.length⟩ ∧ (∀ c ∈ imL ⟨gs, 0, m.sizes.length⟩ ⟨gc, 0, m.code.length⟩, B ≤ c.1 ∧ c.1 < w.heap.size) := by
  obtain ⟨g', cap', cur, hv, hB, hh, hc, hm, hs, hx⟩ := h1.parts
  obtain ⟨g2, cap2, cur2, hv2, hB2, hh2, hc2, hm2, hs2, hx2⟩ := h2.parts WrOk
  cases hv
  cases hv2
  refine ⟨⟨⟨_, _, _, _, _, _, rfl, Or.inr rfl, Or.inr rfl⟩, fun _ => ⟨cur, _, hh, by show 0 + m.sizes.length ≤ cur.size; rw [hs, Nat.zero_add]; exact hc⟩, fun _ => ⟨cur2, _, hh2, ?_⟩, fun _ _ => h2.ne_int h1⟩, fun c hc => ?_⟩
  · show 0 + m.code.length * 5 ≤ _
    rw [hs2, Nat.zero_add]
    exact Nat.mul_le_mul_right _ hc2
  · obtain ⟨b', o', t⟩ := c
    rcases List.mem_append.1 hc with hc | hc
    · have := intL_mem hc
      simp only at this ⊢
      rw [this.1]
      exact ⟨hB, (Array.getElem?_eq_some_iff.1 hh).1⟩
    · have := wrdL_mem hc
      simp only at this ⊢
      rw [this.1]
      exact ⟨hB2, (Array.getElem?_eq_some_iff.1 hh2).1⟩
/-- An image of its own, as a call hands it back. -/
def MadeIm (w : World) (R : Img) (en : Ending) (w' : World) : Prop := ∃ gs cs gc cc, en = .returned (.agg #[.slice (some ⟨gs, 0, none⟩) R.sizes.length cs, .int .i64 R.params, .int .i64 R.slots, .slice (some ⟨gc, 0, none⟩) R.code.length cc]) ∧ OwnI w' w.heap.size (.slice (some ⟨gs, 0, none⟩) R.sizes.length cs) R.sizes ∧ OwnE WrE w' w.heap.size (.slice (some ⟨gc, 0, none⟩) R.code.length cc) R.code ∧ Below w.heap.size w w'
theorem MadeIm.is {w : World} {R : Img} {en : Ending} {w' : World} (h : MadeIm w R en w') (hw : R.wf) (hwf : ∀ x ∈ R.code, x.wf) : ∃ v', en = .returned (.agg v') ∧ ImgIs w' w.heap.size v' R ∧ Below w.heap.size w w' := by
  obtain ⟨gs, cs, gc, cc, e, h1, h2, b⟩ := h
  exact ⟨_, e, img_of h1 h2 hw hwf, b⟩
theorem MadeIm.own {w : World} {R : Img} {en : Ending} {w' : World} (h : MadeIm w R en w') (hw : R.wf) (hwf : ∀ x ∈ R.code, x.wf) (hn : R.sizes.length + R.code.length * 5 ≤ 50000000) : ∃ v' S C, en = .returned (.agg v') ∧ ImgIs w' w.heap.size v' R ∧ MOwn w' v' S C ∧ (∀ c ∈ imL S C, w.heap.size ≤ c.1 ∧ c.1 < w'.heap.size) ∧ (imL S C).length ≤ 50000000 ∧ Below w.heap.size w w' := by
  obtain ⟨gs, cs, gc, cc, e, h1, h2, b⟩ := h
  obtain ⟨o1, o2⟩ := mown_of h1 h2
  exact ⟨_, _, _, e, img_of h1 h2 hw hwf, o1, o2, by rw [imL_len]; exact hn, b⟩
theorem wrd_wf {w : World} {B : Nat} {a : Option Addr} {l : List Wrd} (h : SlIs WrdIs 5 w B a l) : ∀ x ∈ l, x.wf := fun x hx => by
  obtain ⟨i, hi, rfl⟩ := List.getElem_of_mem hx
  obtain ⟨_, _, _, _, _, _, _, _, ok⟩ := h.at i hi
  exact ok.2
/-- One word's N put anew. -/
theorem OwnE.setN {w : World} {B g n cap : Nat} {l : List Wrd} (h : OwnE WrE w B (.slice (some ⟨g, 0, none⟩) n cap) l) {j : Nat} (hj : j < l.length) (z : Int) :
    OwnE WrE (w.setCell ⟨g, j * 5 + 4, none⟩ (.int .i64 z)) B (.slice (some ⟨g, 0, none⟩) n cap) (l.set j ⟨l[j].op, l[j].r, l[j].a, l[j].b, z⟩) := by
  obtain ⟨g', cap', cur, hv, hB, hh, hc, hm, hs, hx⟩ := h.parts WrOk
  have hn : n = l.length := by cases hv; rfl
  cases hv
  have key := OwnE.of_parts (E := WrE) WrOk (l := l.set j ⟨l[j].op, l[j].r, l[j].a, l[j].b, z⟩) (w := w.setCell ⟨g, j * 5 + 4, none⟩ (.int .i64 z)) (cap := cap) hB (heap_setCell_same w g (j * 5 + 4) cur _ (.int .i64 z) hh) (by rw [List.length_set]; exact hc) hm (by simpa using hs) (fun i hi r hr => ?_)
  · rw [List.length_set] at key
    exact key
  · have hi2 : i < l.length := by rw [List.length_set] at hi; exact hi
    have hsz : cur.size = cap * 5 := hs
    have hr5 : r < 5 := hr
    show (cur.setIfInBounds (j * 5 + 4) (.int .i64 z))[i * 5 + r]? = _
    rw [Array.getElem?_setIfInBounds]
    by_cases e : i = j
    · subst e
      rw [List.getElem_set_self]
      have h0 : cur[i * 5 + r]? = _ := hx i hi2 r hr
      by_cases e2 : r = 4
      · subst e2
        rw [if_pos rfl, if_pos (by rw [hsz]; omega)]
        rfl
      · rw [if_neg (by omega), h0]
        match r, hr5, e2 with
        | 0, _, _ => rfl
        | 1, _, _ => rfl
        | 2, _, _ => rfl
        | 3, _, _ => rfl
        | 4, _, e2 => exact absurd rfl e2
    · rw [if_neg (by omega), List.getElem_set_ne (fun e3 => e e3.symm)]
      exact hx i hi2 r hr
theorem OwnE.w5 {w : World} {B g n cap : Nat} {l : List Wrd} (h : OwnE WrE w B (.slice (some ⟨g, 0, none⟩) n cap) l) {j : Nat} (hj : j < l.length) {y0 y1 y2 y3 y4 : Int} (hy : l[j] = ⟨y0, y1, y2, y3, y4⟩) :
    w.cell? ⟨g, j * 5, none⟩ = some (.int .i64 y0) ∧ w.cell? ⟨g, j * 5 + 1, none⟩ = some (.int .i64 y1) ∧ w.cell? ⟨g, j * 5 + 2, none⟩ = some (.int .i64 y2) ∧ w.cell? ⟨g, j * 5 + 3, none⟩ = some (.int .i64 y3) ∧ w.cell? ⟨g, j * 5 + 4, none⟩ = some (.int .i64 y4) ∧ (∀ o, w.frozen? ⟨g, o, none⟩ = false) ∧ g < w.heap.size := by
  obtain ⟨g', cap', cur, hv, hB, hh, hc, hm, hs, hx⟩ := h.parts WrOk
  cases hv
  have k := fun r hr => hx j hj r hr
  rw [hy] at k
  have c := (cells_of hh).1
  exact ⟨(c _).trans (k 0 (by decide)), (c _).trans (k 1 (by decide)), (c _).trans (k 2 (by decide)), (c _).trans (k 3 (by decide)), (c _).trans (k 4 (by decide)), (cells_of hh).2, (Array.getElem?_eq_some_iff.1 hh).1⟩
end Go.Proofs.YtehccknppnmbkaaDoor
