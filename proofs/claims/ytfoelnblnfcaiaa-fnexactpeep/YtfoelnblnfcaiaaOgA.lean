/- Lists of structs that a call owns: literals, append of one. -/
import Derived.Test.YtfoelnblnfcaiaaOwnIntL
import Derived.Test.YtfoelnblnfcaiaaMksW
namespace Go.Proofs.Ytfoelnblnfcaiaa
open Go.ChangeShapes Go.WideShapes Go.ChangeAt Go.RowKit
/-- How a thing's cells stand in a list. -/
structure Elem (α : Type) where
  T : TypeId
  ST : TypeId
  sz : Nat
  bys : Nat
  z : Value
  cs : α → List Value
structure Elem.Ok {α : Type} (E : Elem α) : Prop where
  und : Try.prog.underlying E.ST = some (.slice E.T)
  info : (Try.prog.info? E.T).map (fun i => (i.zero, i.size, i.bytes)) = some (some E.z, E.sz, E.bys)
  zs : E.z.cells.size = E.sz
  pos : 0 < E.sz
  few : E.bys ≤ 1000
  len : ∀ x, (E.cs x).length = E.sz
  one : ∀ x, ∀ u ∈ E.cs x, u.oneCell' = true
section
variable {α : Type} {E : Elem α}
/-- The value is a slice of these things, in a block of its own from B on. -/
def OwnE (E : Elem α) (w : World) (B : Nat) (v : Value) (l : List α) : Prop := ∃ g cap, v = .slice (some ⟨g, 0, none⟩) l.length cap ∧ w.ownsRow B E.T E.sz v l.length (l.flatMap E.cs)
theorem flatE_len (O : E.Ok) (l : List α) : (l.flatMap E.cs).length = l.length * E.sz := by
  induction l with
  | nil => simp
  | cons x l ih => rw [List.flatMap_cons, List.length_append, ih, O.len, List.length_cons, Nat.succ_mul]; omega
theorem flatE_at (O : E.Ok) : ∀ (l : List α) (j r : Nat) (hj : j < l.length), r < E.sz → (l.flatMap E.cs)[j * E.sz + r]? = (E.cs l[j])[r]?
  | [], _, _, hj, _ => absurd hj (Nat.not_lt_zero _)
  | x :: l, 0, r, _, hr => by
    rw [List.flatMap_cons, List.getElem?_append_left (by rw [O.len]; omega)]; simp
  | x :: l, j + 1, r, hj, hr => by
    have := flatE_at O l j r (by simpa using hj) hr
    have e : (j + 1) * E.sz + r - E.sz = j * E.sz + r := by rw [Nat.succ_mul]; omega
    rw [List.flatMap_cons, List.getElem?_append_right (by rw [O.len, Nat.succ_mul]; omega), O.len, e, this]; simp
theorem mul_stepE (j n sz : Nat) (h : j < n) : j * sz + sz ≤ n * sz := by
  have := Nat.mul_le_mul_right sz (show j + 1 ≤ n from h)
  rw [Nat.succ_mul] at this; exact this
theorem OwnE.parts (O : E.Ok) {w : World} {B : Nat} {v : Value} {l : List α} (h : OwnE E w B v l) : ∃ g cap cur, v = .slice (some ⟨g, 0, none⟩) l.length cap ∧ B ≤ g ∧ w.heap[g]? = some (.cells cur E.T (0, 0)) ∧ l.length ≤ cap ∧ cap ≤ maxLen ∧ cur.size = cap * E.sz ∧ ∀ j (hj : j < l.length) r, r < E.sz → cur[j * E.sz + r]? = (E.cs l[j])[r]? := by
  obtain ⟨g0, cap0, hv0, hl, ⟨h0, _⟩ | ⟨g, cap, cur, hv, hB, hh, hc, hm, hs, ht⟩⟩ := h
  · rw [hv0] at h0; cases h0
  · refine ⟨g, cap, cur, hv, hB, hh, hc, hm, hs, fun j hj r hr => ?_⟩
    have hlt : j * E.sz + r < l.length * E.sz := by have := mul_stepE j l.length E.sz hj; omega
    have h1 : (cur.toList.take (l.length * E.sz))[j * E.sz + r]? = (l.flatMap E.cs)[j * E.sz + r]? := by rw [ht]
    rw [List.getElem?_take_of_lt hlt, flatE_at O l j r hj hr] at h1
    simpa using h1
theorem OwnE.of_parts (O : E.Ok) {w : World} {B g cap : Nat} {cur : Array Value} {l : List α} (hB : B ≤ g) (hh : w.heap[g]? = some (.cells cur E.T (0, 0))) (hc : l.length ≤ cap) (hm : cap ≤ maxLen) (hs : cur.size = cap * E.sz) (hx : ∀ j (hj : j < l.length) r, r < E.sz → cur[j * E.sz + r]? = (E.cs l[j])[r]?) : OwnE E w B (.slice (some ⟨g, 0, none⟩) l.length cap) l := by
  refine ⟨g, cap, rfl, flatE_len O l, Or.inr ⟨g, cap, cur, rfl, hB, hh, hc, hm, hs, ?_⟩⟩
  apply List.ext_getElem?
  intro i
  by_cases hi : i < l.length * E.sz
  · rw [List.getElem?_take_of_lt hi]
    have hp := O.pos
    have hj : i / E.sz < l.length := Nat.div_lt_of_lt_mul (by rw [Nat.mul_comm]; exact hi)
    have hr : i % E.sz < E.sz := Nat.mod_lt _ hp
    have e : i / E.sz * E.sz + i % E.sz = i := by rw [Nat.mul_comm]; exact Nat.div_add_mod _ _
    have h1 := hx (i / E.sz) hj (i % E.sz) hr
    have h2 := flatE_at O l (i / E.sz) (i % E.sz) hj hr
    rw [e] at h1 h2
    rw [h2, ← h1]; simp
  · rw [List.getElem?_eq_none (by simp; omega), List.getElem?_eq_none (by rw [flatE_len O]; omega)]
theorem OwnE.stays {w w' : World} {B : Nat} {v : Value} {l : List α} (h : OwnE E w B v l) (bel : Below w.heap.size w w') : OwnE E w' B v l :=
  let ⟨g, cap, hv, ho⟩ := h
  ⟨g, cap, hv, ownsI_stays ho bel⟩
theorem OwnE.mono {w : World} {B B' : Nat} {v : Value} {l : List α} (h : OwnE E w B v l) (hB : B' ≤ B) : OwnE E w B' v l := by
  obtain ⟨g, cap, hv, hl, h0 | ⟨g', cap', cur, hv', hB', hr⟩⟩ := h
  · exact ⟨g, cap, hv, hl, Or.inl h0⟩
  · exact ⟨g, cap, hv, hl, Or.inr ⟨g', cap', cur, hv', Nat.le_trans hB hB', hr⟩⟩
theorem OwnE.low {w : World} {B : Nat} {v : Value} {l : List α} (h : OwnE E w B v l) : ∀ b, v.ownBlock = some b → B ≤ b ∧ b < w.heap.size := fun b hb => h.choose_spec.choose_spec.2.lt b hb
theorem OwnE.kept {w w' : World} {B : Nat} {v : Value} {l : List α} {row : Option Nat} (h : OwnE E w B v l) (hg : w.grownBy w' row) (hne : v.ownBlock ≠ row) : OwnE E w' B v l := by
  obtain ⟨g, cap, hv, hl, h0 | ⟨g', cap', cur, hv', hB', hh, hr⟩⟩ := h
  · exact ⟨g, cap, hv, hl, Or.inl h0⟩
  · refine ⟨g, cap, hv, hl, Or.inr ⟨g', cap', cur, hv', hB', (hg.block g' (Array.getElem?_eq_some_iff.1 hh).1 ?_).trans hh, hr⟩⟩
    intro e; apply hne; rw [← e, hv']; rfl
/-- It stays where its own block does. -/
theorem OwnE.blk {w w' : World} {B : Nat} {v : Value} {l : List α} (h : OwnE E w B v l) (hb : ∀ g, v.ownBlock = some g → g < w.heap.size → w'.heap[g]? = w.heap[g]?) : OwnE E w' B v l := by
  obtain ⟨g0, cap, hv, hl, h0 | ⟨g', cap', cur, hv', hB', hh, hr⟩⟩ := h
  · exact ⟨g0, cap, hv, hl, Or.inl h0⟩
  · exact ⟨g0, cap, hv, hl, Or.inr ⟨g', cap', cur, hv', hB', (hb g' (by rw [hv']; rfl) (Array.getElem?_eq_some_iff.1 hh).1).trans hh, hr⟩⟩
theorem OwnE.butG {w w' : World} {B g : Nat} {v : Value} {l : List α} (h : OwnE E w B v l) (hb : But g w w') (hne : v.ownBlock ≠ some g) : OwnE E w' B v l :=
  h.blk (fun k hk hlt => hb.block k hlt (fun e => hne (by rw [hk, e])))
theorem own_nil (O : E.Ok) (w : World) (n : Nat) (hn : n = w.heap.size) : OwnE E (w.alloc (.cells #[] E.T)) w.heap.size (.slice (some ⟨n, 0, none⟩) 0 0) ([] : List α) := by
  subst hn
  exact OwnE.of_parts O (l := []) (Nat.le_refl _) (by show (w.heap.push _)[w.heap.size]? = _; exact Array.getElem?_push_size) (Nat.le_refl _) (Nat.zero_le _) (by simp) (fun j hj => absurd hj (Nat.not_lt_zero _))
theorem run_appE (O : E.Ok) {w : World} {B : Nat} {v1 : Value} {l1 : List α} {x : α} {b o cap2 : Nat} (ty : TypeId) (h1 : OwnE E w B v1 l1) (h2 : ∀ r, r < E.sz → w.cell? ⟨b, o + r, none⟩ = (E.cs x)[r]?) (hn : l1.length + 1 ≤ 8000000) (hB : B ≤ w.heap.size) :
    ∃ v' w', (Builtin.append_ #[E.ST, E.ST] ty #[v1, .slice (some ⟨b, o, none⟩) 1 cap2]).run Try.prog w = .ok v' w' ∧ OwnE E w' B v' (l1 ++ [x]) ∧ w.grownBy w' v1.ownBlock ∧ (v'.ownBlock = v1.ownBlock ∨ v'.ownBlock = some w.heap.size) := by
  obtain ⟨i0, hi, hz0, hz1, hz2⟩ := info_parts O.info
  obtain ⟨g, cap, hv, hown⟩ := h1
  have hf := O.few
  have hbn : (l1.length + 1) * E.bys ≤ 8000000 * 1000 := Nat.mul_le_mul hn hf
  obtain ⟨v', w', hr, ho, hg, hnil, hloc⟩ := run_append_own_at (P := Try.prog) w B E.ST ty E.T i0 E.z E.sz E.bys O.und hi hz0 hz1 hz2 O.zs O.pos v1 l1.length (l1.flatMap E.cs) hown ⟨b, o, none⟩ 1 cap2 (E.cs x) (by rw [O.len]; omega) (fun j u hj => by rw [addr_add', h2 j (by have := (List.getElem?_eq_some_iff.1 hj).1; rwa [O.len] at this), hj]) (O.one x) (by unfold maxLen; omega) (by omega) hB
  refine ⟨v', w', hr, ?_, hg, hloc⟩
  unfold OwnE
  rw [List.length_append, List.flatMap_append]
  have ho' := ho
  obtain ⟨_, ⟨h0, _⟩ | ⟨g', cap', _, hv', _⟩⟩ := ho'
  · have := (hnil.1 h0).1; rw [hv] at this; cases this
  · exact ⟨g', cap', hv', by simpa using ho⟩
theorem list_appE (O : E.Ok) {ops : Array Oper} {o : Oper} {a : Act} {Q : Exit → Act → World → Prop} {rest : List Oper} (w : World) (hgd : o.guard = none) (s y : Operand) (ho : o.op = .call { callee := .builtin .append, args := #[s, y], argTypes := #[E.ST, E.ST] })
    (B : Nat) (v1 : Value) (l1 : List α) (x : α) (b o2 cap2 : Nat) (hs : a.eval s = v1) (hx : a.eval y = .slice (some ⟨b, o2, none⟩) 1 cap2) (h1 : OwnE E w B v1 l1) (h2 : ∀ r, r < E.sz → w.cell? ⟨b, o2 + r, none⟩ = (E.cs x)[r]?) (hn : l1.length + 1 ≤ 8000000) (hB : B ≤ w.heap.size)
    (h : ∀ v' w', OwnE E w' B v' (l1 ++ [x]) → w.grownBy w' v1.ownBlock → (v'.ownBlock = v1.ownBlock ∨ v'.ownBlock = some w.heap.size) → wpList Try.prog ops Q rest (a.put o.dst v') w') :
    wpList Try.prog ops Q (o :: rest) a w := by
  refine wpList_plain hgd fun K hK => ?_
  obtain ⟨v', w', hr, r1, r2, r3⟩ := run_appE O (cap2 := cap2) o.type h1 h2 hn hB
  unfold Oper.wp execOp
  simp only [ho, resolve, invoke, builtin, Sem.run_bind, Sem.run_pure, Result.andThen_ok, List.map_toArray, List.map_cons, List.map_nil, hs, hx, hr]
  exact hK _ _ (h v' w' r1 r2 r3)
theorem step_appE (O : E.Ok) {ops : Array Oper} {o : Oper} {a : Act} {Q : Exit → Act → World → Prop} {K : Act → World → Prop} {F : Prop} (w : World) (hgd : o.guard = none) (s y : Operand) (ho : o.op = .call { callee := .builtin .append, args := #[s, y], argTypes := #[E.ST, E.ST] })
    (B : Nat) (v1 : Value) (l1 : List α) (x : α) (b o2 cap2 : Nat) (hs : a.eval s = v1) (hx : a.eval y = .slice (some ⟨b, o2, none⟩) 1 cap2) (h1 : OwnE E w B v1 l1) (h2 : ∀ r, r < E.sz → w.cell? ⟨b, o2 + r, none⟩ = (E.cs x)[r]?) (hn : l1.length + 1 ≤ 8000000) (hB : B ≤ w.heap.size)
    (h : ∀ v' w', OwnE E w' B v' (l1 ++ [x]) → w.grownBy w' v1.ownBlock → (v'.ownBlock = v1.ownBlock ∨ v'.ownBlock = some w.heap.size) → K (a.put o.dst v') w') :
    if Region.wanted o (yielded ops a.tmps) = true then Oper.wp Try.prog o a w K Q else F := by
  have hw : Region.wanted o (yielded ops a.tmps) = true := by simp [Region.wanted, hgd]
  rw [if_pos hw]
  obtain ⟨v', w', hr, r1, r2, r3⟩ := run_appE O (cap2 := cap2) o.type h1 h2 hn hB
  unfold Oper.wp execOp
  simp only [ho, resolve, invoke, builtin, Sem.run_bind, Sem.run_pure, Result.andThen_ok, List.map_toArray, List.map_cons, List.map_nil, hs, hx, hr]
  exact h v' w' r1 r2 r3
/-- The cells of element j. -/
theorem OwnE.at (O : E.Ok) {w : World} {B g n cap : Nat} {l : List α} (h : OwnE E w B (.slice (some ⟨g, 0, none⟩) n cap) l) (j : Nat) (hj : j < l.length) (r : Nat) (hr : r < E.sz) : w.cell? ⟨g, 0 + j * E.sz + r, none⟩ = (E.cs l[j])[r]? := by
  obtain ⟨g', cap', cur, hv, _, hh, _, _, _, hx⟩ := h.parts O
  cases hv
  simp only [World.cell?, hh, Nat.zero_add]
  exact hx j hj r hr
end
end Go.Proofs.Ytfoelnblnfcaiaa

/- Words in a list of one's own; an image of one's own out of its two lists. -/
namespace Go.Proofs.Ytfoelnblnfcaiaa
open Go.ChangeShapes Go.WideShapes Go.ChangeAt Go.RowKit
def wcs (x : Wrd) : List Value := [.int .i64 x.op, .int .i64 x.r, .int .i64 x.a, .int .i64 x.b, .int .i64 x.n]
def WrE : Elem Wrd := { T := 44, ST := 28, sz := 5, bys := 40, z := .agg #[.int .i64 0, .int .i64 0, .int .i64 0, .int .i64 0, .int .i64 0], cs := wcs }
theorem WrOk : WrE.Ok where
  und := Try.underlying28
  info := by kernel_rfl
  zs := rfl
  pos := by decide
  few := by decide
  len := fun _ => rfl
  one := fun x u hu => by simp [WrE, wcs] at hu; rcases hu with rfl | rfl | rfl | rfl | rfl <;> rfl
theorem wrd_slis {w : World} {B g n cap : Nat} {l : List Wrd} (h : OwnE WrE w B (.slice (some ⟨g, 0, none⟩) n cap) l) (hwf : ∀ x ∈ l, x.wf) : SlIs WrdIs 5 w B (some ⟨g, 0, none⟩) l := by
  obtain ⟨g', cap', cur, hv, hB, hh, hc, hm, hs, hx⟩ := h.parts WrOk
  cases hv
  refine ⟨Nat.le_trans hc hm, fun i => (wcs (l[i]?.getD default)).toArray, Or.inr ⟨g, 0, rfl, hB, (Array.getElem?_eq_some_iff.1 hh).1, fun _ => ⟨cur, _, hh⟩, fun i hi => ⟨rfl, fun j hj => ?_⟩⟩, fun i hi => ?_⟩
  · have h0 := hx i hi j hj
    rw [(cells_of hh).1, Nat.zero_add]
    show cur[i * 5 + j]? = (wcs (l[i]?.getD default)).toArray[j]?
    rw [List.getElem?_eq_getElem hi]
    exact h0.trans (by simp [WrE])
  · show WrdIs w B (wcs (l[i]?.getD default)).toArray l[i]
    rw [List.getElem?_eq_getElem hi]
    exact ⟨rfl, hwf _ (List.getElem_mem hi)⟩
theorem OwnE.ne_int {w : World} {B B2 g n cap g2 n2 cap2 : Nat} {l : List Wrd} {zs : List Int} (h : OwnE WrE w B (.slice (some ⟨g, 0, none⟩) n cap) l) (h2 : OwnI w B2 (.slice (some ⟨g2, 0, none⟩) n2 cap2) zs) : g2 ≠ g := fun e => by
  obtain ⟨g', cap', cur, hv, _, hh, _⟩ := h.parts WrOk
  obtain ⟨g3, cap3, cur3, hv3, _, hh3, _⟩ := h2.parts
  cases hv
  cases hv3
  rw [e, hh] at hh3
  injection hh3 with hh3
  injection hh3 with _ e2
  exact absurd e2 (by decide)
/-- The image is these two lists, each in a block of its own. -/
theorem img_of {w : World} {B gs cs gc cc : Nat} {m : Img} (h1 : OwnI w B (.slice (some ⟨gs, 0, none⟩) m.sizes.length cs) m.sizes) (h2 : OwnE WrE w B (.slice (some ⟨gc, 0, none⟩) m.code.length cc) m.code) (hw : m.wf) (hwf : ∀ x ∈ m.code, x.wf) :
    ImgIs w B #[.slice (some ⟨gs, 0, none⟩) m.sizes.length cs, .int .i64 m.params, .int .i64 m.slots, .slice (some ⟨gc, 0, none⟩) m.code.length cc] m :=
  ⟨_, _, _, _, rfl, hw, h1.is.2, wrd_slis h2 hwf⟩
theorem mown_of {w : World} {B gs cs gc cc : Nat} {m : Img} (h1 : OwnI w B (.slice (some ⟨gs, 0, none⟩) m.sizes.length cs) m.sizes) (h2 : OwnE WrE w B (.slice (some ⟨gc, 0, none⟩) m.code.length cc) m.code) :
    MOwn w #[.slice (some ⟨gs, 0, none⟩) m.sizes.length cs, .int .i64 m.params, .int .i64 m.slots, .slice (some ⟨gc, 0, none⟩) m.code.length cc] ⟨gs, 0, m.sizes.length⟩ ⟨gc, 0, m.code.length⟩ ∧ (∀ c ∈ imL ⟨gs, 0, m.sizes.length⟩ ⟨gc, 0, m.code.length⟩, B ≤ c.1 ∧ c.1 < w.heap.size) := by
  obtain ⟨g', cap', cur, hv, hB, hh, hc, hm, hs, hx⟩ := h1.parts
  obtain ⟨g2, cap2, cur2, hv2, hB2, hh2, hc2, hm2, hs2, hx2⟩ := h2.parts WrOk
  cases hv
  cases hv2
  refine ⟨⟨⟨_, _, _, _, _, _, rfl, Or.inr rfl, Or.inr rfl⟩, fun _ => ⟨cur, _, hh, by show 0 + m.sizes.length ≤ cur.size; rw [hs, Nat.zero_add]; exact hc⟩, fun _ => ⟨cur2, _, hh2, ?_⟩, fun _ _ => h2.ne_int h1⟩, fun c hc => ?_⟩
  · show 0 + m.code.length * 5 ≤ _
    rw [hs2, Nat.zero_add]
    exact Nat.mul_le_mul_right _ hc2
  · obtain ⟨b', o', t⟩ := c
    rcases List.mem_append.1 hc with hc | hc
    · have := intL_mem hc
      simp only at this ⊢
      rw [this.1]
      exact ⟨hB, (Array.getElem?_eq_some_iff.1 hh).1⟩
    · have := wrdL_mem hc
      simp only at this ⊢
      rw [this.1]
      exact ⟨hB2, (Array.getElem?_eq_some_iff.1 hh2).1⟩
/-- An image of its own, as a call hands it back. -/
def MadeIm (w : World) (R : Img) (en : Ending) (w' : World) : Prop := ∃ gs cs gc cc, en = .returned (.agg #[.slice (some ⟨gs, 0, none⟩) R.sizes.length cs, .int .i64 R.params, .int .i64 R.slots, .slice (some ⟨gc, 0, none⟩) R.code.length cc]) ∧ OwnI w' w.heap.size (.slice (some ⟨gs, 0, none⟩) R.sizes.length cs) R.sizes ∧ OwnE WrE w' w.heap.size (.slice (some ⟨gc, 0, none⟩) R.code.length cc) R.code ∧ Below w.heap.size w w'
theorem MadeIm.is {w : World} {R : Img} {en : Ending} {w' : World} (h : MadeIm w R en w') (hw : R.wf) (hwf : ∀ x ∈ R.code, x.wf) : ∃ v', en = .returned (.agg v') ∧ ImgIs w' w.heap.size v' R ∧ Below w.heap.size w w' := by
  obtain ⟨gs, cs, gc, cc, e, h1, h2, b⟩ := h
  exact ⟨_, e, img_of h1 h2 hw hwf, b⟩
theorem MadeIm.own {w : World} {R : Img} {en : Ending} {w' : World} (h : MadeIm w R en w') (hw : R.wf) (hwf : ∀ x ∈ R.code, x.wf) (hn : R.sizes.length + R.code.length * 5 ≤ 50000000) : ∃ v' S C, en = .returned (.agg v') ∧ ImgIs w' w.heap.size v' R ∧ MOwn w' v' S C ∧ (∀ c ∈ imL S C, w.heap.size ≤ c.1 ∧ c.1 < w'.heap.size) ∧ (imL S C).length ≤ 50000000 ∧ Below w.heap.size w w' := by
  obtain ⟨gs, cs, gc, cc, e, h1, h2, b⟩ := h
  obtain ⟨o1, o2⟩ := mown_of h1 h2
  exact ⟨_, _, _, e, img_of h1 h2 hw hwf, o1, o2, by rw [imL_len]; exact hn, b⟩
theorem wrd_wf {w : World} {B : Nat} {a : Option Addr} {l : List Wrd} (h : SlIs WrdIs 5 w B a l) : ∀ x ∈ l, x.wf := fun x hx => by
  obtain ⟨i, hi, rfl⟩ := List.getElem_of_mem hx
  obtain ⟨_, _, _, _, _, _, _, _, ok⟩ := h.at i hi
  exact ok.2
/-- One word's N put anew. -/
theorem OwnE.setN {w : World} {B g n cap : Nat} {l : List Wrd} (h : OwnE WrE w B (.slice (some ⟨g, 0, none⟩) n cap) l) {j : Nat} (hj : j < l.length) (z : Int) :
    OwnE WrE (w.setCell ⟨g, j * 5 + 4, none⟩ (.int .i64 z)) B (.slice (some ⟨g, 0, none⟩) n cap) (l.set j ⟨l[j].op, l[j].r, l[j].a, l[j].b, z⟩) := by
  obtain ⟨g', cap', cur, hv, hB, hh, hc, hm, hs, hx⟩ := h.parts WrOk
  have hn : n = l.length := by cases hv; rfl
  cases hv
  have key := OwnE.of_parts (E := WrE) WrOk (l := l.set j ⟨l[j].op, l[j].r, l[j].a, l[j].b, z⟩) (w := w.setCell ⟨g, j * 5 + 4, none⟩ (.int .i64 z)) (cap := cap) hB (heap_setCell_same w g (j * 5 + 4) cur _ (.int .i64 z) hh) (by rw [List.length_set]; exact hc) hm (by simpa using hs) (fun i hi r hr => ?_)
  · rw [List.length_set] at key
    exact key
  · have hi2 : i < l.length := by rw [List.length_set] at hi; exact hi
    have hsz : cur.size = cap * 5 := hs
    have hr5 : r < 5 := hr
    show (cur.setIfInBounds (j * 5 + 4) (.int .i64 z))[i * 5 + r]? = _
    rw [Array.getElem?_setIfInBounds]
    by_cases e : i = j
    · subst e
      rw [List.getElem_set_self]
      have h0 : cur[i * 5 + r]? = _ := hx i hi2 r hr
      by_cases e2 : r = 4
      · subst e2
        rw [if_pos rfl, if_pos (by rw [hsz]; omega)]
        rfl
      · rw [if_neg (by omega), h0]
        match r, hr5, e2 with
        | 0, _, _ => rfl
        | 1, _, _ => rfl
        | 2, _, _ => rfl
        | 3, _, _ => rfl
        | 4, _, e2 => exact absurd rfl e2
    · rw [if_neg (by omega), List.getElem_set_ne (fun e3 => e e3.symm)]
      exact hx i hi2 r hr
theorem OwnE.w5 {w : World} {B g n cap : Nat} {l : List Wrd} (h : OwnE WrE w B (.slice (some ⟨g, 0, none⟩) n cap) l) {j : Nat} (hj : j < l.length) {y0 y1 y2 y3 y4 : Int} (hy : l[j] = ⟨y0, y1, y2, y3, y4⟩) :
    w.cell? ⟨g, j * 5, none⟩ = some (.int .i64 y0) ∧ w.cell? ⟨g, j * 5 + 1, none⟩ = some (.int .i64 y1) ∧ w.cell? ⟨g, j * 5 + 2, none⟩ = some (.int .i64 y2) ∧ w.cell? ⟨g, j * 5 + 3, none⟩ = some (.int .i64 y3) ∧ w.cell? ⟨g, j * 5 + 4, none⟩ = some (.int .i64 y4) ∧ (∀ o, w.frozen? ⟨g, o, none⟩ = false) ∧ g < w.heap.size := by
  obtain ⟨g', cap', cur, hv, hB, hh, hc, hm, hs, hx⟩ := h.parts WrOk
  cases hv
  have k := fun r hr => hx j hj r hr
  rw [hy] at k
  have c := (cells_of hh).1
  exact ⟨(c _).trans (k 0 (by decide)), (c _).trans (k 1 (by decide)), (c _).trans (k 2 (by decide)), (c _).trans (k 3 (by decide)), (c _).trans (k 4 (by decide)), (cells_of hh).2, (Array.getElem?_eq_some_iff.1 hh).1⟩
end Go.Proofs.Ytfoelnblnfcaiaa
