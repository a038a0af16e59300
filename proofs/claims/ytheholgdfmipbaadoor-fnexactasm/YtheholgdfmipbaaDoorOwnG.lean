/- Lists of structs that a call owns: literals, append of one. -/
import Derived.Test.YtheholgdfmipbaaDoorOwnIntL
namespace Go.Proofs.YtheholgdfmipbaaDoor
open Go.ChangeShapes Go.WideShapes Go.ChangeAt Go.RowKit
/-- How a thing's cells stand in a list. -/
structure Elem (α : Type) where
  T : TypeId
  ST : TypeId
  sz : Nat
  bys : Nat
  z : Value
  cs : α → List Value
structure Elem.Ok {α : Type} (E : Elem α) : Prop where
  und : Tryd.prog.underlying E.ST = some (.slice E.T)
  info : (Tryd.prog.info? E.T).map (fun i => (i.zero, i.size, i.bytes)) = some (some E.z, E.sz, E.bys)
  zs : E.z.cells.size = E.sz
  pos : 0 < E.sz
  few : E.bys ≤ 1000
  len : ∀ x, (E.cs x).length = E.sz
  one : ∀ x, ∀ u ∈ E.cs x, u.oneCell' = true
section
variable {α : Type} {E : Elem α}
/-- The value is a slice of these things, in a block of its own from B on. -/
def OwnE (E : Elem α) (w : World) (B : Nat) (v : Value) (l : List α) : Prop := ∃ g cap, v = .slice (some ⟨g, 0, none⟩) l.length cap ∧ w.ownsRow B E.T E.sz v l.length (l.flatMap E.cs)
theorem flatE_len (O : E.Ok) (l : List α) : (l.flatMap E.cs).length = l.length * E.sz := by
  induction l with
  | nil => simp
  | cons x l ih => rw [List.flatMap_cons, List.length_append, ih, O.len, List.length_cons, Nat.succ_mul]; omega
theorem flatE_at (O : E.Ok) : ∀ (l : List α) (j r : Nat) (hj : j < l.length), r < E.sz → (l.flatMap E.cs)[j * E.sz + r]? = (E.cs l[j])[r]?
  | [], _, _, hj, _ => absurd hj (Nat.not_lt_zero _)
  | x :: l, 0, r, _, hr => by
    rw [List.flatMap_cons, List.getElem?_append_left (by rw [O.len]; omega)]; simp
  | x :: l, j + 1, r, hj, hr => by
    have := flatE_at O l j r (by simpa using hj) hr
    have e : (j + 1) * E.sz + r - E.sz = j * E.sz + r := by rw [Nat.succ_mul]; omega
    rw [List.flatMap_cons, List.getElem?_append_right (by rw [O.len, Nat.succ_mul]; omega), O.len, e, this]; simp
theorem mul_stepE (j n sz : Nat) (h : j < n) : j * sz + sz ≤ n * sz := by
  have := Nat.mul_le_mul_right sz (show j + 1 ≤ n from h)
  rw [Nat.succ_mul] at this; exact this
theorem OwnE.parts (O : E.Ok) {w : World} {B : Nat} {v : Value} {l : List α} (h : OwnE E w B v l) : ∃ g cap cur, v = .slice (some ⟨g, 0, none⟩) l.length cap ∧ B ≤ g ∧ w.heap[g]? = some (.cells cur E.T (0, 0)) ∧ l.length ≤ cap ∧ cap ≤ maxLen ∧ cur.size = cap * E.sz ∧ ∀ j (hj : j < l.length) r, r < E.sz → cur[j * E.sz + r]? = (E.cs l[j])[r]? := by
  obtain ⟨g0, cap0, hv0, hl, ⟨h0, _⟩ | ⟨g, cap, cur, hv, hB, hh, hc, hm, hs, ht⟩⟩ := h
  · rw [hv0] at h0; cases h0
  · refine ⟨g, cap, cur, hv, hB, hh, hc, hm, hs, fun j hj r hr => ?_⟩
    have hlt : j * E.sz + r < l.length * E.sz := by have := mul_stepE j l.length E.sz hj; omega
    have h1 : (cur.toList.take (l.length * E.sz))[j * E.sz + r]? = (l.flatMap E.cs)[j * E.sz + r]? := by rw [ht]
    rw [List.getElem?_take_of_lt hlt, flatE_at O l j r hj hr] at h1
    simpa using h1
theorem OwnE.of_parts (O : E.Ok) {w : World} {B g cap : Nat} {cur : Array Value} {l : List α} (hB : B ≤ g) (hh : w.heap[g]? = some (.cells cur E.T (0, 0))) (hc : l.length ≤ cap) (hm : cap ≤ maxLen) (hs : cur.size = cap * E.sz) (hx : ∀ j (hj : j < l.length) r, r < E.sz → cur[j * E.sz + r]? = (E.cs l[j])[r]?) : OwnE E w B (.slice (some ⟨g, 0, none⟩) l.length cap) l := by
  refine ⟨g, cap, rfl, flatE_len O l, Or.inr ⟨g, cap, cur, rfl, hB, hh, hc, hm, hs, ?_⟩⟩
  apply List.ext_getElem?
  intro i
  by_cases hi : i < l.length * E.sz
  · rw [List.getElem?_take_of_lt hi]
    have hp := O.pos
    have hj : i / E.sz < l.length := Nat.div_lt_of_lt_mul (by rw [Nat.mul_comm]; exact hi)
    have hr : i % E.sz < E.sz := Nat.mod_lt _ hp
    have e : i / E.sz * E.sz + i % E.sz = i := by rw [Nat.mul_comm]; exact Nat.div_add_mod _ _
    have h1 := hx (i / E.sz) hj (i % E.sz) hr
    have h2 := flatE_at O l (i / E.sz) (i % E.sz) hj hr
    rw [e] at h1 h2
    rw [h2, ← h1]; simp
  · rw [List.getElem?_eq_none (by simp; omega), List.getElem?_eq_none (by rw [flatE_len O]; omega)]
theorem OwnE.stays {w w' : World} {B : Nat} {v : Value} {l : List α} (h : OwnE E w B v l) (bel : Below w.heap.size w w') : OwnE E w' B v l :=
  let ⟨g, cap, hv, ho⟩ := h
  ⟨g, cap, hv, ownsI_stays ho bel⟩
theorem OwnE.mono {w : World} {B B' : Nat} {v : Value} {l : List α} (h : OwnE E w B v l) (hB : B' ≤ B) : OwnE E w B' v l := by
  obtain ⟨g, cap, hv, hl, h0 | ⟨g', cap', cur, hv', hB', hr⟩⟩ := h
  · exact ⟨g, cap, hv, hl, Or.inl h0⟩
  · exact ⟨g, cap, hv, hl, Or.inr ⟨g', cap', cur, hv', Nat.le_trans hB hB', hr⟩⟩
theorem OwnE.low {w : World} {B : Nat} {v : Value} {l : List α} (h : OwnE E w B v l) : ∀ b, v.ownBlock = some b → B ≤ b ∧ b < w.heap.size := fun b hb => h.choose_spec.choose_spec.2.lt b hb
theorem OwnE.kept {w w' : World} {B : Nat} {v : Value} {l : List α} {row : Option Nat} (h : OwnE E w B v l) (hg : w.grownBy w' row) (hne : v.ownBlock ≠ row) : OwnE E w' B v l := by
  obtain ⟨g, cap, hv, hl, h0 | ⟨g', cap', cur, hv', hB', hh, hr⟩⟩ := h
  · exact ⟨g, cap, hv, hl, Or.inl h0⟩
  · refine ⟨g, cap, hv, hl, Or.inr ⟨g', cap', cur, hv', hB', (hg.block g' (Array.getElem?_eq_some_iff.1 hh).1 ?_).trans hh, hr⟩⟩
    intro e; apply hne; rw [← e, hv']; rfl
/-- It stays where its own block does. -/
theorem OwnE.blk {w w' : World} {B : Nat} {v : Value} {l : List α} (h : OwnE E w B v l) (hb : ∀ g, v.ownBlock = some g → g < w.heap.size → w'.heap[g]? = w.heap[g]?) : OwnE E w' B v l := by
  obtain ⟨g0, cap, hv, hl, h0 | ⟨g', cap', cur, hv', hB', hh, hr⟩⟩ := h
  · exact ⟨g0, cap, hv, hl, Or.inl h0⟩
  · exact ⟨g0, cap, hv, hl, Or.inr ⟨g', cap', cur, hv', hB', (hb g' (by rw [hv']; rfl) (Array.getElem?_eq_some_iff.1 hh).1).trans hh, hr⟩⟩
theorem OwnE.butG {w w' : World} {B g : Nat} {v : Value} {l : List α} (h : OwnE E w B v l) (hb : But g w w') (hne : v.ownBlock ≠ some g) : OwnE E w' B v l :=
  h.blk (fun k hk hlt => hb.block k hlt (fun e => hne (by rw [hk, e])))
theorem own_nil (O : E.Ok) (w : World) (n : Nat) (hn : n = w.heap.size) : OwnE E (w.alloc (.cells #[] E.T)) w.heap.size (.slice (some ⟨n, 0, none⟩) 0 0) ([] : List α) := by
  subst hn
  exact OwnE.of_parts O (l := []) (Nat.le_refl _) (by show (w.heap.push _)[w.heap.size]? = _; exact Array.getElem?_push_size) (Nat.le_refl _) (Nat.zero_le _) (by simp) (fun j hj => absurd hj (Nat.not_lt_zero _))
theorem run_appE (O : E.Ok) {w : World} {B : Nat} {v1 : Value} {l1 : List α} {x : α} {b o cap2 : Nat} (ty : TypeId) (h1 : OwnE E w B v1 l1) (h2 : ∀ r, r < E.sz → w.cell? ⟨b, o + r, none⟩ = (E.cs x)[r]?) (hn : l1.length + 1 ≤ 8000000) (hB : B ≤ w.heap.size) :
    ∃ v' w', (Builtin.append_ #[E.ST, E.ST] ty #[v1, .slice (some ⟨b, o, none⟩) 1 cap2]).run Tryd.prog w = .ok v' w' ∧ OwnE E w' B v' (l1 ++ [x]) ∧ w.grownBy w' v1.ownBlock ∧ (v'.ownBlock = v1.ownBlock ∨ v'.ownBlock = some w.heap.size) := by
  obtain ⟨i0, hi, hz0, hz1, hz2⟩ := info_parts O.info
  obtain ⟨g, cap, hv, hown⟩ := h1
  have hf := O.few
  have hbn : (l1.length + 1) * E.bys ≤ 8000000 * 1000 := Nat.mul_le_mul hn hf
  obtain ⟨v', w', hr, ho, hg, hnil, hloc⟩ := run_append_own_at (P := Tryd.prog) w B E.ST ty E.T i0 E.z E.sz E.bys O.und hi hz0 hz1 hz2 O.zs O.pos v1 l1.length (l1.flatMap E.cs) hown ⟨b, o, none⟩ 1 cap2 (E.cs x) (by rw [O.len]; omega) (fun j u hj => by rw [addr_add', h2 j (by have := (List.getElem?_eq_some_iff.1 hj).1; rwa [O.len] at this), hj]) (O.one x) (by unfold maxLen; omega) (by omega) hB
  refine ⟨v', w', hr, ?_, hg, hloc⟩
  unfold OwnE
  rw [List.length_append, List.flatMap_append]
  have ho' := ho
  obtain ⟨_, ⟨h0, _⟩ | ⟨g', cap', _, hv', _⟩⟩ := ho'
  · have := (hnil.1 h0).1; rw [hv] at this; cases this
  · exact ⟨g', cap', hv', by simpa using ho⟩
theorem list_appE (O : E.Ok) {ops : Array Oper} {o : Oper} {a : Act} {Q : Exit → Act → World → Prop} {rest : List Oper} (w : World) (hgd : o.guard = none) (s y : Operand) (ho : o.op = .call { callee := .builtin .append, args := #[s, y], argTypes := #[E.ST, E.ST] })
    (B : Nat) (v1 : Value) (l1 : List α) (x : α) (b o2 cap2 : Nat) (hs : a.eval s = v1) (hx : a.eval y = .slice (some ⟨b, o2, none⟩) 1 cap2) (h1 : OwnE E w B v1 l1) (h2 : ∀ r, r < E.sz → w.cell? ⟨b, o2 + r, none⟩ = (E.cs x)[r]?) (hn : l1.length + 1 ≤ 8000000) (hB : B ≤ w.heap.size)
    (h : ∀ v' w', OwnE E w' B v' (l1 ++ [x]) → w.grownBy w' v1.ownBlock → (v'.ownBlock = v1.ownBlock ∨ v'.ownBlock = some w.heap.size) → wpList Tryd.prog ops Q rest (a.put o.dst v') w') :
    wpList Tryd.prog ops Q (o :: rest) a w := by
  refine wpList_plain hgd fun K hK => ?_
  obtain ⟨v', w', hr, r1, r2, r3⟩ := run_appE O (cap2 := cap2) o.type h1 h2 hn hB
  unfold Oper.wp execOp
  simp only [ho, resolve, invoke, builtin, Sem.run_bind, Sem.run_pure, Result.andThen_ok, List.map_toArray, List.map_cons, List.map_nil, hs, hx, hr]
  exact hK _ _ (h v' w' r1 r2 r3)
theorem step_appE (O : E.Ok) {ops : Array Oper} {o : Oper} {a : Act} {Q : Exit → Act → World → Prop} {K : Act → World → Prop} {F : Prop} (w : World) (hgd : o.guard = none) (s y : Operand) (ho : o.op = .call { callee := .builtin .append, args := #[s, y], argTypes := #[E.ST, E.ST] })
    (B : Nat) (v1 : Value) (l1 : List α) (x : α) (b o2 cap2 : Nat) (hs : a.eval s = v1) (hx : a.eval y = .slice (some ⟨b, o2, none⟩) 1 cap2) (h1 : OwnE E w B v1 l1) (h2 : ∀ r, r < E.sz → w.cell? ⟨b, o2 + r, none⟩ = (E.cs x)[r]?) (hn : l1.length + 1 ≤ 8000000) (hB : B ≤ w.heap.size)
    (h : ∀ v' w', OwnE E w' B v' (l1 ++ [x]) → w.grownBy w' v1.ownBlock → (v'.ownBlock = v1.ownBlock ∨ v'.ownBlock = some w.heap.size) → K (a.put o.dst v') w') :
    if Region.wanted o (yielded ops a.tmps) = true then Oper.wp Tryd.prog o a w K Q else F := by
  have hw : Region.wanted o (yielded ops a.tmps) = true := by simp [Region.wanted, hgd]
  rw [if_pos hw]
  obtain ⟨v', w', hr, r1, r2, r3⟩ := run_appE O (cap2 := cap2) o.type h1 h2 hn hB
  unfold Oper.wp execOp
  simp only [ho, resolve, invoke, builtin, Sem.run_bind, Sem.run_pure, Result.andThen_ok, List.map_toArray, List.map_cons, List.map_nil, hs, hx, hr]
  exact h v' w' r1 r2 r3
/-- The cells of element j. -/
theorem OwnE.at (O : E.Ok) {w : World} {B g n cap : Nat} {l : List α} (h : OwnE E w B (.slice (some ⟨g, 0, none⟩) n cap) l) (j : Nat) (hj : j < l.length) (r : Nat) (hr : r < E.sz) : w.cell? ⟨g, 0 + j * E.sz + r, none⟩ = (E.cs l[j])[r]? := by
  obtain ⟨g', cap', cur, hv, _, hh, _, _, _, hx⟩ := h.parts O
  cases hv
  simp only [World.cell?, hh, Nat.zero_add]
  exact hx j hj r hr
end
end Go.Proofs.YtheholgdfmipbaaDoor
