/- Lists of numbers that a call owns: literals, append. -/
import Derived.Test.YtjmclmbepnbeoaaShD
import Derived.Maps.AppendAt
import Derived.OwnWalk
import Derived.Deep.AppendLies
import Derived.Deep.RegionHeld3
namespace Go.Proofs.Ytjmclmbepnbeoaa
open Go.ChangeShapes Go.WideShapes Go.ChangeAt Go.RowKit
/-- The value is a slice of these numbers, in a block of its own from B on. -/
def OwnI (w : World) (B : Nat) (v : Value) (l : List Int) : Prop := ∃ g cap, v = .slice (some ⟨g, 0, none⟩) l.length cap ∧ w.ownsRow B 3 1 v l.length (l.map (Value.int .i64))
theorem ownsI_stays {w w' : World} {base : Nat} {e : TypeId} {size : Nat} {v : Value} {n : Nat} {xs : List Value} (h : w.ownsRow base e size v n xs) (bel : Below w.heap.size w w') : w'.ownsRow base e size v n xs := by
  obtain ⟨hl, h0 | ⟨g, cap, cur, hv, hB, hh, hr⟩⟩ := h
  · exact ⟨hl, Or.inl h0⟩
  · exact ⟨hl, Or.inr ⟨g, cap, cur, hv, hB, (bel.block g (Array.getElem?_eq_some_iff.1 hh).1).trans hh, hr⟩⟩
/-- Its parts: the block, and what it holds. -/
theorem OwnI.parts {w : World} {B : Nat} {v : Value} {l : List Int} (h : OwnI w B v l) : ∃ g cap cur, v = .slice (some ⟨g, 0, none⟩) l.length cap ∧ B ≤ g ∧ w.heap[g]? = some (.cells cur 3 (0, 0)) ∧ l.length ≤ cap ∧ cap ≤ maxLen ∧ cur.size = cap ∧ ∀ j (hj : j < l.length), cur[j]? = some (.int .i64 l[j]) := by
  obtain ⟨g0, cap0, hv0, hl, ⟨h0, _⟩ | ⟨g, cap, cur, hv, hB, hh, hc, hm, hs, ht⟩⟩ := h
  · rw [hv0] at h0; cases h0
  · refine ⟨g, cap, cur, hv, hB, hh, hc, hm, by simpa using hs, fun j hj => ?_⟩
    have h1 : (cur.toList.take (l.length * 1))[j]? = (l.map (Value.int .i64))[j]? := by rw [ht]
    rw [List.getElem?_take_of_lt (by omega)] at h1
    simpa [hj] using h1
theorem OwnI.of_parts {w : World} {B g cap : Nat} {cur : Array Value} {l : List Int} (hB : B ≤ g) (hh : w.heap[g]? = some (.cells cur 3 (0, 0))) (hc : l.length ≤ cap) (hm : cap ≤ maxLen) (hs : cur.size = cap) (hx : ∀ j (hj : j < l.length), cur[j]? = some (.int .i64 l[j])) : OwnI w B (.slice (some ⟨g, 0, none⟩) l.length cap) l := by
  refine ⟨g, cap, rfl, by simp, Or.inr ⟨g, cap, cur, rfl, hB, hh, hc, hm, by simpa using hs, ?_⟩⟩
  apply List.ext_getElem?
  intro j
  by_cases hj : j < l.length
  · rw [List.getElem?_take_of_lt (by omega)]
    simpa [hj] using hx j hj
  · rw [List.getElem?_eq_none (by simp; omega), List.getElem?_eq_none (by simp; omega)]
theorem OwnI.stays {w w' : World} {B : Nat} {v : Value} {l : List Int} (h : OwnI w B v l) (bel : Below w.heap.size w w') : OwnI w' B v l :=
  let ⟨g, cap, hv, ho⟩ := h
  ⟨g, cap, hv, ownsI_stays ho bel⟩
theorem OwnI.mono {w : World} {B B' : Nat} {v : Value} {l : List Int} (h : OwnI w B v l) (hB : B' ≤ B) : OwnI w B' v l := by
  obtain ⟨g, cap, hv, hl, h0 | ⟨g', cap', cur, hv', hB', hr⟩⟩ := h
  · exact ⟨g, cap, hv, hl, Or.inl h0⟩
  · exact ⟨g, cap, hv, hl, Or.inr ⟨g', cap', cur, hv', Nat.le_trans hB hB', hr⟩⟩
theorem OwnI.low {w : World} {B : Nat} {v : Value} {l : List Int} (h : OwnI w B v l) : ∀ b, v.ownBlock = some b → B ≤ b ∧ b < w.heap.size := fun b hb => h.choose_spec.choose_spec.2.lt b hb
theorem OwnI.is {w : World} {B g n cap : Nat} {l : List Int} (h : OwnI w B (.slice (some ⟨g, 0, none⟩) n cap) l) : n = l.length ∧ IntsIs w B (some ⟨g, 0, none⟩) l := by
  obtain ⟨g', cap', cur, hv, hB, hh, hc, hm, hs, hx⟩ := h.parts
  cases hv
  exact ⟨rfl, by omega, Or.inr ⟨g, 0, rfl, hB, (Array.getElem?_eq_some_iff.1 hh).1, fun _ => ⟨cur, _, hh⟩, fun i hi => by simp only [World.cell?, hh, Nat.zero_add]; exact hx i hi⟩⟩
theorem OwnI.kept {w w' : World} {B : Nat} {v : Value} {l : List Int} {row : Option Nat} (h : OwnI w B v l) (hg : w.grownBy w' row) (hne : v.ownBlock ≠ row) : OwnI w' B v l := by
  obtain ⟨g, cap, hv, hl, h0 | ⟨g', cap', cur, hv', hB', hh, hr⟩⟩ := h
  · exact ⟨g, cap, hv, hl, Or.inl h0⟩
  · refine ⟨g, cap, hv, hl, Or.inr ⟨g', cap', cur, hv', hB', (hg.block g' (Array.getElem?_eq_some_iff.1 hh).1 ?_).trans hh, hr⟩⟩
    intro e; apply hne; rw [← e, hv']; rfl
/-- A list written out. -/
theorem own_lit (w : World) (l : List Int) (cs : Array Value) (n m : Nat) (hn : n = w.heap.size) (hm : m = l.length) (hcs : cs = (l.map (Value.int .i64)).toArray) (hl : l.length ≤ 1000) : OwnI (w.alloc (.cells cs 3)) w.heap.size (.slice (some ⟨n, 0, none⟩) m m) l := by
  subst hn hm hcs
  have h1000 : 1000 ≤ maxLen := by unfold maxLen; decide
  exact OwnI.of_parts (Nat.le_refl _) (by show (w.heap.push _)[w.heap.size]? = _; exact Array.getElem?_push_size) (Nat.le_refl _) (by omega) (by simp) (fun j hj => by simp [hj])
theorem infoInt : (Try.prog.info? 3).map (fun i => (i.zero, i.size, i.bytes)) = some (some (.int .i64 0), 1, 8) := by kernel_rfl
theorem addr_add' (g o j : Nat) : (⟨g, o, none⟩ : Addr).add j = ⟨g, o + j, none⟩ := by unfold Addr.add; split <;> simp_all
theorem run_appI {w : World} {B : Nat} {v1 : Value} {l1 l2 : List Int} {b o cap2 : Nat} (ty : TypeId) (h1 : OwnI w B v1 l1) (h2 : ∀ j (h : j < l2.length), w.cell? ⟨b, o + j, none⟩ = some (.int .i64 l2[j])) (hn : l1.length + l2.length ≤ 8000000) (hB : B ≤ w.heap.size) :
    ∃ v' w', (Builtin.append_ #[22, 22] ty #[v1, .slice (some ⟨b, o, none⟩) l2.length cap2]).run Try.prog w = .ok v' w' ∧ OwnI w' B v' (l1 ++ l2) ∧ w.grownBy w' v1.ownBlock ∧ (v'.ownBlock = v1.ownBlock ∨ v'.ownBlock = some w.heap.size) := by
  obtain ⟨i0, hi, hz0, hz1, hz2⟩ := info_parts infoInt
  obtain ⟨g, cap, hv, hown⟩ := h1
  obtain ⟨v', w', hr, ho, hg, hnil, hloc⟩ := run_append_own_at (P := Try.prog) w B 22 ty 3 i0 (.int .i64 0) 1 8 Try.underlying22 hi hz0 hz1 hz2 rfl (by omega) v1 l1.length (l1.map (Value.int .i64)) hown ⟨b, o, none⟩ l2.length cap2 (l2.map (Value.int .i64)) (by simp) (fun j u hj => by rw [addr_add']; obtain ⟨hj1, hj2⟩ := List.getElem?_eq_some_iff.1 hj; rw [← hj2]; simpa using h2 j (by simpa using hj1)) (fun u hu => by obtain ⟨x, _, rfl⟩ := List.mem_map.1 hu; rfl) (by unfold maxLen; omega) (by omega) hB
  refine ⟨v', w', hr, ?_, hg, hloc⟩
  unfold OwnI
  rw [List.length_append, List.map_append]
  have ho' := ho
  obtain ⟨_, ⟨h0, _⟩ | ⟨g', cap', _, hv', _⟩⟩ := ho'
  · have := (hnil.1 h0).1; rw [hv] at this; cases this
  · exact ⟨g', cap', hv', ho⟩
/-- append in a region that draws its order. -/
theorem step_appI {ops : Array Oper} {o : Oper} {a : Act} {Q : Exit → Act → World → Prop} {K : Act → World → Prop} {E : Prop} (w : World) (hgd : o.guard = none) (s x : Operand) (ho : o.op = .call { callee := .builtin .append, args := #[s, x], argTypes := #[22, 22] })
    (B : Nat) (v1 : Value) (l1 l2 : List Int) (b o2 m cap2 : Nat) (hm : l2.length = m) (hs : a.eval s = v1) (hx : a.eval x = .slice (some ⟨b, o2, none⟩) m cap2) (h1 : OwnI w B v1 l1) (h2 : ∀ j (h : j < l2.length), w.cell? ⟨b, o2 + j, none⟩ = some (.int .i64 l2[j])) (hn : l1.length + l2.length ≤ 8000000) (hB : B ≤ w.heap.size)
    (h : ∀ v' w', OwnI w' B v' (l1 ++ l2) → w.grownBy w' v1.ownBlock → (v'.ownBlock = v1.ownBlock ∨ v'.ownBlock = some w.heap.size) → K (a.put o.dst v') w') :
    if Region.wanted o (yielded ops a.tmps) = true then Oper.wp Try.prog o a w K Q else E := by
  have hw : Region.wanted o (yielded ops a.tmps) = true := by simp [Region.wanted, hgd]
  rw [if_pos hw]
  subst hm
  obtain ⟨v', w', hr, r1, r2, r3⟩ := run_appI (cap2 := cap2) o.type h1 h2 hn hB
  unfold Oper.wp execOp
  simp only [ho, resolve, invoke, builtin, Sem.run_bind, Sem.run_pure, Result.andThen_ok, List.map_toArray, List.map_cons, List.map_nil, hs, hx, hr]
  exact h v' w' r1 r2 r3
/-- append in a region that goes in its order. -/
theorem list_appI {ops : Array Oper} {o : Oper} {a : Act} {Q : Exit → Act → World → Prop} {rest : List Oper} (w : World) (hgd : o.guard = none) (s x : Operand) (ho : o.op = .call { callee := .builtin .append, args := #[s, x], argTypes := #[22, 22] })
    (B : Nat) (v1 : Value) (l1 l2 : List Int) (b o2 m cap2 : Nat) (hm : l2.length = m) (hs : a.eval s = v1) (hx : a.eval x = .slice (some ⟨b, o2, none⟩) m cap2) (h1 : OwnI w B v1 l1) (h2 : ∀ j (h : j < l2.length), w.cell? ⟨b, o2 + j, none⟩ = some (.int .i64 l2[j])) (hn : l1.length + l2.length ≤ 8000000) (hB : B ≤ w.heap.size)
    (h : ∀ v' w', OwnI w' B v' (l1 ++ l2) → w.grownBy w' v1.ownBlock → (v'.ownBlock = v1.ownBlock ∨ v'.ownBlock = some w.heap.size) → wpList Try.prog ops Q rest (a.put o.dst v') w') :
    wpList Try.prog ops Q (o :: rest) a w := by
  refine wpList_plain hgd fun K hK => ?_
  subst hm
  obtain ⟨v', w', hr, r1, r2, r3⟩ := run_appI (cap2 := cap2) o.type h1 h2 hn hB
  unfold Oper.wp execOp
  simp only [ho, resolve, invoke, builtin, Sem.run_bind, Sem.run_pure, Result.andThen_ok, List.map_toArray, List.map_cons, List.map_nil, hs, hx, hr]
  exact hK _ _ (h v' w' r1 r2 r3)
/-- Growth by an append: what lay below B stays. -/
theorem grown_below {w w' : World} {B : Nat} {row : Option Nat} (h : w.grownBy w' row) (hr : ∀ b, row = some b → B ≤ b) (hB : B ≤ w.heap.size) : Below B w w' :=
  ⟨h.os, h.tape, h.output, h.size, fun b hb => h.block b (by omega) (fun e => by have := hr b e.symm; omega)⟩
theorem OwnI.at {w : World} {B g m cap : Nat} {l : List Int} (h : OwnI w B (.slice (some ⟨g, 0, none⟩) m cap) l) : ∀ j (hj : j < l.length), w.cell? ⟨g, 0 + j, none⟩ = some (.int .i64 l[j]) := by
  obtain ⟨g', cap', cur, hv, _, hh, _, _, _, hx⟩ := h.parts
  cases hv
  intro j hj
  simp only [World.cell?, hh, Nat.zero_add]
  exact hx j hj
end Go.Proofs.Ytjmclmbepnbeoaa

/- Lists of numbers that a call owns, besides: a literal behind a box; what marks leave as it is. -/
namespace Go.Proofs.Ytjmclmbepnbeoaa
open Go.ChangeShapes Go.WideShapes Go.ChangeAt Go.RowKit
theorem own_lit2 (w : World) (o : Obj) (l : List Int) (cs : Array Value) (n m : Nat) (hn : n = w.heap.size + 1) (hm : m = l.length) (hcs : cs = (l.map (Value.int .i64)).toArray) (hl : l.length ≤ 1000) : OwnI ((w.alloc o).alloc (.cells cs 3)) w.heap.size (.slice (some ⟨n, 0, none⟩) m m) l := by
  have := own_lit (w.alloc o) l cs n m (by simpa using hn) hm hcs hl
  exact this.mono (by simp)
theorem OwnI.butG {w w' : World} {B g : Nat} {v : Value} {l : List Int} (h : OwnI w B v l) (hb : But g w w') (hne : v.ownBlock ≠ some g) : OwnI w' B v l := by
  obtain ⟨g0, cap, hv, hl, h0 | ⟨g', cap', cur, hv', hB', hh, hr⟩⟩ := h
  · exact ⟨g0, cap, hv, hl, Or.inl h0⟩
  · refine ⟨g0, cap, hv, hl, Or.inr ⟨g', cap', cur, hv', hB', (hb.block g' (Array.getElem?_eq_some_iff.1 hh).1 ?_).trans hh, hr⟩⟩
    intro e; apply hne; rw [← e, hv']; rfl
/-- The block of a slice. -/
theorem own_blk {g n c b : Nat} (h : (Value.slice (some ⟨g, 0, none⟩) n c).ownBlock = some b) : g = b := by simpa [Value.ownBlock] using h
end Go.Proofs.Ytjmclmbepnbeoaa

/- Lists of structs that a call owns: literals, append of one. -/
namespace Go.Proofs.Ytjmclmbepnbeoaa
open Go.ChangeShapes Go.WideShapes Go.ChangeAt Go.RowKit
/-- How a thing's cells stand in a list. -/
structure Elem (α : Type) where
  T : TypeId
  ST : TypeId
  sz : Nat
  bys : Nat
  z : Value
  cs : α → List Value
structure Elem.Ok {α : Type} (E : Elem α) : Prop where
  und : Try.prog.underlying E.ST = some (.slice E.T)
  info : (Try.prog.info? E.T).map (fun i => (i.zero, i.size, i.bytes)) = some (some E.z, E.sz, E.bys)
  zs : E.z.cells.size = E.sz
  pos : 0 < E.sz
  few : E.bys ≤ 1000
  len : ∀ x, (E.cs x).length = E.sz
  one : ∀ x, ∀ u ∈ E.cs x, u.oneCell' = true
section
variable {α : Type} {E : Elem α}
/-- The value is a slice of these things, in a block of its own from B on. -/
def OwnE (E : Elem α) (w : World) (B : Nat) (v : Value) (l : List α) : Prop := ∃ g cap, v = .slice (some ⟨g, 0, none⟩) l.length cap ∧ w.ownsRow B E.T E.sz v l.length (l.flatMap E.cs)
theorem flatE_len (O : E.Ok) (l : List α) : (l.flatMap E.cs).length = l.length * E.sz := by
  induction l with
  | nil => simp
  | cons x l ih => rw [List.flatMap_cons, List.length_append, ih, O.len, List.length_cons, Nat.succ_mul]; omega
theorem flatE_at (O : E.Ok) : ∀ (l : List α) (j r : Nat) (hj : j < l.length), r < E.sz → (l.flatMap E.cs)[j * E.sz + r]? = (E.cs l[j])[r]?
  | [], _, _, hj, _ => absurd hj (Nat.not_lt_zero _)
  | x :: l, 0, r, _, hr => by
    rw [List.flatMap_cons, List.getElem?_append_left (by rw [O.len]; omega)]; simp
  | x :: l, j + 1, r, hj, hr => by
    have := flatE_at O l j r (by simpa using hj) hr
    have e : (j + 1) * E.sz + r - E.sz = j * E.sz + r := by rw [Nat.succ_mul]; omega
    rw [List.flatMap_cons, List.getElem?_append_right (by rw [O.len, Nat.succ_mul]; omega), O.len, e, this]; simp
theorem mul_stepE (j n sz : Nat) (h : j < n) : j * sz + sz ≤ n * sz := by
  have := Nat.mul_le_mul_right sz (show j + 1 ≤ n from h)
  rw [Nat.succ_mul] at this; exact this
theorem OwnE.parts (O : E.Ok) {w : World} {B : Nat} {v : Value} {l : List α} (h : OwnE E w B v l) : ∃ g cap cur, v = .slice (some ⟨g, 0, none⟩) l.length cap ∧ B ≤ g ∧ w.heap[g]? = some (.cells cur E.T (0, 0)) ∧ l.length ≤ cap ∧ cap ≤ maxLen ∧ cur.size = cap * E.sz ∧ ∀ j (hj : j < l.length) r, r < E.sz → cur[j * E.sz + r]? = (E.cs l[j])[r]? := by
  obtain ⟨g0, cap0, hv0, hl, ⟨h0, _⟩ | ⟨g, cap, cur, hv, hB, hh, hc, hm, hs, ht⟩⟩ := h
  · rw [hv0] at h0; cases h0
  · refine ⟨g, cap, cur, hv, hB, hh, hc, hm, hs, fun j hj r hr => ?_⟩
    have hlt : j * E.sz + r < l.length * E.sz := by have := mul_stepE j l.length E.sz hj; omega
    have h1 : (cur.toList.take (l.length * E.sz))[j * E.sz + r]? = (l.flatMap E.cs)[j * E.sz + r]? := by rw [ht]
    rw [List.getElem?_take_of_lt hlt, flatE_at O l j r hj hr] at h1
    simpa using h1
theorem OwnE.of_parts (O : E.Ok) {w : World} {B g cap : Nat} {cur : Array Value} {l : List α} (hB : B ≤ g) (hh : w.heap[g]? = some (.cells cur E.T (0, 0))) (hc : l.length ≤ cap) (hm : cap ≤ maxLen) (hs : cur.size = cap * E.sz) (hx : ∀ j (hj : j < l.length) r, r < E.sz → cur[j * E.sz + r]? = (E.cs l[j])[r]?) : OwnE E w B (.slice (some ⟨g, 0, none⟩) l.length cap) l := by
  refine ⟨g, cap, rfl, flatE_len O l, Or.inr ⟨g, cap, cur, rfl, hB, hh, hc, hm, hs, ?_⟩⟩
  apply List.ext_getElem?
  intro i
  by_cases hi : i < l.length * E.sz
  · rw [List.getElem?_take_of_lt hi]
    have hp := O.pos
    have hj : i / E.sz < l.length := Nat.div_lt_of_lt_mul (by rw [Nat.mul_comm]; exact hi)
    have hr : i % E.sz < E.sz := Nat.mod_lt _ hp
    have e : i / E.sz * E.sz + i % E.sz = i := by rw [Nat.mul_comm]; exact Nat.div_add_mod _ _
    have h1 := hx (i / E.sz) hj (i % E.sz) hr
    have h2 := flatE_at O l (i / E.sz) (i % E.sz) hj hr
    rw [e] at h1 h2
    rw [h2, ← h1]; simp
  · rw [List.getElem?_eq_none (by simp; omega), List.getElem?_eq_none (by rw [flatE_len O]; omega)]
theorem OwnE.stays {w w' : World} {B : Nat} {v : Value} {l : List α} (h : OwnE E w B v l) (bel : Below w.heap.size w w') : OwnE E w' B v l :=
  let ⟨g, cap, hv, ho⟩ := h
  ⟨g, cap, hv, ownsI_stays ho bel⟩
theorem OwnE.mono {w : World} {B B' : Nat} {v : Value} {l : List α} (h : OwnE E w B v l) (hB : B' ≤ B) : OwnE E w B' v l := by
  obtain ⟨g, cap, hv, hl, h0 | ⟨g', cap', cur, hv', hB', hr⟩⟩ := h
  · exact ⟨g, cap, hv, hl, Or.inl h0⟩
  · exact ⟨g, cap, hv, hl, Or.inr ⟨g', cap', cur, hv', Nat.le_trans hB hB', hr⟩⟩
theorem OwnE.low {w : World} {B : Nat} {v : Value} {l : List α} (h : OwnE E w B v l) : ∀ b, v.ownBlock = some b → B ≤ b ∧ b < w.heap.size := fun b hb => h.choose_spec.choose_spec.2.lt b hb
theorem OwnE.kept {w w' : World} {B : Nat} {v : Value} {l : List α} {row : Option Nat} (h : OwnE E w B v l) (hg : w.grownBy w' row) (hne : v.ownBlock ≠ row) : OwnE E w' B v l := by
  obtain ⟨g, cap, hv, hl, h0 | ⟨g', cap', cur, hv', hB', hh, hr⟩⟩ := h
  · exact ⟨g, cap, hv, hl, Or.inl h0⟩
  · refine ⟨g, cap, hv, hl, Or.inr ⟨g', cap', cur, hv', hB', (hg.block g' (Array.getElem?_eq_some_iff.1 hh).1 ?_).trans hh, hr⟩⟩
    intro e; apply hne; rw [← e, hv']; rfl
/-- It stays where its own block does. -/
theorem OwnE.blk {w w' : World} {B : Nat} {v : Value} {l : List α} (h : OwnE E w B v l) (hb : ∀ g, v.ownBlock = some g → g < w.heap.size → w'.heap[g]? = w.heap[g]?) : OwnE E w' B v l := by
  obtain ⟨g0, cap, hv, hl, h0 | ⟨g', cap', cur, hv', hB', hh, hr⟩⟩ := h
  · exact ⟨g0, cap, hv, hl, Or.inl h0⟩
  · exact ⟨g0, cap, hv, hl, Or.inr ⟨g', cap', cur, hv', hB', (hb g' (by rw [hv']; rfl) (Array.getElem?_eq_some_iff.1 hh).1).trans hh, hr⟩⟩
theorem OwnE.butG {w w' : World} {B g : Nat} {v : Value} {l : List α} (h : OwnE E w B v l) (hb : But g w w') (hne : v.ownBlock ≠ some g) : OwnE E w' B v l :=
  h.blk (fun k hk hlt => hb.block k hlt (fun e => hne (by rw [hk, e])))
theorem own_nil (O : E.Ok) (w : World) (n : Nat) (hn : n = w.heap.size) : OwnE E (w.alloc (.cells #[] E.T)) w.heap.size (.slice (some ⟨n, 0, none⟩) 0 0) ([] : List α) := by
  subst hn
  exact OwnE.of_parts O (l := []) (Nat.le_refl _) (by show (w.heap.push _)[w.heap.size]? = _; exact Array.getElem?_push_size) (Nat.le_refl _) (Nat.zero_le _) (by simp) (fun j hj => absurd hj (Nat.not_lt_zero _))
theorem run_appE (O : E.Ok) {w : World} {B : Nat} {v1 : Value} {l1 : List α} {x : α} {b o cap2 : Nat} (ty : TypeId) (h1 : OwnE E w B v1 l1) (h2 : ∀ r, r < E.sz → w.cell? ⟨b, o + r, none⟩ = (E.cs x)[r]?) (hn : l1.length + 1 ≤ 8000000) (hB : B ≤ w.heap.size) :
    ∃ v' w', (Builtin.append_ #[E.ST, E.ST] ty #[v1, .slice (some ⟨b, o, none⟩) 1 cap2]).run Try.prog w = .ok v' w' ∧ OwnE E w' B v' (l1 ++ [x]) ∧ w.grownBy w' v1.ownBlock ∧ (v'.ownBlock = v1.ownBlock ∨ v'.ownBlock = some w.heap.size) := by
  obtain ⟨i0, hi, hz0, hz1, hz2⟩ := info_parts O.info
  obtain ⟨g, cap, hv, hown⟩ := h1
  have hf := O.few
  have hbn : (l1.length + 1) * E.bys ≤ 8000000 * 1000 := Nat.mul_le_mul hn hf
  obtain ⟨v', w', hr, ho, hg, hnil, hloc⟩ := run_append_own_at (P := Try.prog) w B E.ST ty E.T i0 E.z E.sz E.bys O.und hi hz0 hz1 hz2 O.zs O.pos v1 l1.length (l1.flatMap E.cs) hown ⟨b, o, none⟩ 1 cap2 (E.cs x) (by rw [O.len]; omega) (fun j u hj => by rw [addr_add', h2 j (by have := (List.getElem?_eq_some_iff.1 hj).1; rwa [O.len] at this), hj]) (O.one x) (by unfold maxLen; omega) (by omega) hB
  refine ⟨v', w', hr, ?_, hg, hloc⟩
  unfold OwnE
  rw [List.length_append, List.flatMap_append]
  have ho' := ho
  obtain ⟨_, ⟨h0, _⟩ | ⟨g', cap', _, hv', _⟩⟩ := ho'
  · have := (hnil.1 h0).1; rw [hv] at this; cases this
  · exact ⟨g', cap', hv', by simpa using ho⟩
theorem list_appE (O : E.Ok) {ops : Array Oper} {o : Oper} {a : Act} {Q : Exit → Act → World → Prop} {rest : List Oper} (w : World) (hgd : o.guard = none) (s y : Operand) (ho : o.op = .call { callee := .builtin .append, args := #[s, y], argTypes := #[E.ST, E.ST] })
    (B : Nat) (v1 : Value) (l1 : List α) (x : α) (b o2 cap2 : Nat) (hs : a.eval s = v1) (hx : a.eval y = .slice (some ⟨b, o2, none⟩) 1 cap2) (h1 : OwnE E w B v1 l1) (h2 : ∀ r, r < E.sz → w.cell? ⟨b, o2 + r, none⟩ = (E.cs x)[r]?) (hn : l1.length + 1 ≤ 8000000) (hB : B ≤ w.heap.size)
    (h : ∀ v' w', OwnE E w' B v' (l1 ++ [x]) → w.grownBy w' v1.ownBlock → (v'.ownBlock = v1.ownBlock ∨ v'.ownBlock = some w.heap.size) → wpList Try.prog ops Q rest (a.put o.dst v') w') :
    wpList Try.prog ops Q (o :: rest) a w := by
  refine wpList_plain hgd fun K hK => ?_
  obtain ⟨v', w', hr, r1, r2, r3⟩ := run_appE O (cap2 := cap2) o.type h1 h2 hn hB
  unfold Oper.wp execOp
  simp only [ho, resolve, invoke, builtin, Sem.run_bind, Sem.run_pure, Result.andThen_ok, List.map_toArray, List.map_cons, List.map_nil, hs, hx, hr]
  exact hK _ _ (h v' w' r1 r2 r3)
theorem step_appE (O : E.Ok) {ops : Array Oper} {o : Oper} {a : Act} {Q : Exit → Act → World → Prop} {K : Act → World → Prop} {F : Prop} (w : World) (hgd : o.guard = none) (s y : Operand) (ho : o.op = .call { callee := .builtin .append, args := #[s, y], argTypes := #[E.ST, E.ST] })
    (B : Nat) (v1 : Value) (l1 : List α) (x : α) (b o2 cap2 : Nat) (hs : a.eval s = v1) (hx : a.eval y = .slice (some ⟨b, o2, none⟩) 1 cap2) (h1 : OwnE E w B v1 l1) (h2 : ∀ r, r < E.sz → w.cell? ⟨b, o2 + r, none⟩ = (E.cs x)[r]?) (hn : l1.length + 1 ≤ 8000000) (hB : B ≤ w.heap.size)
    (h : ∀ v' w', OwnE E w' B v' (l1 ++ [x]) → w.grownBy w' v1.ownBlock → (v'.ownBlock = v1.ownBlock ∨ v'.ownBlock = some w.heap.size) → K (a.put o.dst v') w') :
    if Region.wanted o (yielded ops a.tmps) = true then Oper.wp Try.prog o a w K Q else F := by
  have hw : Region.wanted o (yielded ops a.tmps) = true := by simp [Region.wanted, hgd]
  rw [if_pos hw]
  obtain ⟨v', w', hr, r1, r2, r3⟩ := run_appE O (cap2 := cap2) o.type h1 h2 hn hB
  unfold Oper.wp execOp
  simp only [ho, resolve, invoke, builtin, Sem.run_bind, Sem.run_pure, Result.andThen_ok, List.map_toArray, List.map_cons, List.map_nil, hs, hx, hr]
  exact h v' w' r1 r2 r3
/-- The cells of element j. -/
theorem OwnE.at (O : E.Ok) {w : World} {B g n cap : Nat} {l : List α} (h : OwnE E w B (.slice (some ⟨g, 0, none⟩) n cap) l) (j : Nat) (hj : j < l.length) (r : Nat) (hr : r < E.sz) : w.cell? ⟨g, 0 + j * E.sz + r, none⟩ = (E.cs l[j])[r]? := by
  obtain ⟨g', cap', cur, hv, _, hh, _, _, _, hx⟩ := h.parts O
  cases hv
  simp only [World.cell?, hh, Nat.zero_add]
  exact hx j hj r hr
end
end Go.Proofs.Ytjmclmbepnbeoaa

/- Lists of steps that a call owns. -/
namespace Go.Proofs.Ytjmclmbepnbeoaa
open Go.ChangeShapes Go.WideShapes Go.ChangeAt Go.RowKit
def InE : Elem Ins := { T := 48, ST := 42, sz := 7, bys := 64, z := .agg #[.int .i64 0, .int .i64 0, .int .i64 0, .int .i64 0, .int .i64 0, .int .i64 0, .string ByteArray.empty], cs := fun x => [.int .i64 x.op, .int .i64 x.d, .int .i64 x.a, .int .i64 x.b, .int .i64 x.c, .int .i64 x.n, .string x.t] }
theorem InOk : InE.Ok where
  und := Try.underlying42
  info := by kernel_rfl
  zs := rfl
  pos := by decide
  few := by decide
  len := fun _ => rfl
  one := fun x u hu => by simp [InE] at hu; rcases hu with rfl | rfl | rfl | rfl | rfl | rfl | rfl <;> rfl
/-- All blocks but one row are as they were. -/
def KpL (wr : World) (row : Option Nat) (W : World) : Prop := ∀ k, k < wr.heap.size → some k ≠ row → W.heap[k]? = wr.heap[k]?
theorem KpL.of {wr W : World} {row : Option Nat} (h : Below wr.heap.size wr W) : KpL wr row W := fun k hk _ => h.block k hk
theorem KpL.drew (wr : World) (row : Option Nat) : KpL wr row wr.drew := fun _ _ _ => rfl
theorem KpL.grown {wr W W' : World} {row : Option Nat} (h : Below wr.heap.size wr W) (hg : W.grownBy W' row) : KpL wr row W' := fun k hk hne => (hg.block k (by have := h.size; omega) hne).trans (h.block k hk)
end Go.Proofs.Ytjmclmbepnbeoaa

/- One cell of a list that a call owns is written. -/
namespace Go.Proofs.Ytjmclmbepnbeoaa
open Go.ChangeShapes Go.WideShapes Go.ChangeAt Go.RowKit
theorem OwnE.setR {α : Type} {E : Elem α} (O : E.Ok) {w : World} {B g n cap : Nat} {l : List α} (h : OwnE E w B (.slice (some ⟨g, 0, none⟩) n cap) l) {j r : Nat} (hj : j < l.length) (hr : r < E.sz) {u : Value} {x' : α} (hx : E.cs x' = (E.cs l[j]).set r u) :
    OwnE E (w.setCell ⟨g, j * E.sz + r, none⟩ u) B (.slice (some ⟨g, 0, none⟩) n cap) (l.set j x') := by
  obtain ⟨g', cap', cur, hv, hB, hh, hc, hm, hs, hcell⟩ := h.parts O
  injection hv with e1 e2 e3
  injection e1 with e1
  injection e1 with e1
  subst e1 e2 e3
  have hlen : (l.set j x').length = l.length := List.length_set
  have hlt : j * E.sz + r < cur.size := by
    have := mul_stepE j l.length E.sz hj
    have := Nat.mul_le_mul_right E.sz hc
    omega
  have := OwnE.of_parts O (l := l.set j x') hB (heap_setCell_same w g (j * E.sz + r) cur E.T u hh) (by rw [hlen]; exact hc) hm (by simpa using hs) (fun i hi q hq => by
    rw [hlen] at hi
    rw [Array.getElem?_setIfInBounds, List.getElem_set]
    by_cases hij : j = i
    · subst hij
      rw [if_pos rfl, hx]
      by_cases hqr : r = q
      · subst hqr
        rw [if_pos rfl, if_pos hlt, List.getElem?_set_self (by rw [O.len]; exact hr)]
      · rw [if_neg (by omega), List.getElem?_set_ne hqr]
        exact hcell j hj q hq
    · have hne : ¬ j * E.sz + r = i * E.sz + q := fun e => by
        have hd : (j * E.sz + r) / E.sz = (i * E.sz + q) / E.sz := by rw [e]
        rw [Nat.mul_comm j, Nat.mul_comm i, Nat.mul_add_div O.pos, Nat.mul_add_div O.pos, Nat.div_eq_of_lt hr, Nat.div_eq_of_lt hq] at hd
        omega
      rw [if_neg hne, if_neg hij]
      exact hcell i hi q hq)
  rw [hlen] at this
  exact this
end Go.Proofs.Ytjmclmbepnbeoaa
