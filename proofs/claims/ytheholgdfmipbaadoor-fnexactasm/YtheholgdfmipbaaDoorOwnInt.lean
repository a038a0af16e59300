/- Lists of numbers that a call owns: literals, append. -/
import Derived.Test.YtheholgdfmipbaaDoorInts
import Derived.Maps.AppendAt
import Derived.OwnWalk
import Derived.Deep.AppendLies
import Derived.Deep.RegionHeld3
namespace Go.Proofs.YtheholgdfmipbaaDoor
open Go.ChangeShapes Go.WideShapes Go.ChangeAt Go.RowKit
/-- The value is a slice of these numbers, in a block of its own from B on. -/
def OwnI (w : World) (B : Nat) (v : Value) (l : List Int) : Prop := ∃ g cap, v = .slice (some ⟨g, 0, none⟩) l.length cap ∧ w.ownsRow B 3 1 v l.length (l.map (Value.int .i64))
theorem ownsI_stays {w w' : World} {base : Nat} {e : TypeId} {size : Nat} {v : Value} {n : Nat} {xs : List Value} (h : w.ownsRow base e size v n xs) (bel : Below w.heap.size w w') : w'.ownsRow base e size v n xs := by
  obtain ⟨hl, h0 | ⟨g, cap, cur, hv, hB, hh, hr⟩⟩ := h
  · exact ⟨hl, Or.inl h0⟩
  · exact ⟨hl, Or.inr ⟨g, cap, cur, hv, hB, (bel.block g (Array.getElem?_eq_some_iff.1 hh).1).trans hh, hr⟩⟩
/-- Its parts: the block, and what it holds. -/
theorem OwnI.parts {w : World} {B : Nat} {v : Value} {l : List Int} (h : OwnI w B v l) : ∃ g cap cur, v = .slice (some ⟨g, 0, none⟩) l.length cap ∧ B ≤ g ∧ w.heap[g]? = some (.cells cur 3 (0, 0)) ∧ l.length ≤ cap ∧ cap ≤ maxLen ∧ cur.size = cap ∧ ∀ j (hj : j < l.length), cur[j]? = some (.int .i64 l[j]) := by
  obtain ⟨g0, cap0, hv0, hl, ⟨h0, _⟩ | ⟨g, cap, cur, hv, hB, hh, hc, hm, hs, ht⟩⟩ := h
  · rw [hv0] at h0; cases h0
  · refine ⟨g, cap, cur, hv, hB, hh, hc, hm, by simpa using hs, fun j hj => ?_⟩
    have h1 : (cur.toList.take (l.length * 1))[j]? = (l.map (Value.int .i64))[j]? := by rw [ht]
    rw [List.getElem?_take_of_lt (by omega)] at h1
    simpa [hj] using h1
theorem OwnI.of_parts {w : World} {B g cap : Nat} {cur : Array Value} {l : List Int} (hB : B ≤ g) (hh : w.heap[g]? = some (.cells cur 3 (0, 0))) (hc : l.length ≤ cap) (hm : cap ≤ maxLen) (hs : cur.size = cap) (hx : ∀ j (hj : j < l.length), cur[j]? = some (.int .i64 l[j])) : OwnI w B (.slice (some ⟨g, 0, none⟩) l.length cap) l := by
  refine ⟨g, cap, rfl, by simp, Or.inr ⟨g, cap, cur, rfl, hB, hh, hc, hm, by simpa using hs, ?_⟩⟩
  apply List.ext_getElem?
  intro j
  by_cases hj : j < l.length
  · rw [List.getElem?_take_of_lt (by omega)]
    simpa [hj] using hx j hj
  · rw [List.getElem?_eq_none (by simp; omega), List.getElem?_eq_none (by simp; omega)]
theorem OwnI.stays {w w' : World} {B : Nat} {v : Value} {l : List Int} (h : OwnI w B v l) (bel : Below w.heap.size w w') : OwnI w' B v l :=
  let ⟨g, cap, hv, ho⟩ := h
  ⟨g, cap, hv, ownsI_stays ho bel⟩
theorem OwnI.mono {w : World} {B B' : Nat} {v : Value} {l : List Int} (h : OwnI w B v l) (hB : B' ≤ B) : OwnI w B' v l := by
  obtain ⟨g, cap, hv, hl, h0 | ⟨g', cap', cur, hv', hB', hr⟩⟩ := h
  · exact ⟨g, cap, hv, hl, Or.inl h0⟩
  · exact ⟨g, cap, hv, hl, Or.inr ⟨g', cap', cur, hv', Nat.le_trans hB hB', hr⟩⟩
theorem OwnI.low {w : World} {B : Nat} {v : Value} {l : List Int} (h : OwnI w B v l) : ∀ b, v.ownBlock = some b → B ≤ b ∧ b < w.heap.size := fun b hb => h.choose_spec.choose_spec.2.lt b hb
theorem OwnI.is {w : World} {B g n cap : Nat} {l : List Int} (h : OwnI w B (.slice (some ⟨g, 0, none⟩) n cap) l) : n = l.length ∧ IntsIs w B (some ⟨g, 0, none⟩) l := by
  obtain ⟨g', cap', cur, hv, hB, hh, hc, hm, hs, hx⟩ := h.parts
  cases hv
  exact ⟨rfl, by omega, Or.inr ⟨g, 0, rfl, hB, (Array.getElem?_eq_some_iff.1 hh).1, fun _ => ⟨cur, _, hh⟩, fun i hi => by simp only [World.cell?, hh, Nat.zero_add]; exact hx i hi⟩⟩
theorem OwnI.kept {w w' : World} {B : Nat} {v : Value} {l : List Int} {row : Option Nat} (h : OwnI w B v l) (hg : w.grownBy w' row) (hne : v.ownBlock ≠ row) : OwnI w' B v l := by
  obtain ⟨g, cap, hv, hl, h0 | ⟨g', cap', cur, hv', hB', hh, hr⟩⟩ := h
  · exact ⟨g, cap, hv, hl, Or.inl h0⟩
  · refine ⟨g, cap, hv, hl, Or.inr ⟨g', cap', cur, hv', hB', (hg.block g' (Array.getElem?_eq_some_iff.1 hh).1 ?_).trans hh, hr⟩⟩
    intro e; apply hne; rw [← e, hv']; rfl
/-- A list written out. -/
theorem own_lit (w : World) (l : List Int) (cs : Array Value) (n m : Nat) (hn : n = w.heap.size) (hm : m = l.length) (hcs : cs = (l.map (Value.int .i64)).toArray) (hl : l.length ≤ 1000) : OwnI (w.alloc (.cells cs 3)) w.heap.size (.slice (some ⟨n, 0, none⟩) m m) l := by
  subst hn hm hcs
  have h1000 : 1000 ≤ maxLen := by unfold maxLen; decide
  exact OwnI.of_parts (Nat.le_refl _) (by show (w.heap.push _)[w.heap.size]? = _; exact Array.getElem?_push_size) (Nat.le_refl _) (by omega) (by simp) (fun j hj => by simp [hj])
theorem infoInt : (Tryd.prog.info? 3).map (fun i => (i.zero, i.size, i.bytes)) = some (some (.int .i64 0), 1, 8) := by kernel_rfl
theorem addr_add' (g o j : Nat) : (⟨g, o, none⟩ : Addr).add j = ⟨g, o + j, none⟩ := by unfold Addr.add; split <;> simp_all
theorem run_appI {w : World} {B : Nat} {v1 : Value} {l1 l2 : List Int} {b o cap2 : Nat} (ty : TypeId) (h1 : OwnI w B v1 l1) (h2 : ∀ j (h : j < l2.length), w.cell? ⟨b, o + j, none⟩ = some (.int .i64 l2[j])) (hn : l1.length + l2.length ≤ 8000000) (hB : B ≤ w.heap.size) :
    ∃ v' w', (Builtin.append_ #[25, 25] ty #[v1, .slice (some ⟨b, o, none⟩) l2.length cap2]).run Tryd.prog w = .ok v' w' ∧ OwnI w' B v' (l1 ++ l2) ∧ w.grownBy w' v1.ownBlock ∧ (v'.ownBlock = v1.ownBlock ∨ v'.ownBlock = some w.heap.size) := by
  obtain ⟨i0, hi, hz0, hz1, hz2⟩ := info_parts infoInt
  obtain ⟨g, cap, hv, hown⟩ := h1
  obtain ⟨v', w', hr, ho, hg, hnil, hloc⟩ := run_append_own_at (P := Tryd.prog) w B 25 ty 3 i0 (.int .i64 0) 1 8 Tryd.underlying25 hi hz0 hz1 hz2 rfl (by omega) v1 l1.length (l1.map (Value.int .i64)) hown ⟨b, o, none⟩ l2.length cap2 (l2.map (Value.int .i64)) (by simp) (fun j u hj => by rw [addr_add']; obtain ⟨hj1, hj2⟩ := List.getElem?_eq_some_iff.1 hj; rw [← hj2]; simpa using h2 j (by simpa using hj1)) (fun u hu => by obtain ⟨x, _, rfl⟩ := List.mem_map.1 hu; rfl) (by unfold maxLen; omega) (by omega) hB
  refine ⟨v', w', hr, ?_, hg, hloc⟩
  unfold OwnI
  rw [List.length_append, List.map_append]
  have ho' := ho
  obtain ⟨_, ⟨h0, _⟩ | ⟨g', cap', _, hv', _⟩⟩ := ho'
  · have := (hnil.1 h0).1; rw [hv] at this; cases this
  · exact ⟨g', cap', hv', ho⟩
/-- append in a region that draws its order. -/
theorem step_appI {ops : Array Oper} {o : Oper} {a : Act} {Q : Exit → Act → World → Prop} {K : Act → World → Prop} {E : Prop} (w : World) (hgd : o.guard = none) (s x : Operand) (ho : o.op = .call { callee := .builtin .append, args := #[s, x], argTypes := #[25, 25] })
    (B : Nat) (v1 : Value) (l1 l2 : List Int) (b o2 m cap2 : Nat) (hm : l2.length = m) (hs : a.eval s = v1) (hx : a.eval x = .slice (some ⟨b, o2, none⟩) m cap2) (h1 : OwnI w B v1 l1) (h2 : ∀ j (h : j < l2.length), w.cell? ⟨b, o2 + j, none⟩ = some (.int .i64 l2[j])) (hn : l1.length + l2.length ≤ 8000000) (hB : B ≤ w.heap.size)
    (h : ∀ v' w', OwnI w' B v' (l1 ++ l2) → w.grownBy w' v1.ownBlock → (v'.ownBlock = v1.ownBlock ∨ v'.ownBlock = some w.heap.size) → K (a.put o.dst v') w') :
    if Region.wanted o (yielded ops a.tmps) = true then Oper.wp Tryd.prog o a w K Q else E := by
  have hw : Region.wanted o (yielded ops a.tmps) = true := by simp [Region.wanted, hgd]
  rw [if_pos hw]
  subst hm
  obtain ⟨v', w', hr, r1, r2, r3⟩ := run_appI (cap2 := cap2) o.type h1 h2 hn hB
  unfold Oper.wp execOp
  simp only [ho, resolve, invoke, builtin, Sem.run_bind, Sem.run_pure, Result.andThen_ok, List.map_toArray, List.map_cons, List.map_nil, hs, hx, hr]
  exact h v' w' r1 r2 r3
/-- append in a region that goes in its order. -/
theorem list_appI {ops : Array Oper} {o : Oper} {a : Act} {Q : Exit → Act → World → Prop} {rest : List Oper} (w : World) (hgd : o.guard = none) (s x : Operand) (ho : o.op = .call { callee := .builtin .append, args := #[s, x], argTypes := #[25, 25] })
    (B : Nat) (v1 : Value) (l1 l2 : List Int) (b o2 m cap2 : Nat) (hm : l2.length = m) (hs : a.eval s = v1) (hx : a.eval x = .slice (some ⟨b, o2, none⟩) m cap2) (h1 : OwnI w B v1 l1) (h2 : ∀ j (h : j < l2.length), w.cell? ⟨b, o2 + j, none⟩ = some (.int .i64 l2[j])) (hn : l1.length + l2.length ≤ 8000000) (hB : B ≤ w.heap.size)
    (h : ∀ v' w', OwnI w' B v' (l1 ++ l2) → w.grownBy w' v1.ownBlock → (v'.ownBlock = v1.ownBlock ∨ v'.ownBlock = some w.heap.size) → wpList Tryd.prog ops Q rest (a.put o.dst v') w') :
    wpList Tryd.prog ops Q (o :: rest) a w := by
  refine wpList_plain hgd fun K hK => ?_
  subst hm
  obtain ⟨v', w', hr, r1, r2, r3⟩ := run_appI (cap2 := cap2) o.type h1 h2 hn hB
  unfold Oper.wp execOp
  simp only [ho, resolve, invoke, builtin, Sem.run_bind, Sem.run_pure, Result.andThen_ok, List.map_toArray, List.map_cons, List.map_nil, hs, hx, hr]
  exact hK _ _ (h v' w' r1 r2 r3)
/-- Growth by an append: what lay below B stays. -/
theorem grown_below {w w' : World} {B : Nat} {row : Option Nat} (h : w.grownBy w' row) (hr : ∀ b, row = some b → B ≤ b) (hB : B ≤ w.heap.size) : Below B w w' :=
  ⟨h.os, h.tape, h.output, h.size, fun b hb => h.block b (by omega) (fun e => by have := hr b e.symm; omega)⟩
theorem OwnI.at {w : World} {B g m cap : Nat} {l : List Int} (h : OwnI w B (.slice (some ⟨g, 0, none⟩) m cap) l) : ∀ j (hj : j < l.length), w.cell? ⟨g, 0 + j, none⟩ = some (.int .i64 l[j]) := by
  obtain ⟨g', cap', cur, hv, _, hh, _, _, _, hx⟩ := h.parts
  cases hv
  intro j hj
  simp only [World.cell?, hh, Nat.zero_add]
  exact hx j hj
end Go.Proofs.YtheholgdfmipbaaDoor
