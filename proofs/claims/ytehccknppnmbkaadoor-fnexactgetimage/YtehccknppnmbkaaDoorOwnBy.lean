/- Lists of bytes that a call owns: append (as OwnInt has it for numbers). -/
import Derived.Test.YtehccknppnmbkaaDoorBelow0
import Derived.Test.YtehccknppnmbkaaDoorRows
import Derived.WalkKit
import Derived.ProofKit
import Derived.Maps.AppendAt
import Derived.OwnWalk
import Derived.Deep.AppendLies
import Derived.Deep.RegionHeld3
namespace Go.Proofs.YtehccknppnmbkaaDoor
open Go.ChangeShapes Go.WideShapes Go.ChangeAt Go.RowKit
/-- The value is a slice of these numbers, in a block of its own from B on. -/
def OwnB (w : World) (B : Nat) (v : Value) (l : List Int) : Prop := ∃ g cap, v = .slice (some ⟨g, 0, none⟩) l.length cap ∧ w.ownsRow B 5 1 v l.length (l.map (Value.int .u8))
theorem ownsB_stays {w w' : World} {base : Nat} {e : TypeId} {size : Nat} {v : Value} {n : Nat} {xs : List Value} (h : w.ownsRow base e size v n xs) (bel : Below w.heap.size w w') : w'.ownsRow base e size v n xs := by
  obtain ⟨hl, h0 | ⟨g, cap, cur, hv, hB, hh, hr⟩⟩ := h
  · exact ⟨hl, Or.inl h0⟩
  · exact ⟨hl, Or.inr ⟨g, cap, cur, hv, hB, (bel.block g (Array.getElem?_eq_some_iff.1 hh).1).trans hh, hr⟩⟩
theorem addr_addB (g o j : Nat) : (⟨g, o, none⟩ : Addr).add j = ⟨g, o + j, none⟩ := by unfold Addr.add; split <;> simp_all
/-- Its parts: the block, and what it holds. -/
theorem OwnB.parts {w : World} {B : Nat} {v : Value} {l : List Int} (h : OwnB w B v l) : ∃ g cap cur, v = .slice (some ⟨g, 0, none⟩) l.length cap ∧ B ≤ g ∧ w.heap[g]? = some (.cells cur 5 (0, 0)) ∧ l.length ≤ cap ∧ cap ≤ maxLen ∧ cur.size = cap ∧ ∀ j (hj : j < l.length), cur[j]? = some (.int .u8 l[j]) := by
  obtain ⟨g0, cap0, hv0, hl, ⟨h0, _⟩ | ⟨g, cap, cur, hv, hB, hh, hc, hm, hs, ht⟩⟩ := h
  · rw [hv0] at h0; cases h0
  · refine ⟨g, cap, cur, hv, hB, hh, hc, hm, by simpa using hs, fun j hj => ?_⟩
    have h1 : (cur.toList.take (l.length * 1))[j]? = (l.map (Value.int .u8))[j]? := by rw [ht]
    rw [List.getElem?_take_of_lt (by omega)] at h1
    simpa [hj] using h1
theorem OwnB.of_parts {w : World} {B g cap : Nat} {cur : Array Value} {l : List Int} (hB : B ≤ g) (hh : w.heap[g]? = some (.cells cur 5 (0, 0))) (hc : l.length ≤ cap) (hm : cap ≤ maxLen) (hs : cur.size = cap) (hx : ∀ j (hj : j < l.length), cur[j]? = some (.int .u8 l[j])) : OwnB w B (.slice (some ⟨g, 0, none⟩) l.length cap) l := by
  refine ⟨g, cap, rfl, by simp, Or.inr ⟨g, cap, cur, rfl, hB, hh, hc, hm, by simpa using hs, ?_⟩⟩
  apply List.ext_getElem?
  intro j
  by_cases hj : j < l.length
  · rw [List.getElem?_take_of_lt (by omega)]
    simpa [hj] using hx j hj
  · rw [List.getElem?_eq_none (by simp; omega), List.getElem?_eq_none (by simp; omega)]
theorem OwnB.stays {w w' : World} {B : Nat} {v : Value} {l : List Int} (h : OwnB w B v l) (bel : Below w.heap.size w w') : OwnB w' B v l :=
  let ⟨g, cap, hv, ho⟩ := h
  ⟨g, cap, hv, ownsB_stays ho bel⟩
theorem OwnB.mono {w : World} {B B' : Nat} {v : Value} {l : List Int} (h : OwnB w B v l) (hB : B' ≤ B) : OwnB w B' v l := by
  obtain ⟨g, cap, hv, hl, h0 | ⟨g', cap', cur, hv', hB', hr⟩⟩ := h
  · exact ⟨g, cap, hv, hl, Or.inl h0⟩
  · exact ⟨g, cap, hv, hl, Or.inr ⟨g', cap', cur, hv', Nat.le_trans hB hB', hr⟩⟩
theorem OwnB.low {w : World} {B : Nat} {v : Value} {l : List Int} (h : OwnB w B v l) : ∀ b, v.ownBlock = some b → B ≤ b ∧ b < w.heap.size := fun b hb => h.choose_spec.choose_spec.2.lt b hb
theorem OwnB.kept {w w' : World} {B : Nat} {v : Value} {l : List Int} {row : Option Nat} (h : OwnB w B v l) (hg : w.grownBy w' row) (hne : v.ownBlock ≠ row) : OwnB w' B v l := by
  obtain ⟨g, cap, hv, hl, h0 | ⟨g', cap', cur, hv', hB', hh, hr⟩⟩ := h
  · exact ⟨g, cap, hv, hl, Or.inl h0⟩
  · refine ⟨g, cap, hv, hl, Or.inr ⟨g', cap', cur, hv', hB', (hg.block g' (Array.getElem?_eq_some_iff.1 hh).1 ?_).trans hh, hr⟩⟩
    intro e; apply hne; rw [← e, hv']; rfl
/-- A list written out. -/
theorem own_litB (w : World) (l : List Int) (cs : Array Value) (n m : Nat) (hn : n = w.heap.size) (hm : m = l.length) (hcs : cs = (l.map (Value.int .u8)).toArray) (hl : l.length ≤ 1000) : OwnB (w.alloc (.cells cs 5)) w.heap.size (.slice (some ⟨n, 0, none⟩) m m) l := by
  subst hn hm hcs
  have h1000 : 1000 ≤ maxLen := by unfold maxLen; decide
  exact OwnB.of_parts (Nat.le_refl _) (by show (w.heap.push _)[w.heap.size]? = _; exact Array.getElem?_push_size) (Nat.le_refl _) (by omega) (by simp) (fun j hj => by simp [hj])
theorem infoB8 : (Tryd.prog.info? 5).map (fun i => (i.zero, i.size, i.bytes)) = some (some (.int .u8 0), 1, 1) := by kernel_rfl
theorem run_appB {w : World} {B : Nat} {v1 : Value} {l1 l2 : List Int} {b o cap2 : Nat} (ty : TypeId) (h1 : OwnB w B v1 l1) (h2 : ∀ j (h : j < l2.length), w.cell? ⟨b, o + j, none⟩ = some (.int .u8 l2[j])) (hn : l1.length + l2.length ≤ 8000000) (hB : B ≤ w.heap.size) :
    ∃ v' w', (Builtin.append_ #[97, 97] ty #[v1, .slice (some ⟨b, o, none⟩) l2.length cap2]).run Tryd.prog w = .ok v' w' ∧ OwnB w' B v' (l1 ++ l2) ∧ w.grownBy w' v1.ownBlock ∧ (v'.ownBlock = v1.ownBlock ∨ v'.ownBlock = some w.heap.size) := by
  obtain ⟨i0, hi, hz0, hz1, hz2⟩ := info_parts infoB8
  obtain ⟨g, cap, hv, hown⟩ := h1
  obtain ⟨v', w', hr, ho, hg, hnil, hloc⟩ := run_append_own_at (P := Tryd.prog) w B 97 ty 5 i0 (.int .u8 0) 1 1 Tryd.underlying97 hi hz0 hz1 hz2 rfl (by omega) v1 l1.length (l1.map (Value.int .u8)) hown ⟨b, o, none⟩ l2.length cap2 (l2.map (Value.int .u8)) (by simp) (fun j u hj => by rw [addr_addB]; obtain ⟨hj1, hj2⟩ := List.getElem?_eq_some_iff.1 hj; rw [← hj2]; simpa using h2 j (by simpa using hj1)) (fun u hu => by obtain ⟨x, _, rfl⟩ := List.mem_map.1 hu; rfl) (by unfold maxLen; omega) (by omega) hB
  refine ⟨v', w', hr, ?_, hg, hloc⟩
  unfold OwnB
  rw [List.length_append, List.map_append]
  have ho' := ho
  obtain ⟨_, ⟨h0, _⟩ | ⟨g', cap', _, hv', _⟩⟩ := ho'
  · have := (hnil.1 h0).1; rw [hv] at this; cases this
  · exact ⟨g', cap', hv', ho⟩
/-- append in a region that draws its order. -/
theorem step_appB {ops : Array Oper} {o : Oper} {a : Act} {Q : Exit → Act → World → Prop} {K : Act → World → Prop} {E : Prop} (w : World) (hgd : o.guard = none) (s x : Operand) (ho : o.op = .call { callee := .builtin .append, args := #[s, x], argTypes := #[97, 97] })
    (B : Nat) (v1 : Value) (l1 l2 : List Int) (b o2 m cap2 : Nat) (hm : l2.length = m) (hs : a.eval s = v1) (hx : a.eval x = .slice (some ⟨b, o2, none⟩) m cap2) (h1 : OwnB w B v1 l1) (h2 : ∀ j (h : j < l2.length), w.cell? ⟨b, o2 + j, none⟩ = some (.int .u8 l2[j])) (hn : l1.length + l2.length ≤ 8000000) (hB : B ≤ w.heap.size)
    (h : ∀ v' w', OwnB w' B v' (l1 ++ l2) → w.grownBy w' v1.ownBlock → (v'.ownBlock = v1.ownBlock ∨ v'.ownBlock = some w.heap.size) → K (a.put o.dst v') w') :
    if Region.wanted o (yielded ops a.tmps) = true then Oper.wp Tryd.prog o a w K Q else E := by
  have hw : Region.wanted o (yielded ops a.tmps) = true := by simp [Region.wanted, hgd]
  rw [if_pos hw]
  subst hm
  obtain ⟨v', w', hr, r1, r2, r3⟩ := run_appB (cap2 := cap2) o.type h1 h2 hn hB
  unfold Oper.wp execOp
  simp only [ho, resolve, invoke, builtin, Sem.run_bind, Sem.run_pure, Result.andThen_ok, List.map_toArray, List.map_cons, List.map_nil, hs, hx, hr]
  exact h v' w' r1 r2 r3
/-- append in a region that goes in its order. -/
theorem list_appB {ops : Array Oper} {o : Oper} {a : Act} {Q : Exit → Act → World → Prop} {rest : List Oper} (w : World) (hgd : o.guard = none) (s x : Operand) (ho : o.op = .call { callee := .builtin .append, args := #[s, x], argTypes := #[97, 97] })
    (B : Nat) (v1 : Value) (l1 l2 : List Int) (b o2 m cap2 : Nat) (hm : l2.length = m) (hs : a.eval s = v1) (hx : a.eval x = .slice (some ⟨b, o2, none⟩) m cap2) (h1 : OwnB w B v1 l1) (h2 : ∀ j (h : j < l2.length), w.cell? ⟨b, o2 + j, none⟩ = some (.int .u8 l2[j])) (hn : l1.length + l2.length ≤ 8000000) (hB : B ≤ w.heap.size)
    (h : ∀ v' w', OwnB w' B v' (l1 ++ l2) → w.grownBy w' v1.ownBlock → (v'.ownBlock = v1.ownBlock ∨ v'.ownBlock = some w.heap.size) → wpList Tryd.prog ops Q rest (a.put o.dst v') w') :
    wpList Tryd.prog ops Q (o :: rest) a w := by
  refine wpList_plain hgd fun K hK => ?_
  subst hm
  obtain ⟨v', w', hr, r1, r2, r3⟩ := run_appB (cap2 := cap2) o.type h1 h2 hn hB
  unfold Oper.wp execOp
  simp only [ho, resolve, invoke, builtin, Sem.run_bind, Sem.run_pure, Result.andThen_ok, List.map_toArray, List.map_cons, List.map_nil, hs, hx, hr]
  exact hK _ _ (h v' w' r1 r2 r3)
theorem OwnB.at {w : World} {B g m cap : Nat} {l : List Int} (h : OwnB w B (.slice (some ⟨g, 0, none⟩) m cap) l) : ∀ j (hj : j < l.length), w.cell? ⟨g, 0 + j, none⟩ = some (.int .u8 l[j]) := by
  obtain ⟨g', cap', cur, hv, _, hh, _, _, _, hx⟩ := h.parts
  cases hv
  intro j hj
  simp only [World.cell?, hh, Nat.zero_add]
  exact hx j hj
/-- What lies below B, and whatever is no block of bytes, is as it was. -/
structure KpU (B : Nat) (w w' : World) : Prop where
  os : w'.os = w.os
  tape : w'.tape = w.tape
  output : w'.output = w.output
  size : w.heap.size ≤ w'.heap.size
  block : ∀ k, k < w.heap.size → (k < B ∨ ∀ cs m, w.heap[k]? ≠ some (.cells cs 5 m)) → w'.heap[k]? = w.heap[k]?
theorem KpU.refl (B : Nat) (w : World) : KpU B w w := ⟨rfl, rfl, rfl, Nat.le_refl _, fun _ _ _ => rfl⟩
theorem KpU.trans {B : Nat} {a b c : World} (h : KpU B a b) (k : KpU B b c) : KpU B a c :=
  ⟨k.os.trans h.os, k.tape.trans h.tape, k.output.trans h.output, Nat.le_trans h.size k.size, fun i hi ho => by
    have e := h.block i hi ho
    refine (k.block i (Nat.lt_of_lt_of_le hi h.size) ?_).trans e
    rcases ho with h1 | h1
    · exact Or.inl h1
    · exact Or.inr (by rw [e]; exact h1)⟩
theorem KpU.of_below {B : Nat} {w w' : World} (h : Below w.heap.size w w') : KpU B w w' := ⟨h.os, h.tape, h.output, h.size, fun k hk _ => h.block k hk⟩
theorem KpU.below {B : Nat} {w w' : World} (h : KpU B w w') (hB : B ≤ w.heap.size) : Below B w w' := ⟨h.os, h.tape, h.output, h.size, fun k hk => h.block k (by omega) (Or.inl hk)⟩
theorem KpU.grown {B : Nat} {w w' : World} {v : Value} {l : List Int} (ho : OwnB w B v l) (g : w.grownBy w' v.ownBlock) : KpU B w w' :=
  ⟨g.os, g.tape, g.output, g.size, fun k hk hp => g.block k hk (fun e => by
    obtain ⟨b, cap, cur, rfl, hB, hh, _⟩ := ho.parts
    have e2 : b = k := by simpa [Value.ownBlock] using e.symm
    subst e2
    rcases hp with h1 | h1
    · omega
    · exact h1 _ _ hh)⟩
/-- A block of another type stands. -/
theorem KpU.box {B : Nat} {w w' : World} (h : KpU B w w') {b : Nat} {cs : Array Value} {T : TypeId} {m : Nat × Nat} (hT : T ≠ 5) (hx : w.heap[b]? = some (.cells cs T m)) : w'.heap[b]? = some (.cells cs T m) :=
  (h.block b (Array.getElem?_eq_some_iff.1 hx).1 (Or.inr fun cs' m' e => by rw [hx] at e; simp at e; exact hT e.2.1)).trans hx
end Go.Proofs.YtehccknppnmbkaaDoor
