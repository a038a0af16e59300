/- Lists of texts that a call owns. -/
import Derived.Test.YtheholgdfmipbaaDoorRows
import Derived.Test.YtheholgdfmipbaaDoorBelow0
import Derived.WalkKit
import Derived.ProofKit
import Derived.Below
import Derived.OwnWalk
import Derived.Laws.Rows
import Derived.Maps.AppendAt
namespace Go.Proofs.YtheholgdfmipbaaDoor
open Go.ChangeShapes Go.WideShapes Go.ChangeAt Go.RowKit
/-- The value is a slice of these texts, in a block of its own from B on. -/
def OwnS (w : World) (B : Nat) (v : Value) (ps : List ByteArray) : Prop := w.ownsRow B 9 1 v ps.length (ps.map Value.string)
theorem OwnS.stays {w w' : World} {B : Nat} {v : Value} {ps : List ByteArray} (h : OwnS w B v ps) (bel : Below w.heap.size w w') : OwnS w' B v ps := by
  obtain ⟨hl, h0 | ⟨g, cap, cur, hv, hB, hh, hr⟩⟩ := h
  · exact ⟨hl, Or.inl h0⟩
  · exact ⟨hl, Or.inr ⟨g, cap, cur, hv, hB, (bel.block g (Array.getElem?_eq_some_iff.1 hh).1).trans hh, hr⟩⟩
theorem OwnS.low {w : World} {B : Nat} {v : Value} {ps : List ByteArray} (h : OwnS w B v ps) : ∀ b, v.ownBlock = some b → B ≤ b ∧ b < w.heap.size := fun b hb => World.ownsRow.lt h b hb
theorem OwnS.box {w w' : World} {B bx : Nat} {v : Value} {ps : List ByteArray} {cs : Array Value} {T : TypeId} (h : OwnS w B v ps) (hT : T ≠ 9) (hx : w.heap[bx]? = some (.cells cs T (0, 0))) (gr : w.grownBy w' v.ownBlock) : w'.heap[bx]? = some (.cells cs T (0, 0)) := by
  refine (gr.block bx (Array.getElem?_eq_some_iff.1 hx).1 (fun e => ?_)).trans hx
  obtain ⟨_, ⟨h0, _⟩ | ⟨g, cap, cur, hv, _, hh, _⟩⟩ := h
  · rw [h0] at e; simp [Value.ownBlock] at e
  · rw [hv] at e
    have e2 : g = bx := by simpa [Value.ownBlock] using e.symm
    subst e2
    rw [hx] at hh
    simp at hh
    exact hT hh.2
theorem infoStr : (Tryd.prog.info? 9).map (fun i => (i.zero, i.size, i.bytes)) = some (some (.string ⟨#[]⟩), 1, 16) := by kernel_rfl
theorem OwnS.at {w : World} {B : Nat} {v : Value} {ps : List ByteArray} (h : OwnS w B v ps) (hne : 0 < ps.length) :
    ∃ g cap, v = .slice (some ⟨g, 0, none⟩) ps.length cap ∧ ps.length ≤ cap ∧ g < w.heap.size ∧ ∀ (j : Nat) x, ps[j]? = some x → w.cell? ⟨g, 0 + j, none⟩ = some (.string x) := by
  obtain ⟨_, ⟨_, h0⟩ | ⟨g, cap, cur, rfl, hB, hh, hn, _, hs, ht⟩⟩ := h
  · omega
  · refine ⟨g, cap, rfl, hn, (Array.getElem?_eq_some_iff.1 hh).1, fun i x hi => ?_⟩
    obtain ⟨hi', hx⟩ := List.getElem?_eq_some_iff.1 hi
    have h1 : (cur.toList.take (ps.length * 1))[i]? = (ps.map Value.string)[i]? := by rw [ht]
    rw [List.getElem?_take_of_lt (by omega), List.getElem?_map, hi, Array.getElem?_toList] at h1
    simp only [World.cell?, hh, Nat.zero_add]
    exact h1
/-- append of one text, in a region that goes in its order. -/
theorem list_appS {ops : Array Oper} {o : Oper} {a : Act} {Q : Exit → Act → World → Prop} {rest : List Oper} (w : World) (hgd : o.guard = none) (s x : Operand) (ho : o.op = .call { callee := .builtin .append, args := #[s, x], argTypes := #[50, 50] })
    (B : Nat) (v1 : Value) (ps : List ByteArray) (t : ByteArray) (b : Nat) (hs : a.eval s = v1) (hx : a.eval x = .slice (some ⟨b, 0, none⟩) 1 1) (h1 : OwnS w B v1 ps) (h2 : w.cell? ⟨b, 0, none⟩ = some (.string t)) (hn : ps.length ≤ 100000) (hB : B ≤ w.heap.size)
    (h : ∀ v' w', OwnS w' B v' (ps ++ [t]) → w.grownBy w' v1.ownBlock → wpList Tryd.prog ops Q rest (a.put o.dst v') w') :
    wpList Tryd.prog ops Q (o :: rest) a w := by
  obtain ⟨i0, hi, hz0, hz1, hz2⟩ := info_parts infoStr
  refine wpList_append_own w hgd s x 50 ho B 9 i0 (.string ⟨#[]⟩) 1 16 Tryd.underlying50 hi hz0 hz1 hz2 rfl (by decide) v1 ps.length (ps.map Value.string) hs h1 ⟨b, 0, none⟩ 1 1 [.string t] hx rfl ?c1 ?c2 ?c3 ?c4 hB ?_
  case c1 =>
    intro j u hj
    match j, hj with
    | 0, hj => simp at hj; subst hj; simpa [Addr.add] using h2
  case c2 => intro u hu; simp at hu; subst hu; rfl
  case c3 => unfold maxLen; omega
  case c4 => omega
  intro v' w' ho' hg' _
  refine h v' w' ?_ hg'
  unfold OwnS
  simpa using ho'
end Go.Proofs.YtheholgdfmipbaaDoor
