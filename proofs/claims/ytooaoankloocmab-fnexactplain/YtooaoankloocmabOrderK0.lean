/- What holds between two rounds of impl.Order, and how a round keeps it. -/
import Derived.Test.YtooaoankloocmabVisitP
import Derived.Test.YtooaoankloocmabAheadP
namespace Go.Proofs.Ytooaoankloocmab
open Go.ChangeShapes Go.WideShapes Go.ChangeAt Go.RowKit
theorem OwnI.initO {w : World} {A g n cap : Nat} {l : List Int} {a : Int} (h : OwnI w A (.slice (some ⟨g, 0, none⟩) n cap) (l ++ [a])) : OwnI w A (.slice (some ⟨g, 0, none⟩) l.length cap) l := by
  obtain ⟨g', cap', cur, hv, hB, hh, hc, hm, hs, hx⟩ := h.parts
  cases hv
  rw [List.length_append] at hc
  refine OwnI.of_parts hB hh (by omega) hm hs (fun j hj => ?_)
  have := hx j (by rw [List.length_append]; omega)
  rw [List.getElem_append_left hj] at this
  exact this
structure OInv (xs : List Blk) (w : World) (G : Array Value) (gm : Nat) (R : List Int) (wr : World) (vO vW : Value) (out stk : List Int) : Prop where
  o : OwnI wr (w.heap.size + 1) vO out
  s : OwnI wr (w.heap.size + 1) vW stk
  m : SeenIs wr gm xs.length out
  om : vO.ownBlock ≠ some gm
  sm : vW.ownBlock ≠ some gm
  os : vO.ownBlock ≠ vW.ownBlock
  gm0 : w.heap.size + 1 ≤ gm
  bel : Below w.heap.size w wr
  box : wr.heap[w.heap.size]? = some (.cells G 30 (0, 0))
  run : Run xs stk.reverse out R
  inr : ∀ y ∈ stk, InR xs.length y
  few : Few xs.length out
  sz : free xs.length out * 3 + stk.length ≤ xs.length * 3 + 1
theorem OInv.pop {xs : List Blk} {w wr : World} {G : Array Value} {gm g n cap : Nat} {R : List Int} {vO : Value} {out stk : List Int} {a : Int} (h : OInv xs w G gm R wr vO (.slice (some ⟨g, 0, none⟩) n cap) out (stk ++ [a])) (ha : a ∈ out) : OInv xs w G gm R wr vO (.slice (some ⟨g, 0, none⟩) stk.length cap) out stk :=
  ⟨h.o, h.s.initO, h.m, h.om, h.sm, h.os, h.gm0, h.bel, h.box, by have := h.run; rw [List.reverse_append] at this; exact this.skip_inv ha, fun y hy => h.inr y (List.mem_append_left _ hy), h.few, by have := h.sz; rw [List.length_append] at this; omega⟩
/-- A block that was not gone to: W2 behind the mark and the literal, w3 behind the append to the order, w4 behind Next, w5 behind Reverse, w6 behind the append to the stack. -/
theorem OInv.go {xs : List Blk} (hall : AllIn xs) {w wr w3 w4 w5 w6 : World} {o2 : Obj} {G : Array Value} {gm g n cap i gN nN cN : Nat} {R : List Int} {vO v3 v6 : Value} {out stk : List Int}
    (h : OInv xs w G gm R wr vO (.slice (some ⟨g, 0, none⟩) n cap) out (stk ++ [(i : Int)])) (ha : ¬ (i : Int) ∈ out) (hi : i < xs.length)
    (h3 : OwnI w3 (w.heap.size + 1) v3 (out ++ [(i : Int)])) (r3 : ((wr.setCell ⟨gm, i, none⟩ (.bool true)).alloc o2).grownBy w3 vO.ownBlock) (l3 : v3.ownBlock = vO.ownBlock ∨ v3.ownBlock = some ((wr.setCell ⟨gm, i, none⟩ (.bool true)).alloc o2).heap.size)
    (b4 : Below w3.heap.size w3 w4) (gN3 : w3.heap.size ≤ gN) (gN4 : gN < w4.heap.size) (b5 : But gN w4 w5)
    (h6 : OwnI w6 (w.heap.size + 1) v6 (stk ++ (nxt xs i).reverse)) (r6 : w5.grownBy w6 (Value.slice (some ⟨g, 0, none⟩) nN cN).ownBlock) (l6 : v6.ownBlock = (Value.slice (some ⟨g, 0, none⟩) nN cN).ownBlock ∨ v6.ownBlock = some w5.heap.size) : OInv xs w G gm R w6 v3 v6 (out ++ [(i : Int)]) (stk ++ (nxt xs i).reverse) := by
  have hr : InR xs.length (i : Int) := ⟨by omega, by omega⟩
  have hgm := h.m.lt
  have hz2 : ((wr.setCell ⟨gm, i, none⟩ (.bool true)).alloc o2).heap.size = wr.heap.size + 1 := by simp
  have hg : (Value.slice (some ⟨g, 0, none⟩) nN cN).ownBlock = some g := rfl
  have hgw : w.heap.size + 1 ≤ g ∧ g < wr.heap.size := h.s.low g rfl
  have hsm : g ≠ gm := fun e => h.sm (by rw [← e]; rfl)
  obtain ⟨bO, hbO, hbO1, hbO2⟩ : ∃ b, vO.ownBlock = some b ∧ w.heap.size + 1 ≤ b ∧ b < wr.heap.size := by
    obtain ⟨g', c', hv, _⟩ := id h.o
    have hb : vO.ownBlock = some g' := by rw [hv]; rfl
    exact ⟨g', hb, h.o.low g' hb⟩
  have hbOm : bO ≠ gm := fun e => h.om (by rw [hbO, e])
  have hbOg : bO ≠ g := fun e => h.os (by rw [hbO, e]; rfl)
  rw [hbO] at r3 l3
  rw [hz2] at l3
  rw [hg] at r6 l6
  have z3 := r3.size
  rw [hz2] at z3
  have z4 := b4.size
  have z5 := b5.size
  have z6 := r6.size
  obtain ⟨b3, hb3, hb31⟩ : ∃ b, v3.ownBlock = some b ∧ (b = bO ∨ b = wr.heap.size + 1) := by
    rcases l3 with e | e
    · exact ⟨_, e, Or.inl rfl⟩
    · exact ⟨_, e, Or.inr rfl⟩
  obtain ⟨b6, hb6, hb61⟩ : ∃ b, v6.ownBlock = some b ∧ (b = g ∨ b = w5.heap.size) := by
    rcases l6 with e | e
    · exact ⟨_, e, Or.inl rfl⟩
    · exact ⟨_, e, Or.inr rfl⟩
  have hb3lt := (h3.low b3 hb3).2
  -- a block that none of these writes
  have keep : ∀ k, k < wr.heap.size → k ≠ gm → k ≠ bO → k ≠ g → w6.heap[k]? = wr.heap[k]? := fun k hk k1 k2 k3 => by
    rw [r6.block k (by omega) (by simp; omega), b5.block k (by omega) (by omega), b4.block k (by omega), r3.block k (by omega) (by simp; omega), Below.heap_alloc _ _ _ (by rw [size_set]; exact hk), Below.heap_setCell wr ⟨gm, i, none⟩ _ k k1]
  have seen2 : SeenIs ((wr.setCell ⟨gm, i, none⟩ (.bool true)).alloc o2) gm xs.length (out ++ [(i : Int)]) := (h.m.set hi).keep (Below.heap_alloc _ _ _ (by rw [size_set]; exact hgm))
  have seen6 : SeenIs w6 gm xs.length (out ++ [(i : Int)]) := seen2.keep (by
    rw [r6.block gm (by omega) (by simp; omega), b5.block gm (by omega) (by omega), b4.block gm (by omega), r3.block gm (by omega) (by simp; omega)])
  have own6 : OwnI w6 (w.heap.size + 1) v3 (out ++ [(i : Int)]) :=
    ((h3.stays b4).butG b5 (by rw [hb3]; simp; omega)).kept r6 (by rw [hb3]; simp; omega)
  refine ⟨own6, h6, seen6, by rw [hb3]; simp; omega, by rw [hb6]; simp; omega, by rw [hb3, hb6]; simp; omega, h.gm0, ?_, ?_, ?_, ?_, h.few.step ha hr, by have := h.sz; have := free_step ha hr; have := nxt_len xs (i : Int); simp only [List.length_append, List.length_reverse, List.length_singleton] at *; omega⟩
  · refine h.bel.trans ⟨?_, ?_, ?_, ?_, fun k hk => ?_⟩
    · rw [r6.os, b5.os, b4.os, r3.os]; rfl
    · rw [r6.tape, b5.tape, b4.tape, r3.tape]; rfl
    · rw [r6.output, b5.output, b4.output, r3.output]; rfl
    · omega
    · exact keep k (by have := h.bel.size; omega) (by have := h.gm0; omega) (by omega) (by omega)
  · exact (keep w.heap.size (by omega) (by have := h.gm0; omega) (by omega) (by omega)).trans h.box
  · have := h.run
    rw [List.reverse_append] at this
    have := this.go_inv ha
    rw [List.reverse_append, List.reverse_reverse]
    exact this
  · intro y hy
    rcases List.mem_append.1 hy with hy | hy
    · exact h.inr y (List.mem_append_left _ hy)
    · exact nxt_in hall _ y (List.mem_reverse.1 hy)
end Go.Proofs.Ytooaoankloocmab
