/- What lies where while an image is read: the reader, the image, its two lists. -/
import Derived.Test.YtehccknppnmbkaaDoorRdW
import Derived.Test.YtehccknppnmbkaaDoorOwnNl
import Derived.Test.YtehccknppnmbkaaDoorCpA
import Derived.Laws.ResultCell
namespace Go.Proofs.YtehccknppnmbkaaDoor
open Go.ChangeShapes Go.WideShapes Go.ChangeAt Go.RowKit
theorem results_cell_row2 {fn : Func} {p u : Tmp} {ty : TypeId} (h : fn.results = #[.cell p ty, .tmp u]) (tmps : Array Value) (w : World) (g : Nat) (cs : Array Value)
    (hp : tmps.getD p undef = .pointer (some ⟨g, 0, none⟩)) (hr : (loadVar ty ⟨g, 0, none⟩).run Tryd.prog w = .ok (.agg cs) w) (v : Value) (hv : tmps.getD u undef = v) :
    (results fn tmps).run Tryd.prog w = .ok (.tuple #[.agg cs, v]) w := by
  rw [results_cell_tmp h, hp, hv]
  simp [asAddr, hr, Result.andThen]
def zC : Array Value := #[.slice none 0 0, .int .i64 0, .int .i64 0, .slice none 0 0]
/-- The result's cell at n, the reader's at n + 1, the image's at n + 2; the lists are made later. -/
structure RdAt (s : ByteArray) (n i : Nat) (vS : Value) (p q : Int) (vC : Value) (l1 : List Int) (l2 : List Wrd) (w wr : World) : Prop where
  rs : wr.heap[n]? = some (.cells zC 32 (0, 0))
  rd : wr.heap[n + 1]? = some (.cells #[.string (restAt s i)] 102 (0, 0))
  im : wr.heap[n + 2]? = some (.cells #[vS, .int .i64 p, .int .i64 q, vC] 32 (0, 0))
  o1 : OwnN IntE wr (n + 3) vS l1
  o2 : OwnN WrE wr (n + 3) vC l2
  bel : Below n w wr
section
variable {s : ByteArray} {n i : Nat} {vS : Value} {p q : Int} {vC : Value} {l1 : List Int} {l2 : List Wrd} {w wr : World}
theorem RdAt.few (h : RdAt s n i vS p q vC l1 l2 w wr) : n + 3 ≤ wr.heap.size := (Array.getElem?_eq_some_iff.1 h.im).1
theorem RdAt.drew (h : RdAt s n i vS p q vC l1 l2 w wr) : RdAt s n i vS p q vC l1 l2 w wr.drew := ⟨h.rs, h.rd, h.im, h.o1, h.o2, h.bel.drew⟩
theorem RdAt.call (h : RdAt s n i vS p q vC l1 l2 w wr) {w' : World} {i' : Nat} (b : But (n + 1) wr w') (r : w'.heap[n + 1]? = some (.cells #[.string (restAt s i')] 102 (0, 0))) : RdAt s n i' vS p q vC l1 l2 w w' :=
  ⟨keepB h.rs b (by omega), r, keepB h.im b (by omega), h.o1.keep fun g hg hl => b.block g hl (by omega), h.o2.keep fun g hg hl => b.block g hl (by omega), h.bel.trans (b.below (by omega) (by have := h.few; omega))⟩
theorem RdAt.stays (h : RdAt s n i vS p q vC l1 l2 w wr) {w' : World} (b : Below wr.heap.size wr w') : RdAt s n i vS p q vC l1 l2 w w' :=
  ⟨keepR h.rs b, keepR h.rd b, keepR h.im b, h.o1.keep fun g _ hl => b.block g hl, h.o2.keep fun g _ hl => b.block g hl, h.bel.trans (b.mono (by have := h.few; omega))⟩
theorem typ_list {α β : Type} {E : Elem α} {F : Elem β} (hT : E.T ≠ F.T) {w : World} {B B2 : Nat} {v v2 : Value} {l : List α} {l2 : List β} (h : OwnN E w B v l) (h2 : OwnN F w B2 v2 l2) {b : Nat} (hb : v.ownBlock = some b) : v2.ownBlock ≠ some b := fun e => by
  obtain ⟨_, ⟨h0, _⟩ | ⟨g, cap, cur, hv, _, hh, _⟩⟩ := h
  · rw [h0] at hb; simp [Value.ownBlock] at hb
  · obtain ⟨_, ⟨h0, _⟩ | ⟨g2, cap2, cur2, hv2, _, hh2, _⟩⟩ := h2
    · rw [h0] at e; simp [Value.ownBlock] at e
    · rw [hv] at hb
      rw [hv2] at e
      have e1 : g = b := by simpa [Value.ownBlock] using hb
      have e2 : g2 = b := by simpa [Value.ownBlock] using e
      subst e1
      subst e2
      rw [hh] at hh2
      simp at hh2
      exact hT hh2.2
theorem own_other {α β : Type} {E : Elem α} {F : Elem β} (hT : E.T ≠ F.T) {w w' : World} {B B2 : Nat} {v v2 : Value} {l : List α} {l2 : List β} (h : OwnN E w B v l) (h2 : OwnN F w B2 v2 l2) (g : w.grownBy w' v.ownBlock) : OwnN F w' B2 v2 l2 := by
  obtain ⟨hl, h0 | ⟨b, cap, cur, hv, hB, hh, hr⟩⟩ := id h2
  · exact ⟨hl, Or.inl h0⟩
  · refine ⟨hl, Or.inr ⟨b, cap, cur, hv, hB, (g.block b (Array.getElem?_eq_some_iff.1 hh).1 (fun e => ?_)).trans hh, hr⟩⟩
    exact typ_list hT h h2 (by rw [← e]) (by rw [hv]; rfl)
/-- A size more. -/
theorem RdAt.app1 (h : RdAt s n i vS p q vC l1 l2 w wr) {w' : World} {v' : Value} {l' : List Int} (g : wr.grownBy w' vS.ownBlock) (o : OwnN IntE w' (n + 3) v' l') : RdAt s n i v' p q vC l' l2 w (w'.setCell ⟨n + 2, 0, none⟩ v') ∧ w'.cell? ⟨n + 2, 0, none⟩ = some vS ∧ w'.frozen? ⟨n + 2, 0, none⟩ = false := by
  have low : ∀ b, b < n + 3 → b < wr.heap.size → w'.heap[b]? = wr.heap[b]? := fun b hb hl => g.block b hl (fun e => by have := (h.o1.low b e.symm).1; omega)
  have hf := h.few
  have i2 := (low (n + 2) (by omega) (by omega)).trans h.im
  have bs := (But.refl (n + 2) w').set 0 v'
  have o2 : OwnN WrE w' (n + 3) vC l2 := own_other (by decide) h.o1 h.o2 g
  have im' : (w'.setCell ⟨n + 2, 0, none⟩ v').heap[n + 2]? = some (.cells #[v', .int .i64 p, .int .i64 q, vC] 32 (0, 0)) := by rw [heap_setCell_same w' (n + 2) 0 _ _ v' i2]; rfl
  refine ⟨⟨keepB ((low n (by omega) (by omega)).trans h.rs) bs (by omega), keepB ((low (n + 1) (by omega) (by omega)).trans h.rd) bs (by omega), im', o.keep fun b hb hl => bs.block b hl (by omega), o2.keep fun b hb hl => bs.block b hl (by omega), ?_⟩, (cells_of i2).1 0, (cells_of i2).2 0⟩
  have b1 : Below n wr w' := ⟨g.os, g.tape, g.output, g.size, fun b hb => low b (by omega) (by omega)⟩
  exact (h.bel.trans b1).trans (bs.below (by omega) (by have := g.size; omega))
/-- A word more. -/
theorem RdAt.app2 (h : RdAt s n i vS p q vC l1 l2 w wr) {w' : World} {v' : Value} {l' : List Wrd} (g : wr.grownBy w' vC.ownBlock) (o : OwnN WrE w' (n + 3) v' l') : RdAt s n i vS p q v' l1 l' w (w'.setCell ⟨n + 2, 3, none⟩ v') ∧ w'.cell? ⟨n + 2, 3, none⟩ = some vC ∧ w'.frozen? ⟨n + 2, 3, none⟩ = false := by
  have low : ∀ b, b < n + 3 → b < wr.heap.size → w'.heap[b]? = wr.heap[b]? := fun b hb hl => g.block b hl (fun e => by have := (h.o2.low b e.symm).1; omega)
  have hf := h.few
  have i2 := (low (n + 2) (by omega) (by omega)).trans h.im
  have bs := (But.refl (n + 2) w').set 3 v'
  have o1 : OwnN IntE w' (n + 3) vS l1 := own_other (by decide) h.o2 h.o1 g
  have im' : (w'.setCell ⟨n + 2, 3, none⟩ v').heap[n + 2]? = some (.cells #[vS, .int .i64 p, .int .i64 q, v'] 32 (0, 0)) := by rw [heap_setCell_same w' (n + 2) 3 _ _ v' i2]; rfl
  refine ⟨⟨keepB ((low n (by omega) (by omega)).trans h.rs) bs (by omega), keepB ((low (n + 1) (by omega) (by omega)).trans h.rd) bs (by omega), im', o1.keep fun b hb hl => bs.block b hl (by omega), o.keep fun b hb hl => bs.block b hl (by omega), ?_⟩, (cells_of i2).1 3, (cells_of i2).2 3⟩
  have b1 : Below n wr w' := ⟨g.os, g.tape, g.output, g.size, fun b hb => low b (by omega) (by omega)⟩
  exact (h.bel.trans b1).trans (bs.below (by omega) (by have := g.size; omega))
theorem RdAt.put1 (h : RdAt s n i vS p q vC l1 l2 w wr) (z : Int) : RdAt s n i vS z q vC l1 l2 w (wr.setCell ⟨n + 2, 1, none⟩ (.int .i64 z)) := by
  have bs := (But.refl (n + 2) wr).set 1 (.int .i64 z)
  have hf := h.few
  refine ⟨keepB h.rs bs (by omega), keepB h.rd bs (by omega), ?_, h.o1.keep fun b hb hl => bs.block b hl (by omega), h.o2.keep fun b hb hl => bs.block b hl (by omega), h.bel.trans (bs.below (by omega) (by omega))⟩
  rw [heap_setCell_same wr (n + 2) 1 _ _ _ h.im]; rfl
theorem RdAt.put2 (h : RdAt s n i vS p q vC l1 l2 w wr) (z : Int) : RdAt s n i vS p z vC l1 l2 w (wr.setCell ⟨n + 2, 2, none⟩ (.int .i64 z)) := by
  have bs := (But.refl (n + 2) wr).set 2 (.int .i64 z)
  have hf := h.few
  refine ⟨keepB h.rs bs (by omega), keepB h.rd bs (by omega), ?_, h.o1.keep fun b hb hl => bs.block b hl (by omega), h.o2.keep fun b hb hl => bs.block b hl (by omega), h.bel.trans (bs.below (by omega) (by omega))⟩
  rw [heap_setCell_same wr (n + 2) 2 _ _ _ h.im]; rfl
end
end Go.Proofs.YtehccknppnmbkaaDoor
