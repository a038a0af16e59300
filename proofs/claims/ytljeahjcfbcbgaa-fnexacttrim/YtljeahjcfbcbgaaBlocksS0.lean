/- What holds between two rounds of spec.Blocks. -/
import Derived.Test.YtljeahjcfbcbgaaOrdPA
import Derived.Test.YtljeahjcfbcbgaaQuI
namespace Go.Proofs.Ytljeahjcfbcbgaa
open Go.ChangeShapes Go.WideShapes Go.ChangeAt Go.RowKit
/-- Block gs tells by 1 and 0 which of n blocks were met. -/
def SeenN (w : World) (gs n : Nat) (met : List Int) : Prop := ∃ cur : Array Value, w.heap[gs]? = some (.cells cur 3 (0, 0)) ∧ n ≤ cur.size ∧ ∀ i, i < n → cur[i]? = some (.int .i64 (if (i : Int) ∈ met then 1 else 0))
theorem SeenN.lt {w : World} {gs n : Nat} {met : List Int} (h : SeenN w gs n met) : gs < w.heap.size := by
  obtain ⟨cur, hh, _⟩ := h; exact (Array.getElem?_eq_some_iff.1 hh).1
theorem SeenN.keep {w w' : World} {gs n : Nat} {met : List Int} (h : SeenN w gs n met) (hk : w'.heap[gs]? = w.heap[gs]?) : SeenN w' gs n met := by
  obtain ⟨cur, hh, hr⟩ := h; exact ⟨cur, hk.trans hh, hr⟩
theorem SeenN.at {w : World} {gs n : Nat} {met : List Int} (h : SeenN w gs n met) {i : Nat} (hi : i < n) : w.cell? ⟨gs, i, none⟩ = some (.int .i64 (if (i : Int) ∈ met then 1 else 0)) ∧ w.frozen? ⟨gs, i, none⟩ = false := by
  obtain ⟨cur, hh, _, hc⟩ := h
  exact ⟨by simp [World.cell?, hh, hc i hi], by simp [World.frozen?, hh]⟩
theorem SeenN.set {w : World} {gs n : Nat} {met : List Int} (h : SeenN w gs n met) {i : Nat} (hi : i < n) : SeenN (w.setCell ⟨gs, i, none⟩ (.int .i64 1)) gs n (met ++ [(i : Int)]) := by
  obtain ⟨cur, hh, hs, hc⟩ := h
  refine ⟨_, heap_setCell_same w gs i cur _ _ hh, by simpa using hs, fun j hj => ?_⟩
  rw [Array.getElem?_setIfInBounds]
  by_cases he : i = j
  · subst he; rw [if_pos rfl, if_pos (by omega)]; simp
  · rw [if_neg he, hc j hj]
    have : ((j : Int) ∈ met ++ [(i : Int)]) ↔ ((j : Int) ∈ met) := by
      rw [List.mem_append, List.mem_singleton]
      exact ⟨fun h => h.resolve_right (by omega), Or.inl⟩
    simp [this]
theorem seenN_zeros {w : World} {B g n cap : Nat} (h : OwnI w B (.slice (some ⟨g, 0, none⟩) n cap) (List.replicate n 0)) : SeenN w g n [] := by
  obtain ⟨g', cap', cur, hv, hB, hh, hc, hm, hs, hx⟩ := h.parts
  simp at hv
  obtain ⟨rfl, rfl⟩ := hv
  rw [List.length_replicate] at hc
  refine ⟨cur, hh, by omega, fun i hi => ?_⟩
  rw [hx i (by simpa using hi)]
  simp
structure BQ (w : World) (G : Array Value) (gs gO n : Nat) (met : List Int) (wr : World) (vq : Value) (todo : List Int) : Prop where
  q : QuI wr (w.heap.size + 1) vq todo
  s : SeenN wr gs n met
  o : OwnI wr (w.heap.size + 1) (.slice (some ⟨gO, 0, none⟩) 0 0) []
  gs0 : w.heap.size + 1 ≤ gs
  qs : vq.ownBlock ≠ some gs
  qo : vq.ownBlock ≠ some gO
  so : gs ≠ gO
  bel : Below w.heap.size w wr
  box : wr.heap[w.heap.size]? = some (.cells G 29 (0, 0))
theorem BQ.stays {w wr w' : World} {G : Array Value} {gs gO n : Nat} {met todo : List Int} {vq : Value} (h : BQ w G gs gO n met wr vq todo) (bel : Below wr.heap.size wr w') : BQ w G gs gO n met w' vq todo :=
  ⟨h.q.stays bel, h.s.keep (bel.block gs h.s.lt), h.o.stays bel, h.gs0, h.qs, h.qo, h.so, below_trans h.bel bel, (bel.block _ (Array.getElem?_eq_some_iff.1 h.box).1).trans h.box⟩
theorem BQ.swap {w wr : World} {G : Array Value} {gs gO n : Nat} {met todo todo' : List Int} {vq vq' : Value} (h : BQ w G gs gO n met wr vq todo) (hq : QuI wr (w.heap.size + 1) vq' todo') (hb : vq'.ownBlock = vq.ownBlock) : BQ w G gs gO n met wr vq' todo' :=
  ⟨hq, h.s, h.o, h.gs0, by rw [hb]; exact h.qs, by rw [hb]; exact h.qo, h.so, h.bel, h.box⟩
theorem BQ.mark {w wr : World} {G : Array Value} {gs gO n : Nat} {met todo : List Int} {vq : Value} (h : BQ w G gs gO n met wr vq todo) {i : Nat} (hi : i < n) : BQ w G gs gO n (met ++ [(i : Int)]) (wr.setCell ⟨gs, i, none⟩ (.int .i64 1)) vq todo := by
  have hb : But gs wr (wr.setCell ⟨gs, i, none⟩ (.int .i64 1)) := (But.refl _ _).set _ _
  have hbx := (Array.getElem?_eq_some_iff.1 h.box).1
  exact ⟨h.q.keep fun g hg => Below.heap_setCell wr ⟨gs, i, none⟩ _ g (fun e => h.qs (by rw [hg]; exact congrArg some e)), h.s.set hi, h.o.butG hb (by simp [Value.ownBlock]; exact fun e => h.so e.symm), h.gs0, h.qs, h.qo, h.so, h.bel.trans (hb.below (by have := h.gs0; omega) h.bel.size), (hb.block _ hbx (by have := h.gs0; omega)).trans h.box⟩
theorem BQ.push {w wr w' : World} {G : Array Value} {gs gO n : Nat} {met todo todo' : List Int} {vq vq' : Value} (h : BQ w G gs gO n met wr vq todo) (hq : QuI w' (w.heap.size + 1) vq' todo') (hg : wr.grownBy w' vq.ownBlock) (hl : vq'.ownBlock = vq.ownBlock ∨ vq'.ownBlock = some wr.heap.size) : BQ w G gs gO n met w' vq' todo' := by
  obtain ⟨b, hb, hb1, hb2⟩ := h.q.low
  have hlo := h.o.low gO rfl
  have hbx := (Array.getElem?_eq_some_iff.1 h.box).1
  have hgs := h.s.lt
  have hbs : b ≠ gs := fun e => h.qs (by rw [hb, e])
  have hbo : b ≠ gO := fun e => h.qo (by rw [hb, e])
  rw [hb] at hg hl
  refine ⟨hq, h.s.keep (hg.block gs hgs (by simp; exact fun e => hbs e.symm)), h.o.kept hg (by simp [Value.ownBlock]; exact fun e => hbo e.symm), h.gs0, ?_, ?_, h.so, h.bel.grown hg h.bel.size (fun b' hb' => by simp at hb'; omega), (hg.block _ hbx (by simp; omega)).trans h.box⟩
  · rcases hl with e | e
    · rw [e]; simpa using hbs
    · rw [e]; simp; omega
  · rcases hl with e | e
    · rw [e]; simpa using hbo
    · rw [e]; simp; omega
end Go.Proofs.Ytljeahjcfbcbgaa
