/- A copy of a graph whose codes are put anew one by one (the specification's Forward, DeadStores, Clean, Twice). -/
import Derived.Test.YtjmclmbepnbeoaaL04All
import Derived.Test.YtjmclmbepnbeoaaOwnA
import Derived.Test.YtjmclmbepnbeoaaRowA
namespace Go.Proofs.Ytjmclmbepnbeoaa
open Go.ChangeShapes Go.WideShapes Go.ChangeAt Go.RowKit
theorem ins_all {w : World} {B : Nat} {u : Option Addr} {code : List Ins} (h : SlIs InsIs 7 w B u code) : ∀ x ∈ code, x.wf ∧ x.t.size ≤ maxLen := fun x hx => by
  obtain ⟨i, hi, rfl⟩ := List.getElem_of_mem hx
  obtain ⟨_, _, _, _, _, _, _, _, ok⟩ := h.at i hi
  exact ok.2
theorem OwnE.sl {w : World} {B g n cap : Nat} {l : List Ins} (h : OwnE InE w B (.slice (some ⟨g, 0, none⟩) n cap) l) (hw : ∀ z ∈ l, z.wf ∧ z.t.size ≤ maxLen) (hl : l.length ≤ maxLen) : SlIs InsIs 7 w B (some ⟨g, 0, none⟩) l := by
  obtain ⟨g', cap', cur, hv, hB, hh, _, _, _, hx⟩ := h.parts InOk
  injection hv with e1
  injection e1 with e1
  injection e1 with e1
  subst e1
  refine ⟨hl, fun i => insV (l[i]!), Or.inr ⟨g, 0, rfl, hB, hltP hh, fun _ => ⟨cur, _, hh⟩, fun i hi => ⟨rfl, fun j hj => ?_⟩⟩, fun i hi => ?_⟩
  · have := hx i hi j hj
    simp only [World.cell?, hh, Nat.zero_add, getElem!_pos l i hi]
    rw [show InE.sz = 7 from rfl] at this
    refine Eq.trans this ?_
    simp [InE, insV]
  · simp only [getElem!_pos l i hi]
    exact ⟨rfl, hw _ (List.getElem_mem hi)⟩
theorem CpAt.put {base : Nat} {x : Gr} {sa : Option Addr} {kS gq cq : Nat} {rows : List BRow} {W : World} (h : CpAt base x sa kS gq cq rows W) {j : Nat} (hj : j < x.blocks.length) {gn n' kn : Nat} {code' : List Ins} (ho : SlIs InsIs 7 W base (some ⟨gn, 0, none⟩) code') (hne : gn ≠ gq) (hn : n' = code'.length) :
    ∃ rows', CpAt base { x with blocks := x.blocks.set j { x.blocks[j] with code := code' } } sa kS gq cq rows' (W.setCell ⟨gq, j * 5, none⟩ (.slice (some ⟨gn, 0, none⟩) n' kn)) := by
  subst hn
  have hjr : j < rows.length := by rw [h.len]; exact hj
  have hb : But gq W (W.setCell ⟨gq, j * 5, none⟩ (.slice (some ⟨gn, 0, none⟩) code'.length kn)) := (But.refl gq W).set _ _
  obtain ⟨h1, h2, _⟩ := h.code j hjr
  rw [getElem!_pos x.blocks j hj] at h1
  refine ⟨rows.set j (some ⟨gn, 0, none⟩, kn, { x.blocks[j] with code := code' }), ?_, ?_, h.wf, h.szs.butne h.szne hb, h.szne, fun i hi => ?_, fun i hi h0 => ?_⟩
  · have := OwnE.setR BlE_ok h.own hjr (r := 0) (by decide) (u := .slice (some ⟨gn, 0, none⟩) code'.length kn) (x' := (some ⟨gn, 0, none⟩, kn, { x.blocks[j] with code := code' })) (by rw [← h1]; rfl)
    simp only [List.length_set]
    exact this
  · rw [List.length_set, List.length_set]; exact h.len
  · rw [List.length_set] at hi
    have hib : i < x.blocks.length := by rw [← h.len]; exact hi
    rw [getElem!_pos (x.blocks.set j _) i (by rw [List.length_set]; exact hib)]
    by_cases e : j = i
    · subst e
      rw [List.getElem_set_self, List.getElem_set_self]
      refine ⟨rfl, ?_, ho.butne (fun _ b o e => by cases e; exact hne) hb⟩
      rw [h1] at h2
      exact h2
    · rw [List.getElem_set_ne e, List.getElem_set_ne e]
      obtain ⟨k1, k2, k3⟩ := h.code i hi
      rw [getElem!_pos x.blocks i hib] at k1
      exact ⟨k1, k2, k3.butne (h.cone i hi) hb⟩
  · rw [List.length_set] at hi
    by_cases e : j = i
    · subst e
      rw [List.getElem_set_self]
      intro b o e
      cases e
      exact hne
    · rw [List.getElem_set_ne e] at h0 ⊢
      exact h.cone i hi h0
theorem CpAt.gr {base : Nat} {x : Gr} {sa : Option Addr} {kS gq cq : Nat} {rows : List BRow} {W : World} (h : CpAt base x sa kS gq cq rows W) (hl : x.blocks.length ≤ maxLen) : GrIs W base #[.slice sa x.sizes.length kS, .int .i64 x.params, .int .i64 x.vars, .int .i64 x.slots, .slice (some ⟨gq, 0, none⟩) x.blocks.length cq] x := by
  refine ⟨sa, kS, _, cq, rfl, h.wf, h.szs, hl, ?_⟩
  obtain ⟨g', cap, cur, hv, hB', hh, _, _, _, hx⟩ := h.own.parts BlE_ok
  injection hv with e1
  injection e1 with e1
  injection e1 with e1
  subst e1
  have hlen := h.len
  refine ⟨fun i => (BlE.cs (rows[i]!)).toArray, Or.inr ⟨gq, 0, rfl, hB', hltH hh, fun _ => ⟨cur, _, hh⟩, fun i hi => ⟨rfl, fun j hj => ?_⟩⟩, fun i hi => ?_⟩
  · have := hx i (by omega) j hj
    simp only [World.cell?, hh, Nat.zero_add, getElem!_pos rows i (show i < rows.length by omega)]
    rw [show BlE.sz = 5 from rfl] at this
    simpa using this
  · have hi' : i < rows.length := by omega
    obtain ⟨h1, h2, h3⟩ := h.code i hi'
    rw [getElem!_pos x.blocks i hi] at h1
    simp only [getElem!_pos rows i hi']
    rw [← h1]
    exact ⟨_, _, rfl, h2, h3⟩
/-- Between two rounds. -/
structure SfAt (w : World) (o : Nat) (bv zv ov : Array Value) (x : Gr) (sa : Option Addr) (kS gq cq : Nat) (wr : World) : Prop where
  cp : ∃ rows, CpAt (w.heap.size + 2) x sa kS gq cq rows wr
  bP : wr.heap[w.heap.size]? = some (.cells bv 29 (0, 0))
  bR : wr.heap[w.heap.size + 1]? = some (.cells zv 29 (0, 0))
  bO : wr.heap[o]? = some (.cells ov 29 (0, 0))
  bel : Below w.heap.size w wr
theorem SfAt.stays {w wr wr' : World} {o : Nat} {bv zv ov : Array Value} {x : Gr} {sa : Option Addr} {kS gq cq : Nat} (h : SfAt w o bv zv ov x sa kS gq cq wr) (b : Below wr.heap.size wr wr') : SfAt w o bv zv ov x sa kS gq cq wr' :=
  let ⟨rows, hr⟩ := h.cp
  ⟨⟨rows, hr.stays b⟩, (b.block _ (hltP h.bP)).trans h.bP, (b.block _ (hltP h.bR)).trans h.bR, (b.block _ (hltP h.bO)).trans h.bO, below_trans h.bel b⟩
theorem SfAt.put {w wr : World} {o : Nat} {bv zv ov : Array Value} {x : Gr} {sa : Option Addr} {kS gq cq : Nat} (h : SfAt w o bv zv ov x sa kS gq cq wr) {j : Nat} (hj : j < x.blocks.length) {gn n' kn : Nat} {code' : List Ins} (ho : SlIs InsIs 7 wr (w.heap.size + 2) (some ⟨gn, 0, none⟩) code') (hne : gn ≠ gq) (hn : n' = code'.length) (lo : w.heap.size + 2 ≤ gq ∧ gq < o) :
    SfAt w o bv zv ov { x with blocks := x.blocks.set j { x.blocks[j] with code := code' } } sa kS gq cq (wr.setCell ⟨gq, j * 5, none⟩ (.slice (some ⟨gn, 0, none⟩) n' kn)) :=
  let ⟨_, hr⟩ := h.cp
  have hb : But gq wr (wr.setCell ⟨gq, j * 5, none⟩ (.slice (some ⟨gn, 0, none⟩) n' kn)) := (But.refl gq wr).set _ _
  ⟨hr.put hj ho hne hn, keepQ hb h.bP (by omega), keepQ hb h.bR (by omega), keepQ hb h.bO (by omega), h.bel.trans (hb.below (by omega) h.bel.size)⟩
/-- All blocks but one are as they were. -/
def KpG (wr : World) (g : Nat) (W : World) : Prop := ∀ k, k < wr.heap.size → k ≠ g → W.heap[k]? = wr.heap[k]?
theorem KpG.of {wr W : World} {g : Nat} (h : Below wr.heap.size wr W) : KpG wr g W := fun k hk _ => h.block k hk
theorem KpG.drew (wr : World) (g : Nat) : KpG wr g wr.drew := fun _ _ _ => rfl
theorem KpG.set {wr W : World} {g : Nat} (h : Below wr.heap.size wr W) (i : Nat) (u : Value) : KpG wr g (W.setCell ⟨g, i, none⟩ u) := fun k hk hne => (Below.heap_setCell W ⟨g, i, none⟩ u k hne).trans (h.block k hk)
/-- The answer is this graph. -/
def SpGrF (w : World) (x : Gr) (en : Ending) (w' : World) : Prop := ∃ v', en = .returned (.agg v') ∧ GrIs w' w.heap.size v' x ∧ Below w.heap.size w w'
end Go.Proofs.Ytjmclmbepnbeoaa
