/- A row's list put anew; a set put into a row of sets (written by wip/mkahh.py). -/
import Derived.Test.YtfoelnblnfcaiaaAhG
namespace Go.Proofs.Ytfoelnblnfcaiaa
open Go.ChangeShapes Go.WideShapes Go.ChangeAt Go.RowKit Go.Maps
section
variable {lo n ga : Nat} {av : Nat → Value} {pre : Nat → List Int} {W W' : World}
/-- List t put anew. -/
theorem AhAt.putL (h : AhAt lo n ga av pre W) {t : Nat} (ht : t < n) {W1 W2 : World} (b1 : Below W.heap.size W W1) {v' : Value} {l : List Int} (ho : OwnI W2 lo v' l) (hg : W1.grownBy W2 (av t).ownBlock) (hl : v'.ownBlock = (av t).ownBlock ∨ ∃ q, v'.ownBlock = some q ∧ W1.heap.size ≤ q) :
    AhAt lo n ga (fun u => if u = t then v' else av u) (fun u => if u = t then l else pre u) (W2.setCell ⟨ga, t, none⟩ v') := by
  have h1 := h.stays b1
  obtain ⟨cur, r1, r2, r3⟩ := h1.row
  have hga : (av t).ownBlock ≠ some ga := fun e => by
    obtain ⟨_, _, c, hc⟩ := (h1.own t ht).low ga e
    rw [r1] at hc
    injection hc with hc
    injection hc with _ e2
    exact absurd e2 (by decide)
  have r1' : W2.heap[ga]? = some (.cells cur 22 (0, 0)) := (hg.block _ (hltP r1) (fun e => hga e.symm)).trans r1
  have hb : But ga W2 (W2.setCell ⟨ga, t, none⟩ v') := (But.refl ga W2).set _ _
  have notga : ∀ g, v'.ownBlock = some g → g ≠ ga := fun g hg2 e => by
    subst e
    rcases hl with hl | ⟨q, hl, hq⟩
    · rw [hl] at hg2; exact hga hg2
    · rw [hl] at hg2
      have : q = g := by simpa using hg2
      have := hltP r1
      omega
  refine ⟨⟨cur.setIfInBounds t v', heap_setCell_same W2 ga t cur _ _ r1', by simpa using r2, fun u hu => ?_⟩, fun u hu => ?_, fun u s hu hs hus g hg1 => ?_⟩
  · rw [Array.getElem?_setIfInBounds]
    by_cases e : t = u
    · subst e
      rw [if_pos rfl, if_pos (by omega), if_pos rfl]
    · rw [if_neg e, if_neg (fun e2 => e e2.symm)]
      exact r3 u hu
  · by_cases e : u = t
    · subst e
      simp only [if_pos]
      exact NumN.keep (Or.inr ho) (fun g hg2 hlt => hb.block g hlt (notga g hg2))
    · simp only [if_neg e]
      refine (h1.own u hu).keep (fun g hg2 hlt => ?_)
      have hne : g ≠ ga := fun e2 => by
        subst e2
        obtain ⟨_, _, c, hc⟩ := (h1.own u hu).low g hg2
        rw [r1] at hc
        injection hc with hc
        injection hc with _ e2
        exact absurd e2 (by decide)
      have hnt : (av t).ownBlock ≠ some g := fun e2 => h.dis t u ht hu (fun e3 => e e3.symm) g e2 hg2
      exact (hb.block g (Nat.lt_of_lt_of_le hlt hg.size) hne).trans (hg.block g hlt (fun e2 => hnt e2.symm))
  · by_cases e1 : u = t
    · subst e1
      simp only [if_pos] at hg1
      rw [if_neg (fun e2 => hus e2.symm)]
      intro h2
      rcases hl with hl | ⟨q, hl, hq⟩
      · rw [hl] at hg1
        exact h.dis u s hu hs hus g hg1 h2
      · rw [hl] at hg1
        have e3 : q = g := by simpa using hg1
        have := ((h1.own s hs).low g h2).2.1
        omega
    · simp only [if_neg e1] at hg1
      by_cases e2 : s = t
      · subst e2
        rw [if_pos rfl]
        intro h2
        rcases hl with hl | ⟨q, hl, hq⟩
        · rw [hl] at h2
          exact h.dis s u hs hu (fun e3 => hus e3.symm) g h2 hg1
        · rw [hl] at h2
          have e3 : q = g := by simpa using h2
          have := ((h1.own u hu).low g hg1).2.1
          omega
      · rw [if_neg e2]
        exact h.dis u s hu hs hus g hg1
theorem grows_any {w w' : World} {row : Option Nat} (h : Below w.heap.size w w') : w.grownBy w' row := ⟨h.os, h.tape, h.output, h.size, fun k hk _ => h.block k hk⟩
theorem AhAt.congr {pre' : Nat → List Int} (h : AhAt lo n ga av pre W) (e : ∀ t, t < n → pre t = pre' t) : AhAt lo n ga av pre' W := ⟨h.row, fun t ht => by rw [← e t ht]; exact h.own t ht, h.dis⟩
theorem AhAt.congrA {av' : Nat → Value} (h : AhAt lo n ga av pre W) (e : ∀ t, t < n → av t = av' t) : AhAt lo n ga av' pre W := by
  obtain ⟨cur, h1, h2, h3⟩ := h.row
  exact ⟨⟨cur, h1, h2, fun t ht => by rw [← e t ht]; exact h3 t ht⟩, fun t ht => by rw [← e t ht]; exact h.own t ht, fun t u ht hu => by rw [← e t ht, ← e u hu]; exact h.dis t u ht hu⟩
theorem AhAt.mono {lo' : Nat} (h : AhAt lo n ga av pre W) (hl : lo' ≤ lo) : AhAt lo' n ga av pre W := ⟨h.row, fun t ht => (h.own t ht).elim Or.inl (fun h2 => Or.inr (h2.mono hl)), h.dis⟩
theorem ahAt_made (w : World) (n lo : Nat) : AhAt lo n w.heap.size (fun _ => .slice none 0 0) (fun _ => []) (w.alloc (.cells (madeCells #[.slice none 0 0] n) 22)) :=
  ⟨⟨_, newB8 w _, size_madeCells _ _, made_one _ n⟩, fun _ _ => Or.inl ⟨rfl, rfl⟩, fun _ _ _ _ _ g hg => by cases hg⟩
end
section
variable {lo n gm : Nat} {ms : Nat → Nat} {k : Nat} {c c' : Nat → Nat} {ls ls' : Nat → List Int} {W W1 : World}
/-- One set more, which a call made. -/
theorem BhAt.add (h : BhAt lo n gm ms k c ls W) (hk : k < n) (b1 : Below W.heap.size W W1) {b m : Nat} {l : List Int} (hs : SetIs InK W1 b m l) (hb : W.heap.size ≤ b) (hlo : lo ≤ W.heap.size) (e1 : ∀ i, i < k → c' i = c i ∧ ls' i = ls i) (e2 : c' k = m ∧ ls' k = l) :
    BhAt lo n gm (fun i => if i = k then b else ms i) (k + 1) c' ls' (W1.setCell ⟨gm, k, none⟩ (.map (some b))) := by
  have h1 := h.stays b1
  obtain ⟨cur, r1, r2, r3⟩ := h1.row
  have hbt : But gm W1 (W1.setCell ⟨gm, k, none⟩ (.map (some b))) := (But.refl gm _).set _ _
  have hne : ∀ {q m l}, SetIs InK W1 q m l → q ≠ gm := fun hq e => by
    obtain ⟨es, cl, h3⟩ := hq.isMap
    rw [e, r1] at h3; cases h3
  refine ⟨⟨cur.setIfInBounds k (.map (some b)), heap_setCell_same _ gm k cur _ _ r1, by simpa using r2, fun i hi => ?_⟩, fun i hi => ?_, fun i j hi hj hij => ?_⟩
  · rw [Array.getElem?_setIfInBounds]
    by_cases e : k = i
    · subst e
      rw [if_pos rfl, if_pos (by omega), if_pos rfl]
    · rw [if_neg e, if_neg (fun e2 => e e2.symm)]
      exact r3 i (by omega)
  · by_cases e : i = k
    · subst e
      simp only [if_pos]
      rw [e2.1, e2.2]
      exact ⟨hs.blk (hbt.block _ hs.lt (hne hs)), by omega⟩
    · simp only [if_neg e]
      rw [(e1 i (by omega)).1, (e1 i (by omega)).2]
      obtain ⟨s1, s2⟩ := h1.set i (by omega)
      exact ⟨s1.blk (hbt.block _ s1.lt (hne s1)), s2⟩
  · have key : ∀ a, a < k → ms a ≠ b := fun a ha => by have := (h.set a ha).1.lt; omega
    by_cases e1 : i = k
    · subst e1
      rw [if_pos rfl, if_neg (fun e2 => hij e2.symm)]
      exact fun e2 => key j (by omega) e2.symm
    · rw [if_neg e1]
      by_cases e2 : j = k
      · subst e2
        rw [if_pos rfl]
        exact key i (by omega)
      · rw [if_neg e2]
        exact h.dis i j (by omega) (by omega) hij
theorem bhAt_made (w : World) (n lo : Nat) (ms c : Nat → Nat) (ls : Nat → List Int) : BhAt lo n w.heap.size ms 0 c ls (w.alloc (.cells (madeCells #[.map none] n) 53)) :=
  ⟨⟨_, newB8 w _, size_madeCells _ _, fun _ hi => absurd hi (Nat.not_lt_zero _)⟩, fun _ hi => absurd hi (Nat.not_lt_zero _), fun _ _ hi => absurd hi (Nat.not_lt_zero _)⟩
end
end Go.Proofs.Ytfoelnblnfcaiaa
