/- What holds between two rounds of impl.VarsOf, impl.Sets and impl.Touches. -/
import Derived.Test.YtdkdimklacblaahVarsP
import Derived.Test.YtdkdimklacblaahAscI
namespace Go.Proofs.Ytdkdimklacblaah
open Go.ChangeShapes Go.WideShapes Go.ChangeAt Go.RowKit
/-- The list q that grows, since world w3: of the blocks that were there then at most the list's first one is another one. -/
structure VI (w w3 wr : World) (q : Value) (l : List Int) : Prop where
  own : OwnI wr (w.heap.size + 1) q l
  but : But (w.heap.size + 1) w3 wr
  loc : q.ownBlock = some (w.heap.size + 1) ∨ ∀ b, q.ownBlock = some b → w3.heap.size ≤ b
theorem VI.on {w w3 wr w' : World} {q : Value} {l : List Int} (h : VI w w3 wr q l) (bel : Below wr.heap.size wr w') : VI w w3 w' q l := ⟨h.own.stays bel, h.but.on bel, h.loc⟩
theorem VI.app {w w3 wr w' : World} {q q' : Value} {l l' : List Int} (h : VI w w3 wr q l) (ho : OwnI w' (w.heap.size + 1) q' l') (hg : wr.grownBy w' q.ownBlock) (hl : q'.ownBlock = q.ownBlock ∨ q'.ownBlock = some wr.heap.size) : VI w w3 w' q' l' := by
  refine ⟨ho, ⟨hg.os.trans h.but.os, hg.tape.trans h.but.tape, hg.output.trans h.but.output, Nat.le_trans h.but.size hg.size, fun k hk hne => ?_⟩, ?_⟩
  · refine (hg.block k (Nat.lt_of_lt_of_le hk h.but.size) (fun e => ?_)).trans (h.but.block k hk hne)
    rcases h.loc with e' | e'
    · rw [e'] at e; simp at e; exact hne e
    · have := e' k e.symm; omega
  · rcases hl with e | e
    · rw [e]; exact h.loc
    · right; intro b hb
      rw [e] at hb
      have : wr.heap.size = b := by simpa using hb
      rw [← this]; exact h.but.size
/-- A part's cells, where its block is none that the list grows in. -/
theorem lab_on {w3 wr : World} {p : Pt} {L : Lab} {b : Nat} (h : LabAt w3 p L) (hb : But b w3 wr) (hne : p.block ≠ b) (hlt : p.block < w3.heap.size) : LabAt wr p L := by
  have hc : ∀ o, wr.cell? ⟨p.block, o, none⟩ = w3.cell? ⟨p.block, o, none⟩ := fun o => World.cell?_of_block (w := w3) (a := ⟨p.block, o, none⟩) (hb.block p.block hlt hne)
  cases p with
  | ex b' o =>
    cases L with
    | ex k n bs t m =>
      obtain ⟨h0, h1, h2, h3, ht, a, c, h4⟩ := h
      exact ⟨(hc _).trans h0, (hc _).trans h1, (hc _).trans h2, (hc _).trans h3, ht, a, c, (hc _).trans h4⟩
    | st k n bs e x y => exact h.elim
  | st b' o =>
    cases L with
    | ex k n bs t m => exact h.elim
    | st k n bs e x y =>
      obtain ⟨h0, h1, h2, ⟨a, c, h3⟩, ⟨a', c', h4⟩, a2, c2, h5⟩ := h
      exact ⟨(hc _).trans h0, (hc _).trans h1, (hc _).trans h2, ⟨a, c, (hc _).trans h3⟩, ⟨a', c', (hc _).trans h4⟩, a2, c2, (hc _).trans h5⟩
/-- An empty block holds no part. -/
theorem lab_ne {w : World} {p : Pt} {L : Lab} {b : Nat} {T : TypeId} (h : LabAt w p L) (hb : w.heap[b]? = some (.cells #[] T (0, 0))) : p.block ≠ b := by
  intro e
  have hc : ∀ o, w.cell? ⟨p.block, o, none⟩ = none := fun o => by rw [e, (cells_of hb).1]; simp
  cases p with
  | ex b' o =>
    cases L with
    | ex k n bs t m => have := h.1; rw [show b' = (Pt.ex b' o).block from rfl, hc] at this; cases this
    | st => exact h.elim
  | st b' o =>
    cases L with
    | ex => exact h.elim
    | st k n bs e x y => have := h.1; rw [show b' = (Pt.st b' o).block from rfl, hc] at this; cases this
theorem lab_lt {w : World} {p : Pt} {L : Lab} (h : LabAt w p L) : p.block < w.heap.size := by
  cases p with
  | ex b' o =>
    cases L with
    | ex k n bs t m => exact World.block_lt_of_cell? w _ h.1
    | st => exact h.elim
  | st b' o =>
    cases L with
    | ex => exact h.elim
    | st k n bs e x y => exact World.block_lt_of_cell? w _ h.1
/-- The cells of part i of a list of parts. -/
theorem pts_cells {w : World} {B g cap n : Nat} {l : List Pt} (h : OwnPts w B (.slice (some ⟨g, 0, none⟩) n cap) l) (i : Nat) (hi : i < l.length) : w.cell? ⟨g, i * 2, none⟩ = some l[i].c0 ∧ w.cell? ⟨g, i * 2 + 1, none⟩ = some l[i].c1 ∧ B ≤ g ∧ g < w.heap.size := by
  obtain ⟨g', cap', hv, hl, h0 | ⟨g2, cap2, cur, hv2, hB, hh, hc, hm, hs, ht⟩⟩ := h
  · rw [hv] at h0; cases h0.1
  · cases hv
    cases hv2
    have hp := ptsCells_at l i hi
    refine ⟨?_, ?_, hB, (Array.getElem?_eq_some_iff.1 hh).1⟩
    · rw [(cells_of hh).1, ← hp.1, ← ht, List.getElem?_take_of_lt (by omega)]; simp
    · rw [(cells_of hh).1, ← hp.2, ← ht, List.getElem?_take_of_lt (by omega)]; simp
end Go.Proofs.Ytdkdimklacblaah
