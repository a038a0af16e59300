/- What a visit of blocks leaves: one block of memory (which were gone to) and the list that grows are written, all else stands. -/
import Derived.Test.YtooaoankloocmabOrdPA
import Derived.Test.YtooaoankloocmabOwnA
namespace Go.Proofs.Ytooaoankloocmab
open Go.ChangeShapes Go.WideShapes Go.ChangeAt Go.RowKit
structure Frm (gs : Nat) (row : Option Nat) (w w' : World) : Prop where
  os : w'.os = w.os
  tape : w'.tape = w.tape
  output : w'.output = w.output
  size : w.heap.size ≤ w'.heap.size
  block : ∀ k, k < w.heap.size → k ≠ gs → row ≠ some k → w'.heap[k]? = w.heap[k]?
theorem Frm.of_below {gs : Nat} {row : Option Nat} {w w' : World} (h : Below w.heap.size w w') : Frm gs row w w' := ⟨h.os, h.tape, h.output, h.size, fun k hk _ _ => h.block k hk⟩
theorem Frm.trans {gs : Nat} {row row' : Option Nat} {w w1 w2 : World} (h : Frm gs row w w1) (k : Frm gs row' w1 w2) (hl : row' = row ∨ ∀ b, row' = some b → w.heap.size ≤ b) : Frm gs row w w2 :=
  ⟨k.os.trans h.os, k.tape.trans h.tape, k.output.trans h.output, Nat.le_trans h.size k.size, fun i hi h1 h2 => (k.block i (Nat.lt_of_lt_of_le hi h.size) h1 (by
    rcases hl with hl | hl
    · rw [hl]; exact h2
    · intro e; have := hl i e; omega)).trans (h.block i hi h1 h2)⟩
theorem Frm.set (gs : Nat) (row : Option Nat) (w : World) (i : Nat) (v : Value) : Frm gs row w (w.setCell ⟨gs, i, none⟩ v) :=
  ⟨rfl, rfl, rfl, by simp [World.setCell], fun k _ hne _ => Below.heap_setCell w ⟨gs, i, none⟩ v k hne⟩
theorem Frm.grown {gs : Nat} {row : Option Nat} {w w' : World} (h : w.grownBy w' row) : Frm gs row w w' :=
  ⟨h.os, h.tape, h.output, h.size, fun k hk _ hr => h.block k hk (fun e => hr e.symm)⟩
theorem Frm.below {gs B : Nat} {row : Option Nat} {w w' : World} (h : Frm gs row w w') (hg : B ≤ gs) (hr : ∀ b, row = some b → B ≤ b) (hB : B ≤ w.heap.size) : Below B w w' :=
  ⟨h.os, h.tape, h.output, h.size, fun k hk => h.block k (by omega) (by omega) (fun e => by have := hr k e; omega)⟩
theorem OwnI.frm {w w' : World} {A gs : Nat} {row : Option Nat} {v : Value} {l : List Int} (h : OwnI w A v l) (f : Frm gs row w w') (h1 : v.ownBlock ≠ some gs) (h2 : ∀ b, v.ownBlock = some b → row ≠ some b) : OwnI w' A v l := by
  obtain ⟨g0, cap, hv, hl, h0 | ⟨g', cap', cur, hv', hB', hh, hr⟩⟩ := h
  · exact ⟨g0, cap, hv, hl, Or.inl h0⟩
  · have hb : v.ownBlock = some g' := by rw [hv']; rfl
    exact ⟨g0, cap, hv, hl, Or.inr ⟨g', cap', cur, hv', hB', (f.block g' (Array.getElem?_eq_some_iff.1 hh).1 (fun e => h1 (by rw [hb, e])) (h2 g' hb)).trans hh, hr⟩⟩
/-- Block gs tells which of n blocks were gone to. -/
def SeenIs (w : World) (gs n : Nat) (out : List Int) : Prop := ∃ cur : Array Value, w.heap[gs]? = some (.cells cur 4 (0, 0)) ∧ cur.size = n ∧ ∀ i, i < n → cur[i]? = some (.bool (decide ((i : Int) ∈ out)))
theorem SeenIs.lt {w : World} {gs n : Nat} {out : List Int} (h : SeenIs w gs n out) : gs < w.heap.size := by
  obtain ⟨cur, hh, _⟩ := h; exact (Array.getElem?_eq_some_iff.1 hh).1
theorem SeenIs.keep {w w' : World} {gs n : Nat} {out : List Int} (h : SeenIs w gs n out) (hk : w'.heap[gs]? = w.heap[gs]?) : SeenIs w' gs n out := by
  obtain ⟨cur, hh, hr⟩ := h; exact ⟨cur, hk.trans hh, hr⟩
theorem SeenIs.at {w : World} {gs n : Nat} {out : List Int} (h : SeenIs w gs n out) {i : Nat} (hi : i < n) : w.cell? ⟨gs, i, none⟩ = some (.bool (decide ((i : Int) ∈ out))) ∧ w.frozen? ⟨gs, i, none⟩ = false := by
  obtain ⟨cur, hh, _, hc⟩ := h
  exact ⟨by simp [World.cell?, hh, hc i hi], by simp [World.frozen?, hh]⟩
theorem SeenIs.set {w : World} {gs n : Nat} {out : List Int} (h : SeenIs w gs n out) {i : Nat} (hi : i < n) : SeenIs (w.setCell ⟨gs, i, none⟩ (.bool true)) gs n (out ++ [(i : Int)]) := by
  obtain ⟨cur, hh, hs, hc⟩ := h
  refine ⟨_, heap_setCell_same w gs i cur _ _ hh, by simpa using hs, fun j hj => ?_⟩
  rw [Array.getElem?_setIfInBounds]
  by_cases he : i = j
  · subst he; rw [if_pos rfl, if_pos (by omega)]; simp
  · rw [if_neg he, hc j hj]
    have : ((j : Int) ∈ out ++ [(i : Int)]) ↔ ((j : Int) ∈ out) := by
      rw [List.mem_append, List.mem_singleton]
      exact ⟨fun h => h.resolve_right (by omega), Or.inl⟩
    simp [this]
/-- From world w, list out in row's block, the blocks l visited: the world w', the list out' in q. -/
structure VisL (xs : List Blk) (w0 w : World) (gs : Nat) (row : Option Nat) (l out : List Int) (q : Value) (w' : World) (out' : List Int) : Prop where
  own : OwnI w' w0.heap.size q out'
  seen : SeenIs w' gs xs.length out'
  ne : q.ownBlock ≠ some gs
  frm : Frm gs row w w'
  loc : q.ownBlock = row ∨ ∀ b, q.ownBlock = some b → w.heap.size ≤ b
  run : ∀ W r, Run xs W out' r → Run xs (l ++ W) out r
  few : Few xs.length out'
  less : free xs.length out' ≤ free xs.length out
theorem VisL.trans {xs : List Blk} {w0 w w1 w2 : World} {gs : Nat} {row : Option Nat} {l l2 out out1 out2 : List Int} {q q2 : Value} (h : VisL xs w0 w gs row l out q w1 out1) (k : VisL xs w0 w1 gs q.ownBlock l2 out1 q2 w2 out2) : VisL xs w0 w gs row (l ++ l2) out q2 w2 out2 where
  own := k.own
  seen := k.seen
  ne := k.ne
  frm := h.frm.trans k.frm h.loc
  loc := by
    rcases k.loc with e | e
    · rw [e]; exact h.loc
    · exact Or.inr fun b hb => Nat.le_trans h.frm.size (e b hb)
  run := fun W r hr => by rw [List.append_assoc]; exact h.run _ _ (k.run _ _ hr)
  few := k.few
  less := Nat.le_trans k.less h.less
theorem VisL.on {xs : List Blk} {w0 w w1 w2 : World} {gs : Nat} {row : Option Nat} {l out out' : List Int} {q : Value} (h : VisL xs w0 w gs row l out q w1 out') (bel : Below w1.heap.size w1 w2) : VisL xs w0 w gs row l out q w2 out' :=
  ⟨h.own.stays bel, h.seen.keep (bel.block gs h.seen.lt), h.ne, h.frm.trans (Frm.of_below (row := row) bel) (Or.inl rfl), h.loc, h.run, h.few, h.less⟩
theorem VisL.close {xs : List Blk} {w0 w w5 wr : World} {gs g4 : Nat} {row : Option Nat} {L out outk : List Int} {i : Int} {q : Value} (h : VisL xs w0 w5 gs (some g4) L (out ++ [i]) q wr outk) (hF : Frm gs row w w5) (hL : row = some g4 ∨ w.heap.size ≤ g4) (hin : ¬ i ∈ out) (hN : nxt xs i = L) (hR : InR xs.length i) : VisL xs w0 w gs row [i] out q wr outk where
  own := h.own
  seen := h.seen
  ne := h.ne
  frm := hF.trans h.frm (hL.imp (fun e => e.symm) (fun e b hb => by simp at hb; omega))
  loc := by
    rcases h.loc with e | e
    · rw [e]; exact hL.imp (fun e => e.symm) (fun e b hb => by simp at hb; omega)
    · exact Or.inr fun b hb => Nat.le_trans hF.size (e b hb)
  run := fun W r hr => Run.go hin (by rw [hN]; exact h.run W r hr)
  few := h.few
  less := by have := h.less; have := free_step hin hR; omega
end Go.Proofs.Ytooaoankloocmab
