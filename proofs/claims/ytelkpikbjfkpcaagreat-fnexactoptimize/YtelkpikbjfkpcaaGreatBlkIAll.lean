/- What a visit of blocks leaves: one block of memory (which were gone to) and the list that grows are written, all else stands. -/
import Derived.Test.YtelkpikbjfkpcaaGreatOrdPA
import Derived.Test.YtelkpikbjfkpcaaGreatOwnA
import Derived.Test.YtelkpikbjfkpcaaGreatCpyB
import Derived.TacticsIn
import Derived.Test.YtelkpikbjfkpcaaGreatNextIS
import Derived.Deep.CutRange
import Derived.Test.YtelkpikbjfkpcaaGreatShelf
namespace Go.Proofs.YtelkpikbjfkpcaaGreat
open Go.ChangeShapes Go.WideShapes Go.ChangeAt Go.RowKit
structure Frm (gs : Nat) (row : Option Nat) (w w' : World) : Prop where
  os : w'.os = w.os
  tape : w'.tape = w.tape
  output : w'.output = w.output
  size : w.heap.size ≤ w'.heap.size
  block : ∀ k, k < w.heap.size → k ≠ gs → row ≠ some k → w'.heap[k]? = w.heap[k]?
theorem Frm.of_below {gs : Nat} {row : Option Nat} {w w' : World} (h : Below w.heap.size w w') : Frm gs row w w' := ⟨h.os, h.tape, h.output, h.size, fun k hk _ _ => h.block k hk⟩
theorem Frm.trans {gs : Nat} {row row' : Option Nat} {w w1 w2 : World} (h : Frm gs row w w1) (k : Frm gs row' w1 w2) (hl : row' = row ∨ ∀ b, row' = some b → w.heap.size ≤ b) : Frm gs row w w2 :=
  ⟨k.os.trans h.os, k.tape.trans h.tape, k.output.trans h.output, Nat.le_trans h.size k.size, fun i hi h1 h2 => (k.block i (Nat.lt_of_lt_of_le hi h.size) h1 (by
    rcases hl with hl | hl
    · rw [hl]; exact h2
    · intro e; have := hl i e; omega)).trans (h.block i hi h1 h2)⟩
theorem Frm.set (gs : Nat) (row : Option Nat) (w : World) (i : Nat) (v : Value) : Frm gs row w (w.setCell ⟨gs, i, none⟩ v) :=
  ⟨rfl, rfl, rfl, by simp [World.setCell], fun k _ hne _ => Below.heap_setCell w ⟨gs, i, none⟩ v k hne⟩
theorem Frm.grown {gs : Nat} {row : Option Nat} {w w' : World} (h : w.grownBy w' row) : Frm gs row w w' :=
  ⟨h.os, h.tape, h.output, h.size, fun k hk _ hr => h.block k hk (fun e => hr e.symm)⟩
theorem Frm.below {gs B : Nat} {row : Option Nat} {w w' : World} (h : Frm gs row w w') (hg : B ≤ gs) (hr : ∀ b, row = some b → B ≤ b) (hB : B ≤ w.heap.size) : Below B w w' :=
  ⟨h.os, h.tape, h.output, h.size, fun k hk => h.block k (by omega) (by omega) (fun e => by have := hr k e; omega)⟩
theorem OwnI.frm {w w' : World} {A gs : Nat} {row : Option Nat} {v : Value} {l : List Int} (h : OwnI w A v l) (f : Frm gs row w w') (h1 : v.ownBlock ≠ some gs) (h2 : ∀ b, v.ownBlock = some b → row ≠ some b) : OwnI w' A v l := by
  obtain ⟨g0, cap, hv, hl, h0 | ⟨g', cap', cur, hv', hB', hh, hr⟩⟩ := h
  · exact ⟨g0, cap, hv, hl, Or.inl h0⟩
  · have hb : v.ownBlock = some g' := by rw [hv']; rfl
    exact ⟨g0, cap, hv, hl, Or.inr ⟨g', cap', cur, hv', hB', (f.block g' (Array.getElem?_eq_some_iff.1 hh).1 (fun e => h1 (by rw [hb, e])) (h2 g' hb)).trans hh, hr⟩⟩
/-- Block gs tells which of n blocks were gone to. -/
def SeenIs (w : World) (gs n : Nat) (out : List Int) : Prop := ∃ cur : Array Value, w.heap[gs]? = some (.cells cur 4 (0, 0)) ∧ cur.size = n ∧ ∀ i, i < n → cur[i]? = some (.bool (decide ((i : Int) ∈ out)))
theorem SeenIs.lt {w : World} {gs n : Nat} {out : List Int} (h : SeenIs w gs n out) : gs < w.heap.size := by
  obtain ⟨cur, hh, _⟩ := h; exact (Array.getElem?_eq_some_iff.1 hh).1
theorem SeenIs.keep {w w' : World} {gs n : Nat} {out : List Int} (h : SeenIs w gs n out) (hk : w'.heap[gs]? = w.heap[gs]?) : SeenIs w' gs n out := by
  obtain ⟨cur, hh, hr⟩ := h; exact ⟨cur, hk.trans hh, hr⟩
theorem SeenIs.at {w : World} {gs n : Nat} {out : List Int} (h : SeenIs w gs n out) {i : Nat} (hi : i < n) : w.cell? ⟨gs, i, none⟩ = some (.bool (decide ((i : Int) ∈ out))) ∧ w.frozen? ⟨gs, i, none⟩ = false := by
  obtain ⟨cur, hh, _, hc⟩ := h
  exact ⟨by simp [World.cell?, hh, hc i hi], by simp [World.frozen?, hh]⟩
theorem SeenIs.set {w : World} {gs n : Nat} {out : List Int} (h : SeenIs w gs n out) {i : Nat} (hi : i < n) : SeenIs (w.setCell ⟨gs, i, none⟩ (.bool true)) gs n (out ++ [(i : Int)]) := by
  obtain ⟨cur, hh, hs, hc⟩ := h
  refine ⟨_, heap_setCell_same w gs i cur _ _ hh, by simpa using hs, fun j hj => ?_⟩
  rw [Array.getElem?_setIfInBounds]
  by_cases he : i = j
  · subst he; rw [if_pos rfl, if_pos (by omega)]; simp
  · rw [if_neg he, hc j hj]
    have : ((j : Int) ∈ out ++ [(i : Int)]) ↔ ((j : Int) ∈ out) := by
      rw [List.mem_append, List.mem_singleton]
      exact ⟨fun h => h.resolve_right (by omega), Or.inl⟩
    simp [this]
/-- From world w, list out in row's block, the blocks l visited: the world w', the list out' in q. -/
structure VisL (xs : List Blk) (w0 w : World) (gs : Nat) (row : Option Nat) (l out : List Int) (q : Value) (w' : World) (out' : List Int) : Prop where
  own : OwnI w' w0.heap.size q out'
  seen : SeenIs w' gs xs.length out'
  ne : q.ownBlock ≠ some gs
  frm : Frm gs row w w'
  loc : q.ownBlock = row ∨ ∀ b, q.ownBlock = some b → w.heap.size ≤ b
  run : ∀ W r, Run xs W out' r → Run xs (l ++ W) out r
  few : Few xs.length out'
  less : free xs.length out' ≤ free xs.length out
theorem VisL.trans {xs : List Blk} {w0 w w1 w2 : World} {gs : Nat} {row : Option Nat} {l l2 out out1 out2 : List Int} {q q2 : Value} (h : VisL xs w0 w gs row l out q w1 out1) (k : VisL xs w0 w1 gs q.ownBlock l2 out1 q2 w2 out2) : VisL xs w0 w gs row (l ++ l2) out q2 w2 out2 where
  own := k.own
  seen := k.seen
  ne := k.ne
  frm := h.frm.trans k.frm h.loc
  loc := by
    rcases k.loc with e | e
    · rw [e]; exact h.loc
    · exact Or.inr fun b hb => Nat.le_trans h.frm.size (e b hb)
  run := fun W r hr => by rw [List.append_assoc]; exact h.run _ _ (k.run _ _ hr)
  few := k.few
  less := Nat.le_trans k.less h.less
theorem VisL.on {xs : List Blk} {w0 w w1 w2 : World} {gs : Nat} {row : Option Nat} {l out out' : List Int} {q : Value} (h : VisL xs w0 w gs row l out q w1 out') (bel : Below w1.heap.size w1 w2) : VisL xs w0 w gs row l out q w2 out' :=
  ⟨h.own.stays bel, h.seen.keep (bel.block gs h.seen.lt), h.ne, h.frm.trans (Frm.of_below (row := row) bel) (Or.inl rfl), h.loc, h.run, h.few, h.less⟩
theorem VisL.close {xs : List Blk} {w0 w w5 wr : World} {gs g4 : Nat} {row : Option Nat} {L out outk : List Int} {i : Int} {q : Value} (h : VisL xs w0 w5 gs (some g4) L (out ++ [i]) q wr outk) (hF : Frm gs row w w5) (hL : row = some g4 ∨ w.heap.size ≤ g4) (hin : ¬ i ∈ out) (hN : nxt xs i = L) (hR : InR xs.length i) : VisL xs w0 w gs row [i] out q wr outk where
  own := h.own
  seen := h.seen
  ne := h.ne
  frm := hF.trans h.frm (hL.imp (fun e => e.symm) (fun e b hb => by simp at hb; omega))
  loc := by
    rcases h.loc with e | e
    · rw [e]; exact hL.imp (fun e => e.symm) (fun e b hb => by simp at hb; omega)
    · exact Or.inr fun b hb => Nat.le_trans hF.size (e b hb)
  run := fun W r hr => Run.go hin (by rw [hN]; exact h.run W r hr)
  few := h.few
  less := by have := h.less; have := free_step hin hR; omega
end Go.Proofs.YtelkpikbjfkpcaaGreat

/- What holds between two rounds of impl.Order, and how a round keeps it. -/
namespace Go.Proofs.YtelkpikbjfkpcaaGreat
open Go.ChangeShapes Go.WideShapes Go.ChangeAt Go.RowKit
theorem OwnI.init {w : World} {A g n cap : Nat} {l : List Int} {a : Int} (h : OwnI w A (.slice (some ⟨g, 0, none⟩) n cap) (l ++ [a])) : OwnI w A (.slice (some ⟨g, 0, none⟩) l.length cap) l := by
  obtain ⟨g', cap', cur, hv, hB, hh, hc, hm, hs, hx⟩ := h.parts
  cases hv
  rw [List.length_append] at hc
  refine OwnI.of_parts hB hh (by omega) hm hs (fun j hj => ?_)
  have := hx j (by rw [List.length_append]; omega)
  rw [List.getElem_append_left hj] at this
  exact this
structure OInv (xs : List Blk) (w : World) (G : Array Value) (gm : Nat) (R : List Int) (wr : World) (vO vW : Value) (out stk : List Int) : Prop where
  o : OwnI wr (w.heap.size + 1) vO out
  s : OwnI wr (w.heap.size + 1) vW stk
  m : SeenIs wr gm xs.length out
  om : vO.ownBlock ≠ some gm
  sm : vW.ownBlock ≠ some gm
  os : vO.ownBlock ≠ vW.ownBlock
  gm0 : w.heap.size + 1 ≤ gm
  bel : Below w.heap.size w wr
  box : wr.heap[w.heap.size]? = some (.cells G 29 (0, 0))
  run : Run xs stk.reverse out R
  inr : ∀ y ∈ stk, InR xs.length y
  few : Few xs.length out
  sz : free xs.length out * 3 + stk.length ≤ xs.length * 3 + 1
theorem OInv.pop {xs : List Blk} {w wr : World} {G : Array Value} {gm g n cap : Nat} {R : List Int} {vO : Value} {out stk : List Int} {a : Int} (h : OInv xs w G gm R wr vO (.slice (some ⟨g, 0, none⟩) n cap) out (stk ++ [a])) (ha : a ∈ out) : OInv xs w G gm R wr vO (.slice (some ⟨g, 0, none⟩) stk.length cap) out stk :=
  ⟨h.o, h.s.init, h.m, h.om, h.sm, h.os, h.gm0, h.bel, h.box, by have := h.run; rw [List.reverse_append] at this; exact this.skip_inv ha, fun y hy => h.inr y (List.mem_append_left _ hy), h.few, by have := h.sz; rw [List.length_append] at this; omega⟩
/-- A block that was not gone to: W2 behind the mark and the literal, w3 behind the append to the order, w4 behind Next, w5 behind Reverse, w6 behind the append to the stack. -/
theorem OInv.go {xs : List Blk} (hall : AllIn xs) {w wr w3 w4 w5 w6 : World} {o2 : Obj} {G : Array Value} {gm g n cap i gN nN cN : Nat} {R : List Int} {vO v3 v6 : Value} {out stk : List Int}
    (h : OInv xs w G gm R wr vO (.slice (some ⟨g, 0, none⟩) n cap) out (stk ++ [(i : Int)])) (ha : ¬ (i : Int) ∈ out) (hi : i < xs.length)
    (h3 : OwnI w3 (w.heap.size + 1) v3 (out ++ [(i : Int)])) (r3 : ((wr.setCell ⟨gm, i, none⟩ (.bool true)).alloc o2).grownBy w3 vO.ownBlock) (l3 : v3.ownBlock = vO.ownBlock ∨ v3.ownBlock = some ((wr.setCell ⟨gm, i, none⟩ (.bool true)).alloc o2).heap.size)
    (b4 : Below w3.heap.size w3 w4) (gN3 : w3.heap.size ≤ gN) (gN4 : gN < w4.heap.size) (b5 : But gN w4 w5)
    (h6 : OwnI w6 (w.heap.size + 1) v6 (stk ++ (nxt xs i).reverse)) (r6 : w5.grownBy w6 (Value.slice (some ⟨g, 0, none⟩) nN cN).ownBlock) (l6 : v6.ownBlock = (Value.slice (some ⟨g, 0, none⟩) nN cN).ownBlock ∨ v6.ownBlock = some w5.heap.size) : OInv xs w G gm R w6 v3 v6 (out ++ [(i : Int)]) (stk ++ (nxt xs i).reverse) := by
  have hr : InR xs.length (i : Int) := ⟨by omega, by omega⟩
  have hgm := h.m.lt
  have hz2 : ((wr.setCell ⟨gm, i, none⟩ (.bool true)).alloc o2).heap.size = wr.heap.size + 1 := by simp
  have hg : (Value.slice (some ⟨g, 0, none⟩) nN cN).ownBlock = some g := rfl
  have hgw : w.heap.size + 1 ≤ g ∧ g < wr.heap.size := h.s.low g rfl
  have hsm : g ≠ gm := fun e => h.sm (by rw [← e]; rfl)
  obtain ⟨bO, hbO, hbO1, hbO2⟩ : ∃ b, vO.ownBlock = some b ∧ w.heap.size + 1 ≤ b ∧ b < wr.heap.size := by
    obtain ⟨g', c', hv, _⟩ := id h.o
    have hb : vO.ownBlock = some g' := by rw [hv]; rfl
    exact ⟨g', hb, h.o.low g' hb⟩
  have hbOm : bO ≠ gm := fun e => h.om (by rw [hbO, e])
  have hbOg : bO ≠ g := fun e => h.os (by rw [hbO, e]; rfl)
  rw [hbO] at r3 l3
  rw [hz2] at l3
  rw [hg] at r6 l6
  have z3 := r3.size
  rw [hz2] at z3
  have z4 := b4.size
  have z5 := b5.size
  have z6 := r6.size
  obtain ⟨b3, hb3, hb31⟩ : ∃ b, v3.ownBlock = some b ∧ (b = bO ∨ b = wr.heap.size + 1) := by
    rcases l3 with e | e
    · exact ⟨_, e, Or.inl rfl⟩
    · exact ⟨_, e, Or.inr rfl⟩
  obtain ⟨b6, hb6, hb61⟩ : ∃ b, v6.ownBlock = some b ∧ (b = g ∨ b = w5.heap.size) := by
    rcases l6 with e | e
    · exact ⟨_, e, Or.inl rfl⟩
    · exact ⟨_, e, Or.inr rfl⟩
  have hb3lt := (h3.low b3 hb3).2
  -- a block that none of these writes
  have keep : ∀ k, k < wr.heap.size → k ≠ gm → k ≠ bO → k ≠ g → w6.heap[k]? = wr.heap[k]? := fun k hk k1 k2 k3 => by
    rw [r6.block k (by omega) (by simp; omega), b5.block k (by omega) (by omega), b4.block k (by omega), r3.block k (by omega) (by simp; omega), Below.heap_alloc _ _ _ (by rw [size_set]; exact hk), Below.heap_setCell wr ⟨gm, i, none⟩ _ k k1]
  have seen2 : SeenIs ((wr.setCell ⟨gm, i, none⟩ (.bool true)).alloc o2) gm xs.length (out ++ [(i : Int)]) := (h.m.set hi).keep (Below.heap_alloc _ _ _ (by rw [size_set]; exact hgm))
  have seen6 : SeenIs w6 gm xs.length (out ++ [(i : Int)]) := seen2.keep (by
    rw [r6.block gm (by omega) (by simp; omega), b5.block gm (by omega) (by omega), b4.block gm (by omega), r3.block gm (by omega) (by simp; omega)])
  have own6 : OwnI w6 (w.heap.size + 1) v3 (out ++ [(i : Int)]) :=
    ((h3.stays b4).butG b5 (by rw [hb3]; simp; omega)).kept r6 (by rw [hb3]; simp; omega)
  refine ⟨own6, h6, seen6, by rw [hb3]; simp; omega, by rw [hb6]; simp; omega, by rw [hb3, hb6]; simp; omega, h.gm0, ?_, ?_, ?_, ?_, h.few.step ha hr, by have := h.sz; have := free_step ha hr; have := nxt_len xs (i : Int); simp only [List.length_append, List.length_reverse, List.length_singleton] at *; omega⟩
  · refine h.bel.trans ⟨?_, ?_, ?_, ?_, fun k hk => ?_⟩
    · rw [r6.os, b5.os, b4.os, r3.os]; rfl
    · rw [r6.tape, b5.tape, b4.tape, r3.tape]; rfl
    · rw [r6.output, b5.output, b4.output, r3.output]; rfl
    · omega
    · exact keep k (by have := h.bel.size; omega) (by have := h.gm0; omega) (by omega) (by omega)
  · exact (keep w.heap.size (by omega) (by have := h.gm0; omega) (by omega) (by omega)).trans h.box
  · have := h.run
    rw [List.reverse_append] at this
    have := this.go_inv ha
    rw [List.reverse_append, List.reverse_reverse]
    exact this
  · intro y hy
    rcases List.mem_append.1 hy with hy | hy
    · exact h.inr y (List.mem_append_left _ hy)
    · exact nxt_in hall _ y (List.mem_reverse.1 hy)
end Go.Proofs.YtelkpikbjfkpcaaGreat

/- The contract of slices.Reverse over lists of at most two numbers. -/
namespace Go.Proofs.YtelkpikbjfkpcaaGreat
open Go.ChangeShapes Go.WideShapes Go.ChangeAt Go.RowKit
theorem own_swap {w : World} {B g cap : Nat} {x y : Int} (h : OwnI w B (.slice (some ⟨g, 0, none⟩) 2 cap) [x, y]) : OwnI ((w.setCell ⟨g, 0, none⟩ (.int .i64 y)).setCell ⟨g, 1, none⟩ (.int .i64 x)) B (.slice (some ⟨g, 0, none⟩) 2 cap) [y, x] := by
  obtain ⟨g', cap', cur, hv, hB, hh, hc, hm, hs, hx⟩ := h.parts
  cases hv
  have h2 := heap_setCell_same _ g 1 _ _ (.int .i64 x) (heap_setCell_same w g 0 cur _ (.int .i64 y) hh)
  have hc' : 2 ≤ cap := hc
  refine OwnI.of_parts (l := [y, x]) hB h2 hc hm (by simpa using hs) (fun j hj => ?_)
  rw [Array.getElem?_setIfInBounds, Array.getElem?_setIfInBounds]
  match j, hj with
  | 0, _ => rw [if_neg (by omega), if_pos rfl, if_pos (by omega)]; rfl
  | 1, _ => rw [if_pos rfl, if_pos (by rw [Array.size_setIfInBounds]; omega)]; rfl
set_option maxHeartbeats 2000000 in
theorem reverse_any (L : List Int) (hL : L.length ≤ 2) (w : World) (B : Nat) (v : Value) (h : OwnI w B v L) :
    Calls Tryz.prog 139 #[v] w fun e w' => (∃ r, e = .returned r) ∧ OwnI w' B v L.reverse ∧ ∃ g, v.ownBlock = some g ∧ But g w w' := by
  obtain ⟨g, cap, rfl, _⟩ := id h
  match L, hL, h with
  | [], _, h =>
    have H := hideP h
    clear h
    go_enter Tryz.func139, Tryz.ntmps139
    go_wp2
    go_loopw [2, 3] (fun i j wr => i = .int .i64 0 ∧ j = .int .i64 (-1) ∧ wr = w) (fun _ _ _ => 0)
    case atStart => exact ⟨rfl, rfl, rfl⟩
    case round =>
      obtain ⟨rfl, rfl, hw⟩ := hrel
      have hw2 := hw.symm
      subst hw2
      go_wp2
      first | go_end0 | refine bodyPost_ret (results_none rfl _ _ _) rfl ?_
      exact ⟨⟨_, rfl⟩, H.out, g, rfl, But.refl _ _⟩
  | [x], _, h =>
    have H := hideP h
    clear h
    go_enter Tryz.func139, Tryz.ntmps139
    go_wp2
    go_loopw [2, 3] (fun i j wr => i = .int .i64 0 ∧ j = .int .i64 0 ∧ wr = w) (fun _ _ _ => 0)
    case atStart => exact ⟨rfl, rfl, rfl⟩
    case round =>
      obtain ⟨rfl, rfl, hw⟩ := hrel
      have hw2 := hw.symm
      subst hw2
      go_wp2
      first | go_end0 | refine bodyPost_ret (results_none rfl _ _ _) rfl ?_
      exact ⟨⟨_, rfl⟩, H.out, g, rfl, But.refl _ _⟩
  | [x, y], _, h =>
    have c0 := h.at 0 (by simp)
    have c1 := h.at 1 (by simp)
    simp at c0 c1
    obtain ⟨g', cap', cur, hv, hB, hh, hc, hm, hs, hx⟩ := h.parts
    cases hv
    have f0 := (cells_of hh).2
    have H := hideP h
    clear h hh hs hx hm hc hB
    go_enter Tryz.func139, Tryz.ntmps139
    go_wp2
    go_loopw [2, 3] (fun i j wr => (i = .int .i64 0 ∧ j = .int .i64 1 ∧ wr = w) ∨ (i = .int .i64 1 ∧ j = .int .i64 0 ∧ Hid (OwnI wr B (.slice (some ⟨g, 0, none⟩) 2 cap) [y, x]) ∧ Hid (But g w wr))) (fun i _ _ => 1 - (intOf i).toNat)
    case atStart => exact Or.inl ⟨rfl, rfl, rfl⟩
    case round =>
      rcases hrel with ⟨rfl, rfl, hw⟩ | ⟨rfl, rfl, ho, hb⟩
      · have hw2 := hw.symm
        subst hw2
        clear hw
        go_wp2
        go_region
        all_goals
          go_wp2
          go_roundw
          case rel =>
            refine Or.inr ⟨by go_num, by go_num, ?_, ?_⟩
            · exact own_swap H.out
            · first | exact ((But.refl _ _).set _ _).set _ _ | exact (((But.refl _ _).set _ _).set _ _).on (Below.refl _ _).drew | exact (((But.refl _ _).set _ _).set _ _).on (Below.refl _ _).drew.drew
          case measure => simp [intOf]
      · go_wp2
        first | go_end0 | refine bodyPost_ret (results_none rfl _ _ _) rfl ?_
        exact ⟨⟨_, rfl⟩, ho.out, g, rfl, hb.out⟩
end Go.Proofs.YtelkpikbjfkpcaaGreat

/- The contract of impl.Order. -/
namespace Go.Proofs.YtelkpikbjfkpcaaGreat
open Go.ChangeShapes Go.WideShapes Go.ChangeAt Go.RowKit
theorem infoBo : (Tryz.prog.info? 4).map (fun i => (i.zero, i.size, i.bytes)) = some (some (.bool false), 1, 1) := by kernel_rfl
theorem made_bo (n : Nat) : ∀ i, i < n → (madeCells #[Value.bool false] n)[i]? = some (.bool (decide ((i : Int) ∈ ([] : List Int)))) := by
  intro i hi
  simp [madeCells, hi, Nat.mod_one]
theorem seen_mk (w : World) (n : Nat) : SeenIs (w.alloc (.cells (madeCells #[Value.bool false] n) 4)) w.heap.size n [] :=
  ⟨_, by show (w.heap.push _)[w.heap.size]? = _; exact Array.getElem?_push_size, by simp [size_madeCells], made_bo n⟩
def lenV : Value → Nat
  | .slice _ n _ => n
  | _ => 0
set_option maxHeartbeats 4000000 in
set_option maxRecDepth 100000 in
theorem impl_order (g : Gr) (w : World) (B : Nat) (v : Array Value) (h : GrIs w B v g) (GO : OkIs 51 g) :
    Calls Tryz.prog 109 #[.agg v] w fun en w' => ∃ v', en = .returned v' ∧ OwnI w' w.heap.size v' (orderP g) ∧ Below w.heap.size w w' := by
  have hG := hideP h
  have HGO := hideP GO
  clear GO
  obtain ⟨sizes, params, vars, slots, blocks⟩ := g
  obtain ⟨us, cs, ub, cb, rfl, _, _, hb⟩ := h
  simp only at *
  have hm := maxLen_lt
  have hlb := hb.1
  have HB := hideP hb
  clear hb
  obtain ⟨R, hR⟩ : ∃ R, orderP ⟨sizes, params, vars, slots, blocks⟩ = R := ⟨_, rfl⟩
  rw [hR]
  have HR := hideP hR
  clear hR
  obtain ⟨gok, hgok⟩ : ∃ r, grOk ⟨sizes, params, vars, slots, blocks⟩ = r := ⟨_, rfl⟩
  have GO1 : Hid (∀ W A v, GrIs W A v ⟨sizes, params, vars, slots, blocks⟩ → Calls Tryz.prog 51 #[.agg v] W fun en w' => en = .returned (.bool gok) ∧ Below W.heap.size W w') := fun W A v hv => hgok ▸ HGO.out W A v hv
  have HK := hideP hgok
  clear hgok HGO
  have Q1 := hideP (two (Below.refl ((w.alloc (.cells #[.slice us sizes.length cs, .int .i64 params, .int .i64 vars, .int .i64 slots, .slice ub blocks.length cb] 29)).alloc (.cells #[] 3)).heap.size _)).1
  have O1 : Hid (OwnI ((w.alloc (.cells #[.slice us sizes.length cs, .int .i64 params, .int .i64 vars, .int .i64 slots, .slice ub blocks.length cb] 29)).alloc (.cells #[] 3)) (w.heap.size + 1) (.slice (some ⟨w.heap.size + 1, 0, none⟩) 0 0) []) := by
    have := own_lit (w.alloc (.cells #[.slice us sizes.length cs, .int .i64 params, .int .i64 vars, .int .i64 slots, .slice ub blocks.length cb] 29)) [] #[] (w.heap.size + 1) 0 (by simp) rfl rfl (by simp)
    show OwnI _ _ _ _
    simpa using this
  have BW := hideP (below2 w (.cells #[.slice us sizes.length cs, .int .i64 params, .int .i64 vars, .int .i64 slots, .slice ub blocks.length cb] 29) (.cells #[] 3))
  cases gok with
  | false =>
    go_enter Tryz.func109, Tryz.ntmps109
    go_wp2_with fail
    refine (GO1.out _ B _ (GrKeeps.stays hG.out BW.out)).mono ?_
    rintro e1 w1 ⟨rfl, bel1⟩
    have E : Hid (R = []) := by rw [← HR.out]; exact orderP_none (by simp [HK.out])
    have OO := hideP ((O1.out.stays bel1).mono (Nat.le_succ _))
    have BB := hideP (below_trans BW.out bel1)
    clear bel1
    go_wp2
    go_ret
    exact ⟨_, rfl, by rw [E.out]; exact OO.out, BB.out⟩
  | true =>
    have hbl := grOk_blocks HK.out
    simp only at hbl
    have HALL := hideP (allIn_of HK.out)
    have hmk := make_n (P := Tryz.prog) Tryz.underlying53 infoBo blocks.length (by omega) (by decide)
    go_enter Tryz.func109, Tryz.ntmps109
    go_wp2_with fail
    refine (GO1.out _ B _ (GrKeeps.stays hG.out BW.out)).mono ?_
    rintro e1 w1 ⟨rfl, bel1⟩
    have BB := hideP (below_trans BW.out bel1)
    have QQ := hideP ((bel1.block w.heap.size (Array.getElem?_eq_some_iff.1 Q1.out).1).trans Q1.out)
    have OO := hideP (O1.out.stays bel1)
    have hz1 : Hid (w.heap.size + 1 < w1.heap.size) := by have := bel1.size; simp at this; show _ < _; omega
    have p4 := (cells_of QQ.out).1 4
    simp at p4
    have IV : Hid (OInv blocks w #[.slice us sizes.length cs, .int .i64 params, .int .i64 vars, .int .i64 slots, .slice ub blocks.length cb] w1.heap.size R ((w1.alloc (.cells (madeCells #[Value.bool false] blocks.length) 4)).alloc (.cells #[.int .i64 0] 3)) (.slice (some ⟨w.heap.size + 1, 0, none⟩) 0 0) (.slice (some ⟨w1.heap.size + 1, 0, none⟩) 1 1) [] [0]) := by
      have hz := hz1.out
      have a2 := below2 w1 (.cells (madeCells #[Value.bool false] blocks.length) 4) (.cells #[.int .i64 0] 3)
      have a1 := (Below.refl (w1.alloc (.cells (madeCells #[Value.bool false] blocks.length) 4)).heap.size _).alloc (Nat.le_refl _) (.cells #[.int .i64 0] 3)
      have hrun := orderP_run HK.out
      rw [HR.out] at hrun
      refine ⟨OO.out.stays a2, ?_, (seen_mk w1 blocks.length).keep (a1.block _ (by simp)), ?_, ?_, ?_, by omega, below_trans BB.out a2, (a2.block _ (by omega)).trans QQ.out, hrun, ?_, few_nil _, by have := free_le blocks.length []; simp; omega⟩
      · exact (own_lit2 w1 _ [0] #[.int .i64 0] (w1.heap.size + 1) 1 rfl rfl rfl (by simp)).mono (by omega)
      · simp [Value.ownBlock]; omega
      · simp [Value.ownBlock]
      · simp [Value.ownBlock]; omega
      · intro y hy; simp at hy; subst hy; exact ⟨by omega, by omega⟩
    clear bel1 Q1 BW GO1 O1
    go_wp2
    clear p4 hmk
    go_loopw [3, 5] (fun o q wr => ∃ (out stk : List Int), Hid (OInv blocks w #[.slice us sizes.length cs, .int .i64 params, .int .i64 vars, .int .i64 slots, .slice ub blocks.length cb] w1.heap.size R wr o q out stk)) (fun o q _ => (blocks.length - lenV o) * 3 + lenV q)
    case atStart => exact ⟨[], [0], IV.out⟩
    case round =>
      obtain ⟨out, stk, hv⟩ := hrel
      clear IV
      obtain ⟨gO, cO, rfl, _⟩ := id hv.out.o
      obtain ⟨gW, cW, rfl, _⟩ := id hv.out.s
      rcases List.eq_nil_or_concat stk with rfl | ⟨stk', a, rfl⟩
      · have E := hideP hv.out.run.nil_inv
        have OE := hideP (hv.out.o.mono (Nat.le_succ _))
        have BE := hideP hv.out.bel
        clear hv
        go_wp2
        go_ret
        exact ⟨_, rfl, by rw [← E.out]; exact OE.out, BE.out⟩
      · rw [List.concat_eq_append] at hv ⊢
        obtain ⟨i, rfl⟩ : ∃ i : Nat, a = (i : Int) := ⟨a.toNat, by have := (hv.out.inr a (by simp)).1; omega⟩
        have hi : i < blocks.length := by have := (hv.out.inr (i : Int) (by simp)).2; omega
        have hc := hv.out.s.at stk'.length (by simp)
        rw [Nat.zero_add] at hc
        simp at hc
        obtain ⟨g', cap', cur, he, _, _, hcap, hcm, _⟩ := hv.out.s.parts
        cases he
        rw [List.length_append] at hcap
        simp at hcap
        obtain ⟨k, hk⟩ : ∃ k, stk'.length = k := ⟨_, rfl⟩
        rw [hk] at hc hcap
        rw [show (stk' ++ [(i : Int)]).length = k + 1 by rw [List.length_append, hk]; rfl]
        have HKK := hideP hk
        clear hk
        have i0 : (0 : Int) ≤ (k : Int) := by omega
        have i1 : (k : Int) ≤ (cW : Int) := by omega
        have i2 : ((k + 1 : Nat) : Int) ≤ (cW : Int) := by omega
        obtain ⟨m1, f1⟩ := hv.out.m.at hi
        have hsz := hv.out.sz
        rw [List.length_append, HKK.out] at hsz
        simp at hsz
        have hk900 : k ≤ 900 := by omega
        clear hsz
        have hfew := hv.out.few
        unfold Few at hfew
        by_cases hin : (i : Int) ∈ out
        · rw [show decide ((i : Int) ∈ out) = true by simpa using hin] at m1
          have PV := hideP (hv.out.pop hin)
          rw [HKK.out] at PV
          clear hv
          go_wp2
          go_roundw
          case rel => exact ⟨out, stk', PV⟩
          case measure => simp [lenV]
        · rw [show decide ((i : Int) ∈ out) = false by simpa using hin] at m1
          go_upto_region 12 with fail
          have hgm := hv.out.m.lt
          have hbox0 := (Array.getElem?_eq_some_iff.1 hv.out.box).1
          have hlo := (hv.out.o.low gO rfl)
          have hls := (hv.out.s.low gW rfl)
          have hgm0 := hv.out.gm0
          have hOm : gO ≠ w1.heap.size := fun e => hv.out.om (by rw [e]; rfl)
          have hSm : gW ≠ w1.heap.size := fun e => hv.out.sm (by rw [e]; rfl)
          have hOS : gO ≠ gW := fun e => hv.out.os (by rw [e]; rfl)
          have bt : But w1.heap.size wr (wr.setCell ⟨w1.heap.size, i, none⟩ (.bool true)) := (But.refl _ _).set _ _
          have al2 := (Below.refl (wr.setCell ⟨w1.heap.size, i, none⟩ (.bool true)).heap.size _).alloc (Nat.le_refl _) (.cells #[.int .i64 (i : Int)] 3)
          have OC := hideP ((hv.out.o.butG bt hv.out.om).stays al2)
          have SC := hideP ((hv.out.s.init.butG bt hv.out.sm).stays al2)
          have OD := hideP (own_lit (wr.setCell ⟨w1.heap.size, i, none⟩ (.bool true)) [(i : Int)] #[.int .i64 (i : Int)] wr.heap.size 1 (by rw [size_set]) rfl rfl (by simp))
          have XC := hideP ((al2.block w.heap.size (by rw [size_set]; omega)).trans ((bt.block w.heap.size (by omega) (by omega)).trans hv.out.box))
          have hzz : ((wr.setCell ⟨w1.heap.size, i, none⟩ (.bool true)).alloc (.cells #[.int .i64 (i : Int)] 3)).heap.size = wr.heap.size + 1 := by simp
          have HZZ := hideP hzz
          have ZC : Hid (w.heap.size + 1 ≤ ((wr.setCell ⟨w1.heap.size, i, none⟩ (.bool true)).alloc (.cells #[.int .i64 (i : Int)] 3)).heap.size) := by show _ ≤ _; rw [hzz]; omega
          have BC : Hid (Below w.heap.size w ((wr.setCell ⟨w1.heap.size, i, none⟩ (.bool true)).alloc (.cells #[.int .i64 (i : Int)] 3))) := (hv.out.bel.trans (bt.below (by omega) hv.out.bel.size)).trans (al2.mono (by rw [size_set]; exact hv.out.bel.size))
          have hol : out.length ≤ 300 := by omega
          clear bt al2 m1 f1 hc hzz
          go_upto_region 13 with (at_builtin; refine list_appI _ rfl _ _ rfl (w.heap.size + 1) _ out [(i : Int)] wr.heap.size 0 1 1 rfl rfl rfl OC.out OD.out.at (by simp; omega) ZC.out ?_; intro v3 w3 o3 grow3 loc3)
          replace grow3 : World.grownBy _ w3 (Value.slice (some ⟨gO, 0, none⟩) out.length cO).ownBlock := grow3
          replace loc3 : v3.ownBlock = (Value.slice (some ⟨gO, 0, none⟩) out.length cO).ownBlock ∨ v3.ownBlock = some ((wr.setCell ⟨w1.heap.size, i, none⟩ (.bool true)).alloc (.cells #[.int .i64 (i : Int)] 3)).heap.size := loc3
          obtain ⟨g3, c3, rfl, _⟩ := id o3
          have S3 := hideP (SC.out.kept grow3 (by simp [Value.ownBlock]; omega))
          have X3 := hideP ((grow3.block w.heap.size (by rw [HZZ.out]; omega) (by simp [Value.ownBlock]; omega)).trans XC.out)
          have B3 := hideP (BC.out.grown grow3 BC.out.size (fun b' hb' => by have := OC.out.low b' hb'; omega))
          have O3 := hideP o3
          have GR3 := hideP grow3
          have LO3 := hideP loc3
          have hz3 : wr.heap.size + 1 ≤ w3.heap.size := by have := grow3.size; rw [HZZ.out] at this; exact this
          clear o3 grow3 loc3 OC SC OD XC BC ZC
          have p4 := (cells_of X3.out).1 4
          simp at p4
          obtain ⟨b, o, x0, x1, x2, x3, x4, ux, kx, rfl, _, hbb, hx, q0, q1, q2, q3, q4, hbX⟩ := Blk_get (HB.out.stays BlkKeeps B3.out) i hi
          have HX := hideP hbX
          have HE := hideP hx
          clear hbX hx
          go_wp2_with fail
          refine (impl_next _ _ B _ HX.out).mono ?_
          rintro e4 w4 ⟨v4, rfl, o4, bel4⟩
          obtain ⟨g4, c4, rfl, _⟩ := id o4
          have NX : Hid (nxt blocks (i : Int) = nextP ⟨x0, x1, x2, x3, x4⟩) := by show _ = _; rw [nxt_at hi, HE.out]
          obtain ⟨L, hL⟩ : ∃ L, nextP ⟨x0, x1, x2, x3, x4⟩ = L := ⟨_, rfl⟩
          rw [hL] at o4 NX ⊢
          have hL2 : L.length ≤ 2 := by rw [← hL]; exact nextP_len _
          have G4 := hideP (o4.low g4 rfl)
          have O4 := hideP o4
          have S4 := hideP (S3.out.stays bel4)
          have B4 := hideP bel4
          have hz4 := bel4.size
          clear o4 hL bel4 q0 q1 q2 q3 q4 p4 HX X3 S3
          go_wp2_with fail
          refine (reverse_any L hL2 _ _ _ O4.out).mono ?_
          rintro e5 w5 ⟨⟨r5, rfl⟩, o5, g5, hg5, but5⟩
          have hgg := own_blk hg5
          subst hgg
          have hz5 := but5.size
          have S5 := hideP (S4.out.butG but5 (by have := G4.out; simp [Value.ownBlock]; omega))
          have L5 := hideP o5.at
          have hLr : L.reverse.length = L.length := List.length_reverse
          have B5 := hideP but5
          clear o5 hg5 but5 O4 S4
          have Z5 : Hid (w.heap.size + 1 ≤ w5.heap.size) := by show _ ≤ _; omega
          go_wp2_with (at_builtin; refine list_appI _ rfl _ _ rfl (w.heap.size + 1) _ stk' L.reverse g4 0 L.length c4 hLr (by rw [HKK.out]; rfl) rfl S5.out L5.out (by rw [hLr, HKK.out]; omega) Z5.out ?_; intro v6 w6 o6 grow6 loc6)
          replace grow6 : World.grownBy _ w6 (Value.slice (some ⟨gW, 0, none⟩) stk'.length cW).ownBlock := grow6
          replace loc6 : v6.ownBlock = (Value.slice (some ⟨gW, 0, none⟩) stk'.length cW).ownBlock ∨ v6.ownBlock = some w5.heap.size := loc6
          have o6' := o6
          rw [← NX.out] at o6'
          have FV := hideP (hv.out.go HALL.out hin hi O3.out GR3.out LO3.out B4.out G4.out.1 G4.out.2 B5.out o6' grow6 loc6)
          obtain ⟨g6, c6, rfl, _⟩ := id o6
          have hfl := free_step (n := blocks.length) hin ⟨by omega, by omega⟩
          clear o6 o6' grow6 loc6 hv O3 GR3 LO3 B4 B5 S5 L5
          go_wp2
          go_roundw
          case rel => exact ⟨out ++ [(i : Int)], stk' ++ (nxt blocks (i : Int)).reverse, by rw [List.length_append] at FV; exact FV⟩
          case measure => simp [lenV, HKK.out]; omega
end Go.Proofs.YtelkpikbjfkpcaaGreat

/- The contract of impl.ascending: the list sorted, each number once, in its own block. -/
namespace Go.Proofs.YtelkpikbjfkpcaaGreat
open Go.ChangeShapes Go.WideShapes Go.ChangeAt Go.RowKit
theorem compact_le (zs : List Int) : (Lib.compact zs).length ≤ zs.length := by
  unfold Lib.compact Lib.compactUpTo
  rw [List.length_map]
  exact Nat.le_trans (List.length_filter_le _ _) (by simp)
theorem But.trans_same {b : Nat} {w w1 w2 : World} (h : But b w w1) (k : But b w1 w2) : But b w w2 :=
  ⟨k.os.trans h.os, k.tape.trans h.tape, k.output.trans h.output, Nat.le_trans h.size k.size, fun i hi hne => (k.block i (Nat.lt_of_lt_of_le hi h.size) hne).trans (h.block i hi hne)⟩
theorem own_put {w : World} {B g cap : Nat} {l d : List Int} (h : OwnI w B (.slice (some ⟨g, 0, none⟩) l.length cap) l) (hd : d.length = l.length) (n : Nat) (os : Array Obj) :
    OwnI (Sort.grow (Sort.putRow (Value.int .i64) (Sort.ahead w n) g 0 d.toArray) os) B (.slice (some ⟨g, 0, none⟩) d.length cap) d ∧ But g w (Sort.grow (Sort.putRow (Value.int .i64) (Sort.ahead w n) g 0 d.toArray) os) := by
  obtain ⟨g', cap', cur, hv, hB, hh, hc, hm, hs, hx⟩ := h.parts
  cases hv
  have hlt : g < w.heap.size := (Array.getElem?_eq_some_iff.1 hh).1
  have h0 : (Sort.putRow (Value.int .i64) (Sort.ahead w n) g 0 d.toArray).heap[g]? = some (.cells (Sort.putCells (Value.int .i64) 0 d.toArray cur) 3 (0, 0)) := by
    show (w.heap.modify g _)[g]? = _
    rw [Array.getElem?_modify, if_pos rfl, hh]
    rfl
  have h1 : (Sort.grow (Sort.putRow (Value.int .i64) (Sort.ahead w n) g 0 d.toArray) os).heap[g]? = some (.cells (Sort.putCells (Value.int .i64) 0 d.toArray cur) 3 (0, 0)) := (Sort.heap_grow_old _ os (by simpa using hlt)).trans h0
  constructor
  · refine OwnI.of_parts hB h1 (by omega) hm (by simpa [Sort.putCells] using hs) (fun j hj => ?_)
    have hj2 : j < cur.size := by omega
    simp [Sort.putCells, hj, hj2]
  · refine ⟨rfl, rfl, rfl, by simp, fun k hk hne => ?_⟩
    rw [Sort.heap_grow_old _ os (by simpa using hk)]
    show (w.heap.modify g _)[k]? = _
    rw [Array.getElem?_modify, if_neg (fun e => hne e.symm)]
theorem own_holds {w : World} {B g cap : Nat} {l : List Int} (h : OwnI w B (.slice (some ⟨g, 0, none⟩) l.length cap) l) : Sort.Holds (Value.int .i64) w g 0 l.toArray := by
  obtain ⟨g', cap', cur, hv, hB, hh, hc, hm, hs, hx⟩ := h.parts
  cases hv
  intro j hj
  have hj' : j < l.length := by simpa using hj
  rw [Nat.zero_add, (cells_of hh).1, hx j hj']
  exact ⟨by simp [hj'], (cells_of hh).2 j⟩
theorem OwnI.pre {w : World} {A g n cap : Nat} {l l2 : List Int} (h : OwnI w A (.slice (some ⟨g, 0, none⟩) n cap) (l ++ l2)) : OwnI w A (.slice (some ⟨g, 0, none⟩) l.length cap) l := by
  obtain ⟨g', cap', cur, hv, hB, hh, hc, hm, hs, hx⟩ := h.parts
  cases hv
  rw [List.length_append] at hc
  refine OwnI.of_parts hB hh (by omega) hm hs (fun j hj => ?_)
  have := hx j (by rw [List.length_append]; omega)
  rw [List.getElem_append_left hj] at this
  exact this
def ascP (l : List Int) : List Int := Lib.compact (l.mergeSort fun x y => decide (x ≤ y))
theorem ascP_eq (xs ys : List Int) (h : ∀ y, y ∈ xs ↔ y ∈ ys) : ascP xs = addAll ys := asc_eq xs ys h
set_option maxHeartbeats 1000000 in
theorem ascending_any (l : List Int) (w : World) (B : Nat) (v : Value) (h : OwnI w B v l) (hn : l.length ≤ 100000000) :
    Calls Tryz.prog 108 #[v] w fun e w' => ∃ v', e = .returned v' ∧ OwnI w' B v' (ascP l) ∧ ∃ g, v.ownBlock = some g ∧ v'.ownBlock = some g ∧ But g w w' := by
  obtain ⟨g, cap, cur, rfl, hB, hh, hc, hm, hs, hx⟩ := h.parts
  have hlt : g < w.heap.size := (Array.getElem?_eq_some_iff.1 hh).1
  have HO := hideP h
  clear h hh hx hs
  go_enter Tryz.func108, Tryz.ntmps108
  go_wp2_with fail
  refine (Tryz.slices_Sort_int g 0 cap l _ (own_holds HO.out) hlt (by omega)).mono ?_
  rintro e1 w1 ⟨rfl, n, os, rfl⟩
  obtain ⟨s, hsrt⟩ : ∃ s, (l.mergeSort fun x y => decide (x ≤ y)) = s := ⟨_, rfl⟩
  have hsl : s.length = l.length := by rw [← hsrt]; exact List.length_mergeSort l
  have hasc : ascP l = Lib.compact s := by rw [← hsrt]; rfl
  rw [hsrt]
  have P1 := hideP (own_put HO.out hsl n os)
  obtain ⟨w1, hw1⟩ : ∃ w1, Sort.grow (Sort.putRow (Value.int .i64) (Sort.ahead w n) g 0 s.toArray) os = w1 := ⟨_, rfl⟩
  rw [hw1] at P1 ⊢
  have HA := hideP hasc
  have HSL := hideP hsl
  clear hsrt hasc hw1
  go_wp2_with fail
  rw [← hsl]
  refine (Tryz.slices_Compact_int g 0 cap s _ (own_holds P1.out.1) (by omega) (by omega)).mono ?_
  rintro e2 w2 ⟨rfl, q, rfl⟩
  have hcl := compact_le s
  have hq := own_put (d := Lib.compact s ++ List.replicate (s.length - (Lib.compact s).length) 0) P1.out.1 (by rw [List.length_append, List.length_replicate]; omega) q #[]
  rw [Sort.grow_empty] at hq
  have O2 := hideP hq.1.pre
  have B2 := hideP (But.trans_same P1.out.2 hq.2)
  clear hq hsl
  go_wp2
  go_ret
  exact ⟨_, rfl, by rw [HA.out]; exact O2.out, g, rfl, rfl, B2.out⟩
end Go.Proofs.YtelkpikbjfkpcaaGreat

/- The contract of impl.Blocks. -/
namespace Go.Proofs.YtelkpikbjfkpcaaGreat
open Go.ChangeShapes Go.WideShapes Go.ChangeAt Go.RowKit
set_option maxHeartbeats 1000000 in
theorem impl_blocks (g : Gr) (w : World) (B : Nat) (v : Array Value) (h : GrIs w B v g) (GO : OkIs 51 g) :
    Calls Tryz.prog 60 #[.agg v] w fun en w' => ∃ v', en = .returned v' ∧ OwnI w' w.heap.size v' (blocksP g) ∧ Below w.heap.size w w' := by
  have OR := hideP (fun o => impl_order g (w.alloc o) B v (GrKeeps.stays h ((Below.refl _ _).alloc (Nat.le_refl _) o)) GO)
  have hlen : Hid ((orderP g).length ≤ 300) := orderP_few g
  have E : Hid (ascP (orderP g) = blocksP g) := ascP_eq _ _ (fun _ => Iff.rfl)
  obtain ⟨l, hl⟩ : ∃ l, orderP g = l := ⟨_, rfl⟩
  obtain ⟨r, hr⟩ : ∃ r, blocksP g = r := ⟨_, rfl⟩
  rw [hr] at E ⊢
  rw [hl] at OR hlen E
  clear hl hr GO
  obtain ⟨sizes, params, vars, slots, blocks⟩ := g
  obtain ⟨us, cs, ub, cb, rfl, _⟩ := h
  simp only at *
  go_enter Tryz.func60, Tryz.ntmps60
  go_wp2_with fail
  refine (OR.out _).mono ?_
  rintro e1 w1 ⟨v1, rfl, o1, bel1⟩
  have hw := below_new bel1
  obtain ⟨g1, c1, rfl, _⟩ := id o1
  have O1 := hideP (o1.mono (show w.heap.size ≤ _ by simp))
  clear o1 bel1
  go_wp2_with fail
  refine (ascending_any l _ _ _ O1.out (by have := hlen.out; omega)).mono ?_
  rintro e2 w2 ⟨v2, rfl, o2, g2, hg2, hg2', but2⟩
  have hb2 := hw.trans (but2.below (by have := (O1.out.low g2 hg2).1; exact this) hw.size)
  rw [E.out] at o2
  obtain ⟨g3, c3, rfl, _⟩ := id o2
  have O2 := hideP o2
  clear o2 but2
  go_wp2
  go_ret
  exact ⟨_, rfl, O2.out, hb2⟩
end Go.Proofs.YtelkpikbjfkpcaaGreat
