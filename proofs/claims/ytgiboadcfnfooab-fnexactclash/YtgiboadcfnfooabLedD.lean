/- The program's ledger as it lies in memory. -/
import Derived.Test.YtgiboadcfnfooabAliP
import Derived.Test.YtgiboadcfnfooabOwnIntL
import Derived.WalkKit
namespace Go.Proofs.Ytgiboadcfnfooab
open Go.ChangeShapes Go.WideShapes Go.ChangeAt Go.RowKit
/-- What a slot holds, as the program has it: a number, or a base and an offset. -/
def symV (s : Sym) : Value := if s.base = -1 then .iface 89 (.int .i64 s.off) else .iface 104 (.agg #[.int .i64 s.base, .int .i64 s.off])
theorem symV_fig (o : Int) : symV ⟨-1, o⟩ = .iface 89 (.int .i64 o) := if_pos rfl
theorem symV_dist {b o : Int} (h : b ≠ -1) : symV ⟨b, o⟩ = .iface 104 (.agg #[.int .i64 b, .int .i64 o]) := if_neg h
def ledHead (S n : Nat) (f : Nat) : Array Value := #[.slice (some ⟨S, 0, none⟩) n n, .int .i64 (f : Int)]
/-- The slots lie in block S. -/
def SymsIs (w : World) (S : Nat) (ss : List Sym) : Prop := ∃ cur, w.heap[S]? = some (.cells cur 88 (0, 0)) ∧ cur.size = ss.length ∧ ∀ i (h : i < ss.length), cur[i]? = some (symV ss[i])
/-- The ledger lies in block L, its slots in block S. -/
def LedIs (w : World) (L S : Nat) (l : Led) : Prop := L ≠ S ∧ w.heap[L]? = some (.cells (ledHead S l.slots.length l.fresh) 62 (0, 0)) ∧ SymsIs w S l.slots
def Led.made (l : Led) (o : Option Sym) : Sym := o.getD ⟨(l.slots.length : Int) + l.fresh, 0⟩
def Led.next (l : Led) (o : Option Sym) : Nat := match o with | some _ => l.fresh | none => l.fresh + 1
theorem putO_eq (l : Led) (n : Int) (o : Option Sym) : l.putO n o = ⟨l.slots.set n.toNat (l.made o), l.next o⟩ := by cases o <;> rfl
theorem SymsIs.at {w : World} {S : Nat} {ss : List Sym} (h : SymsIs w S ss) (i : Nat) (hi : i < ss.length) : w.cell? ⟨S, i, none⟩ = some (symV ss[i]) := by
  obtain ⟨cur, h1, _, h3⟩ := h
  simp only [World.cell?, h1]; exact h3 i hi
theorem SymsIs.free {w : World} {S : Nat} {ss : List Sym} (h : SymsIs w S ss) (i : Nat) : w.frozen? ⟨S, i, none⟩ = false := by
  obtain ⟨cur, h1, _, _⟩ := h
  simp [World.frozen?, h1]
theorem SymsIs.lt {w : World} {S : Nat} {ss : List Sym} (h : SymsIs w S ss) : S < w.heap.size := by
  obtain ⟨cur, h1, _, _⟩ := h
  exact (Array.getElem?_eq_some_iff.1 h1).1
theorem SymsIs.blk {w w' : World} {S : Nat} {ss : List Sym} (h : SymsIs w S ss) (e : w'.heap[S]? = w.heap[S]?) : SymsIs w' S ss := by
  obtain ⟨cur, h1, h2, h3⟩ := h
  exact ⟨cur, e.trans h1, h2, h3⟩
theorem SymsIs.set {w : World} {S : Nat} {ss : List Sym} (h : SymsIs w S ss) (i : Nat) (s : Sym) (hi : i < ss.length) : SymsIs (w.setCell ⟨S, i, none⟩ (symV s)) S (ss.set i s) := by
  obtain ⟨cur, h1, h2, h3⟩ := h
  refine ⟨_, heap_setCell_same w S i cur _ (symV s) h1, by simp [h2], fun k hk => ?_⟩
  have hk' : k < ss.length := by simpa using hk
  rw [Array.getElem?_setIfInBounds, List.getElem_set]
  by_cases e : i = k
  · subst e; simp [show i < cur.size by omega]
  · rw [if_neg e, if_neg e]; exact h3 k hk'
/-- w' is w but for blocks a and b and for what is new. -/
structure But2 (a b : Nat) (w w' : World) : Prop where
  os : w'.os = w.os
  tape : w'.tape = w.tape
  output : w'.output = w.output
  size : w.heap.size ≤ w'.heap.size
  block : ∀ k, k < w.heap.size → k ≠ a → k ≠ b → w'.heap[k]? = w.heap[k]?
theorem But2.refl (a b : Nat) (w : World) : But2 a b w w := ⟨rfl, rfl, rfl, Nat.le_refl _, fun _ _ _ _ => rfl⟩
theorem But2.of1 {a b : Nat} {w w' : World} (h : But a w w') : But2 a b w w' := ⟨h.os, h.tape, h.output, h.size, fun k hk h1 _ => h.block k hk h1⟩
theorem But2.ofB {a b : Nat} {w w' : World} (h : Below w.heap.size w w') : But2 a b w w' := ⟨h.os, h.tape, h.output, h.size, fun k hk _ _ => h.block k hk⟩
theorem But2.trans {a b : Nat} {w w1 w2 : World} (h : But2 a b w w1) (k : But2 a b w1 w2) : But2 a b w w2 :=
  ⟨k.os.trans h.os, k.tape.trans h.tape, k.output.trans h.output, Nat.le_trans h.size k.size, fun i hi h1 h2 => (k.block i (Nat.lt_of_lt_of_le hi h.size) h1 h2).trans (h.block i hi h1 h2)⟩
theorem But2.set2 {a b : Nat} {w w1 : World} (h : But2 a b w w1) (i : Nat) (v : Value) : But2 a b w (w1.setCell ⟨b, i, none⟩ v) :=
  ⟨h.os, h.tape, h.output, by simp [World.setCell]; exact h.size, fun k hk h1 h2 => (Below.heap_setCell w1 ⟨b, i, none⟩ v k h2).trans (h.block k hk h1 h2)⟩
theorem But2.below {a b B : Nat} {w w' : World} (h : But2 a b w w') (ha : B ≤ a) (hb : B ≤ b) (hw : B ≤ w.heap.size) : Below B w w' :=
  ⟨h.os, h.tape, h.output, h.size, fun k hk => h.block k (by omega) (by omega) (by omega)⟩
theorem LedIs.lt {w : World} {L S : Nat} {l : Led} (h : LedIs w L S l) : L < w.heap.size ∧ S < w.heap.size := ⟨(Array.getElem?_eq_some_iff.1 h.2.1).1, h.2.2.lt⟩
theorem LedIs.stays {w w' : World} {L S : Nat} {l : Led} (h : LedIs w L S l) (bel : Below w.heap.size w w') : LedIs w' L S l :=
  ⟨h.1, (bel.block L h.lt.1).trans h.2.1, h.2.2.blk (bel.block S h.lt.2)⟩
theorem LedIs.kept {w w' : World} {L S : Nat} {l : Led} {row : Option Nat} (h : LedIs w L S l) (hg : w.grownBy w' row) (h1 : row ≠ some L) (h2 : row ≠ some S) : LedIs w' L S l :=
  ⟨h.1, (hg.block L h.lt.1 (fun e => h1 e.symm)).trans h.2.1, h.2.2.blk (hg.block S h.lt.2 (fun e => h2 e.symm))⟩
/-- The cells of the ledger itself. -/
theorem LedIs.head {w : World} {L S : Nat} {l : Led} (h : LedIs w L S l) : w.cell? ⟨L, 0, none⟩ = some (.slice (some ⟨S, 0, none⟩) l.slots.length l.slots.length) ∧ w.cell? ⟨L, 1, none⟩ = some (.int .i64 (l.fresh : Int)) ∧ w.frozen? ⟨L, 0, none⟩ = false ∧ w.frozen? ⟨L, 1, none⟩ = false := by
  have := cells_of h.2.1
  exact ⟨this.1 0, this.1 1, this.2 0, this.2 1⟩
end Go.Proofs.Ytgiboadcfnfooab
