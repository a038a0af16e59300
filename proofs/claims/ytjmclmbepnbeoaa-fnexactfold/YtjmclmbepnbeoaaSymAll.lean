/- The specification's slots: their list, the contracts of Bin, l06Start, l06Bin. -/
import Derived.Test.YtjmclmbepnbeoaaAliP
import Derived.Test.YtjmclmbepnbeoaaOwnA
import Derived.BigQuiet
import Derived.Deep.LoopGhost
import Derived.Deep.CutRange
import Derived.Laws.Rows
import Derived.Deep.RegionHeld3
import Derived.Test.YtjmclmbepnbeoaaCpyB
import Derived.Test.YtjmclmbepnbeoaaAliB
import Derived.Test.YtjmclmbepnbeoaaInstrOkV
namespace Go.Proofs.Ytjmclmbepnbeoaa
open Go.ChangeShapes Go.WideShapes Go.ChangeAt Go.RowKit
set_option maxHeartbeats 1000000 in
theorem specBin_any (s : ByteArray) (a b : Int) (w : World) :
    Calls Try.prog 57 #[.string s, .int .i64 a, .int .i64 b] w fun e w' => e = .returned (.int .i64 (binL s.toList a b)) ∧ w' = w := by
  go_enter Try.func57, Try.ntmps57
  go_wp2
  all_goals first | (simp_all; done) | skip
  all_goals go_ret
  all_goals refine ⟨ret_int ?_, rfl⟩
  all_goals simp only [binL, *, if_true, if_false, Bool.false_eq_true]
  all_goals first | rfl | (rw [if_pos (by omega)]; done) | (rw [if_neg (by omega)]; done) | skip
theorem symUp_at (V j : Nat) (h : j < V) : ((ledStart V).slots.take (j + 1)) = (ledStart V).slots.take j ++ [⟨(j : Int), 0⟩] := by
  rw [List.take_succ_eq_append_getElem (by simpa [ledStart] using h)]
  simp [ledStart]
def symR (o : Option Sym) : Value := .tuple #[.agg #[.int .i64 (o.getD ⟨0, 0⟩).base, .int .i64 (o.getD ⟨0, 0⟩).off], .bool o.isSome]
end Go.Proofs.Ytjmclmbepnbeoaa

/- The contract of the specification's l06Place (written by wip/mksymp.py). -/
namespace Go.Proofs.Ytjmclmbepnbeoaa
open Go.ChangeShapes Go.WideShapes Go.ChangeAt Go.RowKit
theorem spl_eq {n i j o i' j' o' : Int} (h1 : i = i') (h2 : j = j') (h3 : o = o') : Ending.returned (.agg #[.int .i64 n, .int .i64 i, .int .i64 j, .int .i64 o]) = .returned (.agg #[.int .i64 n, .int .i64 i', .int .i64 j', .int .i64 o']) := by rw [h1, h2, h3]
theorem below4 (w : World) (o1 o2 o3 o4 : Obj) : Below w.heap.size w ((((w.alloc o1).alloc o2).alloc o3).alloc o4) := (below3 w o1 o2 o3).alloc (by simp; omega) _
end Go.Proofs.Ytjmclmbepnbeoaa

/- The contracts of the specification's l06Place and l06Step (written by wip/mksymt.py). -/
namespace Go.Proofs.Ytjmclmbepnbeoaa
open Go.ChangeShapes Go.WideShapes Go.ChangeAt Go.RowKit
def insW (x : Ins) : Array Value := #[.int .i64 x.op, .int .i64 x.d, .int .i64 x.a, .int .i64 x.b, .int .i64 x.c, .int .i64 x.n, .string x.t]
def plW (p : Pla) : Array Value := #[.int .i64 p.r, .int .i64 p.i, .int .i64 p.j, .int .i64 p.off]
theorem Led.get_atS {l : Led} {n : Nat} (h : n < l.slots.length) : l.get (n : Int) = l.slots[n] := by
  unfold Led.get; rw [show ((n : Int).toNat) = n by omega, getElem!_pos l.slots n h]
theorem vOk_natS {V : Nat} {n : Int} (h : vOk V n = true) : ∃ k : Nat, n = (k : Int) ∧ k < V := by
  have h' : 0 ≤ n ∧ n < V := by simpa [vOk] using h
  exact ⟨n.toNat, by omega, by omega⟩
theorem set2_heap {w : World} {g : Nat} {T : TypeId} {c0 c1 v0 v1 : Value} (h : w.heap[g]? = some (.cells #[c0, c1] T (0, 0))) : ((w.setCell ⟨g, 0, none⟩ v0).setCell ⟨g, 1, none⟩ v1).heap[g]? = some (.cells #[v0, v1] T (0, 0)) := by
  have h0 := heap_setCell_same w g 0 _ T v0 h
  have h1 := heap_setCell_same _ g 1 _ T v1 h0
  rw [h1]; rfl
theorem But.afterS {b : Nat} {w w1 w2 : World} (h : But b w w1) (k : But b w1 w2) : But b w w2 :=
  ⟨k.os.trans h.os, k.tape.trans h.tape, k.output.trans h.output, Nat.le_trans h.size k.size, fun i hi hne => (k.block i (Nat.lt_of_lt_of_le hi h.size) hne).trans (h.block i hi hne)⟩
end Go.Proofs.Ytjmclmbepnbeoaa

/- The contract of the specification's l06Step, for any step that is right. -/
namespace Go.Proofs.Ytjmclmbepnbeoaa
open Go.ChangeShapes Go.WideShapes Go.ChangeAt Go.RowKit
end Go.Proofs.Ytjmclmbepnbeoaa

/- The contract of spec.Places. -/
namespace Go.Proofs.Ytjmclmbepnbeoaa
open Go.ChangeShapes Go.WideShapes Go.ChangeAt Go.RowKit
theorem heldB {W W' : World} {b : Nat} {o : Obj} (h : W.heap[b]? = some o) (bel : Below W.heap.size W W') : W'.heap[b]? = some o := (bel.block b (Array.getElem?_eq_some_iff.1 h).1).trans h
end Go.Proofs.Ytjmclmbepnbeoaa
