/- Two boxes; what folding leaves of a step; the contract of impl.goTo. -/
import Derived.Test.YtjmclmbepnbeoaaPut5
import Derived.Test.YtjmclmbepnbeoaaFldPG
import Derived.Test.YtjmclmbepnbeoaaRowA
import Derived.Deep.CutRange
namespace Go.Proofs.Ytjmclmbepnbeoaa
open Go.ChangeShapes Go.WideShapes Go.ChangeAt Go.RowKit
/-- Two boxes, nothing else. -/
structure Bx2 (w : World) (x y : Array Value) (T : TypeId) (W : World) : Prop where
  bx : W.heap[w.heap.size]? = some (.cells x T (0, 0))
  br : W.heap[w.heap.size + 1]? = some (.cells y T (0, 0))
  bel : Below w.heap.size w W
theorem Bx2.of (w : World) (x y : Array Value) (T : TypeId) : Bx2 w x y T ((w.alloc (.cells x T)).alloc (.cells y T)) :=
  ⟨(bxx2 w _ _).1, (bxx2 w _ _).2.1, ((Below.refl w.heap.size w).alloc (Nat.le_refl _) _).alloc (by simp) _⟩
theorem Bx2.stays {w W W' : World} {x y : Array Value} {T : TypeId} (h : Bx2 w x y T W) (b : Below W.heap.size W W') : Bx2 w x y T W' :=
  ⟨(b.block _ (Array.getElem?_eq_some_iff.1 h.bx).1).trans h.bx, (b.block _ (Array.getElem?_eq_some_iff.1 h.br).1).trans h.br, below_trans h.bel b⟩
theorem Bx2.boxed {w W W' : World} {x x' y : Array Value} {T : TypeId} (h : Bx2 w x y T W) (b : But w.heap.size W W') (hb : W'.heap[w.heap.size]? = some (.cells x' T (0, 0))) : Bx2 w x' y T W' :=
  ⟨hb, keepQ b h.br (by omega), h.bel.trans (b.below (Nat.le_refl _) h.bel.size)⟩
theorem Bx2.butM {w W W' : World} {x y : Array Value} {T : TypeId} {m : Nat} (h : Bx2 w x y T W) (b : But m W W') (hm : m < w.heap.size) : W'.heap[w.heap.size]? = some (.cells x T (0, 0)) ∧ W'.heap[w.heap.size + 1]? = some (.cells y T (0, 0)) ∧ But m w W' :=
  ⟨keepQ b h.bx (by omega), keepQ b h.br (by omega), ⟨b.os.trans h.bel.os, b.tape.trans h.bel.tape, b.output.trans h.bel.output, Nat.le_trans h.bel.size b.size, fun k hk hne => (b.block k (Nat.lt_of_lt_of_le hk h.bel.size) hne).trans (h.bel.block k hk)⟩⟩
theorem some_of {K : Kn} {a c : Int} (h : (K a).isSome = true) (hc : ∀ u, K a = some u → c = u) : K a = some c := by
  obtain ⟨v, hv⟩ := Option.isSome_iff_exists.1 h
  rw [hv, hc v hv]
theorem none_of {K : Kn} {a : Int} (h : (K a).isSome = false) : K a = none := by simpa using h
theorem foldX_d (K : Kn) (x : Ins) : (foldX K x).d = x.d := by
  unfold foldX
  split
  · split <;> rfl
  · split
    · split <;> rfl
    · rfl
theorem foldX_op (K : Kn) (x : Ins) : (foldX K x).op = 4 ∨ (foldX K x).op = 6 ↔ x.op = 4 ∨ x.op = 6 := by
  unfold foldX
  split
  · split <;> simp_all
  · split
    · split <;> simp_all
    · rfl
set_option maxHeartbeats 4000000 in
theorem goTo_any (t0 : Int) (w : World) : Calls Try.prog 107 #[.int .i64 t0] w fun e w' => e = .returned (.agg #[.slice none 0 0, .int .i64 0, .int .i64 0, .int .i64 t0, .int .i64 0]) ∧ Below w.heap.size w w' := by
  have nb := newB1 w (.cells #[.slice none 0 0, .int .i64 0, .int .i64 0, .int .i64 0, .int .i64 0] 44)
  have al := (Below.refl w.heap.size w).alloc (Nat.le_refl _) (.cells #[.slice none 0 0, .int .i64 0, .int .i64 0, .int .i64 0, .int .i64 0] 44)
  obtain ⟨W1, hW1⟩ : ∃ W1, w.alloc (.cells #[.slice none 0 0, .int .i64 0, .int .i64 0, .int .i64 0, .int .i64 0] 44) = W1 := ⟨_, rfl⟩
  rw [hW1] at nb al
  have HW := hideP hW1
  have AL := hideP al
  obtain ⟨z4, bu⟩ := put5n nb rfl (.slice none 0 0) (.int .i64 0) (.int .i64 0) (.int .i64 t0) (.int .i64 0)
  have ZF := hideP z4
  have BU := hideP bu
  have rf := (cells_of nb).2
  have fc := (cells_of nb).1
  have r0 := fc 0
  have r1 := fc 1
  have r2 := fc 2
  have r3 := fc 3
  have r4 := fc 4
  simp at r0 r1 r2 r3 r4
  clear fc
  clear nb al hW1 z4 bu
  go_enter Try.func107, Try.ntmps107
  go_upto_region 1 with fail
  rw [HW.out]
  clear HW
  go_wp2
  refine bodyPost_ret (results_cell_row rfl _ _ w.heap.size 44 #[.slice none 0 0, .int .i64 0, .int .i64 0, .int .i64 t0, .int .i64 0] (0, 0) _ rfl ZF.out Try.underlying44 rfl (by kernel_rfl)) rfl ?_
  exact ⟨rfl, AL.out.trans (BU.out.below (Nat.le_refl _) AL.out.size)⟩
end Go.Proofs.Ytjmclmbepnbeoaa
