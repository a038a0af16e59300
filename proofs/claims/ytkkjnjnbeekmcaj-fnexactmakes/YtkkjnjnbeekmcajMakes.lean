/- The slot that a step makes: both functions, and the walk of the law FnExactMakes. -/
import Derived.Test.YtkkjnjnbeekmcajInstrSz
import Derived.Test.YtkkjnjnbeekmcajInstrTo
namespace Go.Proofs.Ytkkjnjnbeekmcaj
open Go.ChangeShapes Go.WideShapes Go.ChangeAt Go.RowKit
def makesP (x : Ins) : Int := if x.op = 4 ∨ x.op = 6 then -1 else x.d
theorem spec_makes (x : Ins) (w : World) (B : Nat) (v : Array Value) (h : InsIs w B v x) :
    Calls Try.prog 33 #[.agg v] w fun en w' => en = .returned (.int .i64 (makesP x)) ∧ Below w.heap.size w w' := by
  obtain ⟨op, d, a, b, c, n, t⟩ := x
  obtain ⟨rfl, _⟩ := h
  go_enter Try.func33, Try.ntmps33
  go_wp2
  all_goals go_ret
  all_goals exact ⟨ret_int (by (try simp only [beq_iff_eq, beq_eq_false_iff_ne, ne_eq] at *); unfold makesP; split <;> simp_all), (Below.refl _ _).alloc (Nat.le_refl _) _⟩
theorem impl_makes (x : Ins) (w : World) (B : Nat) (v : Array Value) (h : InsIs w B v x) :
    Calls Try.prog 34 #[.agg v] w fun en w' => en = .returned (.int .i64 (makesP x)) ∧ Below w.heap.size w w' := by
  obtain ⟨op, d, a, b, c, n, t⟩ := x
  obtain ⟨rfl, _⟩ := h
  go_enter Try.func34, Try.ntmps34
  go_wp2
  all_goals go_ret
  all_goals exact ⟨ret_int (by (try simp only [beq_iff_eq, beq_eq_false_iff_ne, ne_eq] at *); unfold makesP; split <;> simp_all), (Below.refl _ _).alloc (Nat.le_refl _) _⟩
namespace MakesLaw
set_option maxHeartbeats 4000000 in
theorem walk (x : Ins) (v : Array Value) (w : World) (h : InsIs w 0 v x) :
    Calls Try.prog 7 #[.agg v] w fun en w' => en = .returned (.bool true) ∧ Below w.heap.size w w' := by
  have SZ := hideP (fun W => szInstr_any x W 0 v 1048576 h (by omega))
  have TO := hideP (fun W => toInstr_any x W 0 v h)
  obtain ⟨r, hr⟩ : ∃ r, makesP x = r := ⟨_, rfl⟩
  have SO : Hid (∀ W v', InsIs W 0 v' x → Calls Try.prog 33 #[.agg v'] W fun en w' => en = .returned (.int .i64 r) ∧ Below W.heap.size W w') := fun W v' h' => hr ▸ spec_makes x W 0 v' h'
  have IO : Hid (∀ W v', InsIs W 0 v' x → Calls Try.prog 34 #[.agg v'] W fun en w' => en = .returned (.int .i64 r) ∧ Below W.heap.size W w') := fun W v' h' => hr ▸ impl_makes x W 0 v' h'
  clear hr
  obtain ⟨op, d, a, b, c, n, t⟩ := x
  obtain ⟨rfl, ht⟩ := h
  simp only [Ins.sz] at *
  by_cases hs : t.size ≤ 1048576
  · have E := hideP (szR_pos hs)
    clear hs
    go_enter Try.func7, Try.ntmps7
    go_wp2_with fail
    refine (SZ.out _).mono ?_
    rintro e1 w1 ⟨rfl, bel1⟩
    rw [E.out]
    have HW1 := hideP (below_new bel1)
    have P1 := hideP ((bel1.block w.heap.size (by simp)).trans (show (w.alloc _).heap[w.heap.size]? = _ from Array.getElem?_push_size))
    clear bel1
    have p0 := (cells_of P1.out).1 0
    have p1 := (cells_of P1.out).1 1
    have p2 := (cells_of P1.out).1 2
    have p3 := (cells_of P1.out).1 3
    have p4 := (cells_of P1.out).1 4
    have p5 := (cells_of P1.out).1 5
    have p6 := (cells_of P1.out).1 6
    simp at p0 p1 p2 p3 p4 p5 p6
    go_wp2_with fail
    refine (TO.out _).mono ?_
    rintro e2 w2 ⟨v2, rfl, h2, bel2⟩
    have h2' := h2
    obtain ⟨rfl, _⟩ := h2'
    go_wp2_with fail
    refine (SO.out _ _ (InsKeeps.mono h2 (Nat.zero_le _))).mono ?_
    rintro e3 w3 ⟨rfl, bel3⟩
    have b3 := below_trans bel2 bel3
    have HW3 := hideP (below_trans HW1.out b3)
    have P3 := hideP ((b3.block w.heap.size (Array.getElem?_eq_some_iff.1 P1.out).1).trans P1.out)
    clear bel2 bel3 b3 h2 p0 p1 p2 p3 p4 p5 p6 HW1 P1
    have p0 := (cells_of P3.out).1 0
    have p1 := (cells_of P3.out).1 1
    have p2 := (cells_of P3.out).1 2
    have p3 := (cells_of P3.out).1 3
    have p4 := (cells_of P3.out).1 4
    have p5 := (cells_of P3.out).1 5
    have p6 := (cells_of P3.out).1 6
    simp at p0 p1 p2 p3 p4 p5 p6
    go_wp2_with fail
    refine (TO.out _).mono ?_
    rintro e4 w4 ⟨v4, rfl, h4, bel4⟩
    have h4' := h4
    obtain ⟨rfl, _⟩ := h4'
    go_wp2_with fail
    refine (IO.out _ _ (InsKeeps.mono h4 (Nat.zero_le _))).mono ?_
    rintro e5 w5 ⟨rfl, bel5⟩
    have HW5 := hideP (below_trans HW3.out (below_trans bel4 bel5))
    clear bel4 bel5 h4 p0 p1 p2 p3 p4 p5 p6 HW3 P3
    go_wp2
    go_ret
    exact ⟨rfl, HW5.out⟩
  · have E := hideP (szR_neg (Nat.lt_of_not_le hs))
    clear hs
    go_enter Try.func7, Try.ntmps7
    go_wp2_with fail
    refine (SZ.out _).mono ?_
    rintro e1 w1 ⟨rfl, bel1⟩
    rw [E.out]
    have HW1 := hideP (below_new bel1)
    clear bel1
    go_wp2
    go_ret
    exact ⟨rfl, HW1.out⟩
end MakesLaw
end Go.Proofs.Ytkkjnjnbeekmcaj
