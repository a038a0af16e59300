/- When an expression is right, as a function of the expression; the contracts of the small functions that both sides ask. -/
import Derived.Test.YtfoaplihindeaagHas
import Derived.Test.YtfoaplihindeaagTree
import Derived.Test.YtfoaplihindeaagEqT
namespace Go.Proofs.Ytfoaplihindeaag
open Go.ChangeShapes Go.WideShapes Go.ChangeAt Go.RowKit

def theOps : List ByteArray := [wd [61, 61], wd [60], wd [38], wd [43], wd [45], wd [42]]
def opL (l : List UInt8) : Bool := l == [61, 61] || l == [60] || l == [38] || l == [43] || l == [45] || l == [42]
theorem hasB_theOps (s : ByteArray) : hasB theOps s = opL s.toList := by
  unfold theOps opL
  simp only [hasB_cons, hasB_nil, Bool.or_false, Bool.or_assoc]
def vOk (V n : Int) : Bool := decide (0 ≤ n ∧ n < V)
def plOk (R V n b : Int) : Bool := decide (0 ≤ n ∧ n < R) && (decide (b = -1) || vOk V b)
/-- Whether the fields of an expression of m kids are right. -/
def fldOk (R V k n b : Int) (t : ByteArray) (m : Nat) : Bool :=
  if k = 3 then decide (n = 0) && decide (b = 0) && opL t.toList && decide (m = 2)
  else (t.toList == []) && (if k = 0 then decide (0 ≤ n ∧ n ≤ 999999999) && decide (b = 0) && decide (m = 0)
    else if k = 1 then vOk V n && decide (b = 0) && decide (m = 0)
    else if k = 2 then plOk R V n b && decide (m = 1)
    else if k = 4 then decide (n = 0) && decide (b = 0) && decide (m = 0) else false)
mutual
def exOk (R V : Int) : Int → Ex → Bool
  | d, .mk k n b t kids => decide (0 ≤ d) && fldOk R V k n b t kids.length && exsOk R V (d - 1) kids
def exsOk (R V : Int) : Int → List Ex → Bool
  | _, [] => true
  | d, e :: l => exOk R V d e && exsOk R V d l
end
theorem exsOk_append (R V d : Int) : ∀ (l m : List Ex), exsOk R V d (l ++ m) = (exsOk R V d l && exsOk R V d m)
  | [], m => by simp [exsOk]
  | e :: l, m => by simp [exsOk, exsOk_append R V d l m, Bool.and_assoc]
theorem exsOk_take (R V d : Int) (l : List Ex) (i : Nat) (h : i < l.length) : exsOk R V d (l.take (i + 1)) = (exsOk R V d (l.take i) && exOk R V d l[i]) := by
  rw [List.take_succ_eq_append_getElem h, exsOk_append]; simp [exsOk]
theorem exsOk_no (R V d : Int) (l : List Ex) (i : Nat) (h : i < l.length) (hn : exOk R V d l[i] = false) : exsOk R V d l = false := by
  rw [← List.take_append_drop (i + 1) l, exsOk_append, exsOk_take R V d l i h, hn]; simp

theorem variableOk_any (R V n : Int) (w : World) :
    Calls Try.prog 59 #[.agg #[.int .i64 R, .int .i64 V], .int .i64 n] w fun e w' => e = .returned (.bool (vOk V n)) ∧ Below w.heap.size w w' := by
  go_enter Try.func59, Try.ntmps59
  go_wp2
  all_goals go_ret
  all_goals exact ⟨ret_bool (by simp [vOk]; omega), (Below.refl _ _).alloc (Nat.le_refl _) _⟩
theorem placeOk_any (R V n b : Int) (w : World) :
    Calls Try.prog 60 #[.agg #[.int .i64 R, .int .i64 V], .int .i64 n, .int .i64 b] w fun e w' => e = .returned (.bool (plOk R V n b)) ∧ Below w.heap.size w w' := by
  go_enter Try.func60, Try.ntmps60
  go_wp2_with (go_at_call 59; refine (variableOk_any R V b _).mono ?_; rintro e1 w1 ⟨rfl, bel1⟩)
  all_goals go_ret
  all_goals refine ⟨ret_bool ?_, by first | exact (Below.refl _ _).alloc (Nat.le_refl _) _ | exact below_new bel1⟩
  · simp [plOk, *]
  · clear bel1; simp [plOk, *]
  · simp [plOk]; omega
  · simp [plOk]; omega
set_option maxHeartbeats 1000000 in
theorem operationOk_any (s : ByteArray) (w : World) :
    Calls Try.prog 58 #[.string s] w fun e w' => e = .returned (.bool (opL s.toList)) ∧ w' = w := by
  go_enter Try.func58, Try.ntmps58
  go_wp2
  all_goals first | (simp_all; done) | skip
  all_goals go_ret
  all_goals refine ⟨ret_bool ?_, rfl⟩
  all_goals simp only [opL, *, Bool.true_or, Bool.or_true, Bool.or_false]

theorem beq0 (m : Nat) : ((m : Int) == 0) = decide (m = 0) := by rw [Bool.eq_iff_iff]; simp
theorem beq1 (m : Nat) : ((m : Int) == 1) = decide (m = 1) := by rw [Bool.eq_iff_iff]; simp; omega
theorem beq2 (m : Nat) : ((m : Int) == 2) = decide (m = 2) := by rw [Bool.eq_iff_iff]; simp; omega
set_option maxHeartbeats 2000000 in
theorem expFieldsOk_any (R V k n b : Int) (t : ByteArray) (a : Option Addr) (m cap : Nat) (w : World) :
    Calls Try.prog 55 #[.agg #[.int .i64 R, .int .i64 V], .agg #[.int .i64 k, .int .i64 n, .int .i64 b, .string t, .slice a m cap]] w fun e w' => e = .returned (.bool (fldOk R V k n b t m)) ∧ Below w.heap.size w w' := by
  by_cases h3 : k = 3
  · subst h3
    go_enter Try.func55, Try.ntmps55
    go_wp2_with (go_at_call 58; refine (operationOk_any t _).mono ?_; rintro e1 w1 ⟨rfl, rfl⟩)
    all_goals go_ret
    all_goals refine ⟨ret_bool ?_, by first | exact below2 w _ _⟩
    all_goals first | (simp [fldOk, *]; done) | (rw [beq0]; simp [fldOk, *]; done) | (rw [beq1]; simp [fldOk, *]; done) | (rw [beq2]; simp [fldOk, *]; done) | (simp [fldOk, *]; omega)
  · by_cases ht : t.toList = []
    · by_cases h0 : k = 0
      · subst h0
        go_enter Try.func55, Try.ntmps55
        go_wp2
        all_goals go_ret
        all_goals refine ⟨ret_bool ?_, by first | exact below2 w _ _⟩
        all_goals first | (simp [fldOk, *]; done) | (rw [beq0]; simp [fldOk, *]; done) | (rw [beq1]; simp [fldOk, *]; done) | (rw [beq2]; simp [fldOk, *]; done) | (simp [fldOk, *]; omega)
      · by_cases h1 : k = 1
        · subst h1
          go_enter Try.func55, Try.ntmps55
          go_wp2_with (go_at_call 59; refine (variableOk_any R V n _).mono ?_; rintro e1 w1 ⟨rfl, bel1⟩; obtain ⟨q1, q2, hz, hw⟩ := two bel1; have c2 := (cells_of q2).1 2; have c4 := (cells_of q2).1 4; simp at c2 c4; clear q1 q2 bel1 hz; have HW := hideP hw; clear hw)
          all_goals go_ret
          all_goals refine ⟨ret_bool ?_, HW.out⟩
          all_goals first | (simp [fldOk, *]; done) | (rw [beq0]; simp [fldOk, *]; done) | (rw [beq1]; simp [fldOk, *]; done) | (rw [beq2]; simp [fldOk, *]; done) | (simp [fldOk, *]; omega)
        · by_cases h2 : k = 2
          · subst h2
            go_enter Try.func55, Try.ntmps55
            go_wp2_with (go_at_call 60; refine (placeOk_any R V n b _).mono ?_; rintro e1 w1 ⟨rfl, bel1⟩; obtain ⟨q1, q2, hz, hw⟩ := two bel1; have c4 := (cells_of q2).1 4; simp at c4; clear q1 q2 bel1 hz; have HW := hideP hw; clear hw)
            all_goals go_ret
            all_goals refine ⟨ret_bool ?_, HW.out⟩
            all_goals first | (simp [fldOk, *]; done) | (rw [beq0]; simp [fldOk, *]; done) | (rw [beq1]; simp [fldOk, *]; done) | (rw [beq2]; simp [fldOk, *]; done) | (simp [fldOk, *]; omega)
          · by_cases h4 : k = 4
            · subst h4
              go_enter Try.func55, Try.ntmps55
              go_wp2
              all_goals go_ret
              all_goals refine ⟨ret_bool ?_, by first | exact below2 w _ _⟩
              all_goals first | (simp [fldOk, *]; done) | (rw [beq0]; simp [fldOk, *]; done) | (rw [beq1]; simp [fldOk, *]; done) | (rw [beq2]; simp [fldOk, *]; done) | (simp [fldOk, *]; omega)
            · go_enter Try.func55, Try.ntmps55
              go_wp2
              all_goals go_ret
              all_goals refine ⟨ret_bool ?_, by first | exact below2 w _ _⟩
              all_goals first | (simp [fldOk, *]; done) | (rw [beq0]; simp [fldOk, *]; done) | (rw [beq1]; simp [fldOk, *]; done) | (rw [beq2]; simp [fldOk, *]; done) | (simp [fldOk, *]; omega)
    · have hti : t.toList.isEmpty = false := by simpa using ht
      go_enter Try.func55, Try.ntmps55
      go_wp2
      all_goals go_ret
      all_goals refine ⟨ret_bool ?_, by first | exact below2 w _ _⟩
      all_goals first | (simp [fldOk, *]; done) | (rw [beq0]; simp [fldOk, *]; done) | (rw [beq1]; simp [fldOk, *]; done) | (rw [beq2]; simp [fldOk, *]; done) | (simp [fldOk, *]; omega)
end Go.Proofs.Ytfoaplihindeaag
