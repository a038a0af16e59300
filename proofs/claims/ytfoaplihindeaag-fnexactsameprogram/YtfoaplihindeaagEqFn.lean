/- The contracts of the function that sameParts hands to slices.EqualFunc, of that one, and of sameParts. -/
import Derived.Test.YtfoaplihindeaagSameP
import Derived.Deep.CutRange
import Derived.Deep.RegionHeld3
namespace Go.Proofs.Ytfoaplihindeaag
open Go.ChangeShapes Go.WideShapes Go.ChangeAt Go.RowKit

theorem outside_any (w : World) (p : Pt) (l : Lab) (hb : p.block < w.heap.size) (h : LabAt w p l) :
    Calls Try.prog 52 #[p.val] w fun e w' => e = .returned (.agg l.out) ∧ Below w.heap.size w w' := by
  cases p with
  | ex b o =>
    cases l with
    | ex k n bs t m => exact outside_ex w b o k n bs t m hb h
    | st k n bs e x y => exact h.elim
  | st b o =>
    cases l with
    | ex k n bs t m => exact h.elim
    | st k n bs e x y => exact outside_st w b o k n bs e x y hb h
theorem structO : Try.prog.underlying 86 = some (.struct (Try.prog.fieldsOf 86)) := by unfold Program.fieldsOf; rw [Try.underlying86]
theorem stoodO : Try.prog.stoodInHeld 86 = false := by kernel_rfl
theorem partI (xs : Array Value) (i : Nat) (v : Value) (h : xs[i]? = some v) (w : World) : (part 3 xs i).run Try.prog w = .ok v w := by
  simp [part, Try.isAgg3, h]
theorem partT (xs : Array Value) (i : Nat) (v : Value) (h : xs[i]? = some v) (w : World) : (part 9 xs i).run Try.prog w = .ok v w := by
  simp [part, Try.isAgg9, h]
theorem eqI (d : Nat) (a b : Int) (w : World) : (Op.equalIn (d + 1) 3 (.int .i64 a) (.int .i64 b)).run Try.prog w = .ok (a == b) w := run_equalIn_int w d 3 .i64 .i64 a b Try.underlying3
theorem eqT (d : Nat) (a b : ByteArray) (w : World) : (Op.equalIn (d + 1) 9 (.string a) (.string b)).run Try.prog w = .ok (a.toList == b.toList) w := run_equalIn_string w d 9 a b Try.underlying9
/-- Eight fields, one behind the other. -/
theorem eq8 (a0 a1 a2 a4 a5 a6 a7 b0 b1 b2 b4 b5 b6 b7 : Int) (s t : ByteArray) (w : World) :
    (Op.equalIn 10000 86 (.agg #[.int .i64 a0, .int .i64 a1, .int .i64 a2, .string s, .int .i64 a4, .int .i64 a5, .int .i64 a6, .int .i64 a7]) (.agg #[.int .i64 b0, .int .i64 b1, .int .i64 b2, .string t, .int .i64 b4, .int .i64 b5, .int .i64 b6, .int .i64 b7])).run Try.prog w =
      .ok (a0 == b0 && (a1 == b1 && (a2 == b2 && (s.toList == t.toList && (a4 == b4 && (a5 == b5 && (a6 == b6 && a7 == b7))))))) w := by
  refine Eq.trans (run_equalIn_struct w 9999 86 _ _ structO stoodO) ?_
  unfold Program.fieldsOf
  rw [Try.underlying86]
  have eI := fun a b => eqI 9998 a b w
  have eT := fun a b => eqT 9998 a b w
  simp only [Op.eqFields]
  by_cases h0 : a0 = b0
  · by_cases h1 : a1 = b1
    · by_cases h2 : a2 = b2
      · by_cases h3 : s.toList = t.toList
        · by_cases h4 : a4 = b4
          · by_cases h5 : a5 = b5
            · by_cases h6 : a6 = b6
              · by_cases h7 : a7 = b7
                · simp [partI, partT, eI, eT, h0, h1, h2, h3, h4, h5, h6, h7]
                · simp [partI, partT, eI, eT, h0, h1, h2, h3, h4, h5, h6, h7]
              · simp [partI, partT, eI, eT, h0, h1, h2, h3, h4, h5, h6]
            · simp [partI, partT, eI, eT, h0, h1, h2, h3, h4, h5]
          · simp [partI, partT, eI, eT, h0, h1, h2, h3, h4]
        · simp [partI, partT, eI, eT, h0, h1, h2, h3]
      · simp [partI, partT, eI, h0, h1, h2]
    · simp [partI, partT, eI, h0, h1]
  · simp [partI, partT, eI, h0]
theorem cb (p q : Nat) : ((p : Int) == (q : Int)) = (p == q) := by rw [Bool.eq_iff_iff]; simp; omega
theorem cb0 (p : Nat) : ((p : Int) == 0) = (p == 0) := by rw [Bool.eq_iff_iff]; simp
theorem cb0' (p : Nat) : (0 == (p : Int)) = (p == 0) := by rw [Bool.eq_iff_iff]; simp; omega
theorem eqOut (l m : Lab) (w : World) : (Op.equalIn 10000 86 (.agg l.out) (.agg m.out)).run Try.prog w = .ok (outEq l m) w := by
  cases l with
  | ex k n b t p =>
    cases m with
    | ex k' n' b' t' p' => rw [Lab.out, Lab.out, eq8]; simp [outEq, Bool.and_assoc, cb]
    | st k' n' b' e x y => rw [Lab.out, Lab.out, eq8]; simp [outEq, Bool.and_assoc, cb0, cb0']
  | st k n b e x y =>
    cases m with
    | ex k' n' b' t' p' => rw [Lab.out, Lab.out, eq8]; simp [outEq, Bool.and_assoc, cb0, cb0']
    | st k' n' b' e' x' y' => rw [Lab.out, Lab.out, eq8]; simp [outEq, Bool.and_assoc, cb]
end Go.Proofs.Ytfoaplihindeaag
