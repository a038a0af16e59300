/- When two words, two images are alike, as functions; one word held against another. -/
import Derived.Test.YtfoelnblnfcaiaaImageD
import Derived.Test.YtfoelnblnfcaiaaIntsEq
import Derived.Laws.StructEq
namespace Go.Proofs.Ytfoelnblnfcaiaa
open Go.ChangeShapes Go.WideShapes Go.ChangeAt Go.RowKit
def all2W {α β : Type} (f : α → β → Bool) : List α → List β → Bool
  | [], [] => true
  | a :: l, b :: m => f a b && all2W f l m
  | _, _ => false
theorem all2_stepW {α β : Type} (f : α → β → Bool) {l : List α} {m : List β} {j : Nat} (h1 : j < l.length) (h2 : j < m.length) : all2W f (l.drop j) (m.drop j) = (f l[j] m[j] && all2W f (l.drop (j + 1)) (m.drop (j + 1))) := by
  rw [List.drop_eq_getElem_cons h1, List.drop_eq_getElem_cons h2]; rfl
theorem all2_neW {α β : Type} (f : α → β → Bool) : ∀ (l : List α) (m : List β), l.length ≠ m.length → all2W f l m = false
  | [], [], h => absurd rfl h
  | [], _ :: _, _ => rfl
  | _ :: _, [], _ => rfl
  | a :: l, b :: m, h => by
    have := all2_neW f l m (by simpa using h)
    simp [all2W, this]
theorem all2_endW {α β : Type} (f : α → β → Bool) (l : List α) (m : List β) (h : l.length = m.length) : all2W f (l.drop l.length) (m.drop l.length) = true := by
  rw [List.drop_of_length_le (Nat.le_refl _), List.drop_of_length_le (by omega)]; rfl
def wrdB (x y : Wrd) : Bool := x.op == y.op && (x.r == y.r && (x.a == y.a && (x.b == y.b && x.n == y.n)))
def imgB (x y : Img) : Bool := (x.sizes == y.sizes) && (x.params == y.params && (x.slots == y.slots && all2W wrdB x.code y.code))
theorem structW : Try.prog.underlying 44 = some (.struct (Try.prog.fieldsOf 44)) := by unfold Program.fieldsOf; rw [Try.underlying44]
theorem stoodW : Try.prog.stoodInHeld 44 = false := by kernel_rfl
theorem partW (xs : Array Value) (i : Nat) (v : Value) (h : xs[i]? = some v) (w : World) : (part 3 xs i).run Try.prog w = .ok v w := by
  simp [part, Try.isAgg3, h]
theorem eqIW (d : Nat) (a b : Int) (w : World) : (Op.equalIn (d + 1) 3 (.int .i64 a) (.int .i64 b)).run Try.prog w = .ok (a == b) w := run_equalIn_int w d 3 .i64 .i64 a b Try.underlying3
/-- Five fields, one behind the other. -/
theorem eqWrd (x y : Wrd) (w : World) :
    (Op.equalIn 10000 44 (.agg #[.int .i64 x.op, .int .i64 x.r, .int .i64 x.a, .int .i64 x.b, .int .i64 x.n]) (.agg #[.int .i64 y.op, .int .i64 y.r, .int .i64 y.a, .int .i64 y.b, .int .i64 y.n])).run Try.prog w = .ok (wrdB x y) w := by
  obtain ⟨a0, a1, a2, a3, a4⟩ := x
  obtain ⟨b0, b1, b2, b3, b4⟩ := y
  refine Eq.trans (run_equalIn_struct w 9999 44 _ _ structW stoodW) ?_
  unfold Program.fieldsOf
  rw [Try.underlying44]
  have eI := fun a b => eqIW 9998 a b w
  simp only [Op.eqFields, wrdB]
  by_cases h0 : a0 = b0
  · by_cases h1 : a1 = b1
    · by_cases h2 : a2 = b2
      · by_cases h3 : a3 = b3
        · by_cases h4 : a4 = b4
          · simp [partW, eI, h0, h1, h2, h3, h4]
          · simp [partW, eI, h0, h1, h2, h3, h4]
        · simp [partW, eI, h0, h1, h2, h3]
      · simp [partW, eI, h0, h1, h2]
    · simp [partW, eI, h0, h1]
  · simp [partW, eI, h0]
theorem gdW : Try.prog.eqGuardType Try.prog.depth 44 = false := by kernel_rfl
end Go.Proofs.Ytfoelnblnfcaiaa
