/- When two words, two images are alike, as functions; one word held against another. -/
import Derived.Test.YtfoelnblnfcaiabImageD
import Derived.Test.YtfoelnblnfcaiabIntsEq
import Derived.Laws.StructEq
namespace Go.Proofs.Ytfoelnblnfcaiab
open Go.ChangeShapes Go.WideShapes Go.ChangeAt Go.RowKit
def all2W {α β : Type} (f : α → β → Bool) : List α → List β → Bool
  | [], [] => true
  | a :: l, b :: m => f a b && all2W f l m
  | _, _ => false
theorem all2_stepW {α β : Type} (f : α → β → Bool) {l : List α} {m : List β} {j : Nat} (h1 : j < l.length) (h2 : j < m.length) : all2W f (l.drop j) (m.drop j) = (f l[j] m[j] && all2W f (l.drop (j + 1)) (m.drop (j + 1))) := by
  rw [List.drop_eq_getElem_cons h1, List.drop_eq_getElem_cons h2]; rfl
theorem all2_neW {α β : Type} (f : α → β → Bool) : ∀ (l : List α) (m : List β), l.length ≠ m.length → all2W f l m = false
  | [], [], h => absurd rfl h
  | [], _ :: _, _ => rfl
  | _ :: _, [], _ => rfl
  | a :: l, b :: m, h => by
    have := all2_neW f l m (by simpa using h)
    simp [all2W, this]
theorem all2_endW {α β : Type} (f : α → β → Bool) (l : List α) (m : List β) (h : l.length = m.length) : all2W f (l.drop l.length) (m.drop l.length) = true := by
  rw [List.drop_of_length_le (Nat.le_refl _), List.drop_of_length_le (by omega)]; rfl
def wrdB (x y : Wrd) : Bool := x.op == y.op && (x.r == y.r && (x.a == y.a && (x.b == y.b && x.n == y.n)))
def imgB (x y : Img) : Bool := (x.sizes == y.sizes) && (x.params == y.params && (x.slots == y.slots && all2W wrdB x.code y.code))
theorem structW : Try.prog.underlying 37 = some (.struct (Try.prog.fieldsOf 37)) := by unfold Program.fieldsOf; rw [Try.underlying37]
theorem stoodW : Try.prog.stoodInHeld 37 = false := by kernel_rfl
theorem partW (xs : Array Value) (i : Nat) (v : Value) (h : xs[i]? = some v) (w : World) : (part 3 xs i).run Try.prog w = .ok v w := by
  simp [part, Try.isAgg3, h]
theorem eqIW (d : Nat) (a b : Int) (w : World) : (Op.equalIn (d + 1) 3 (.int .i64 a) (.int .i64 b)).run Try.prog w = .ok (a == b) w := run_equalIn_int w d 3 .i64 .i64 a b Try.underlying3
/-- Five fields, one behind the other. -/
theorem eqWrd (x y : Wrd) (w : World) :
    (Op.equalIn 10000 37 (.agg #[.int .i64 x.op, .int .i64 x.r, .int .i64 x.a, .int .i64 x.b, .int .i64 x.n]) (.agg #[.int .i64 y.op, .int .i64 y.r, .int .i64 y.a, .int .i64 y.b, .int .i64 y.n])).run Try.prog w = .ok (wrdB x y) w := by
  obtain ⟨a0, a1, a2, a3, a4⟩ := x
  obtain ⟨b0, b1, b2, b3, b4⟩ := y
  refine Eq.trans (run_equalIn_struct w 9999 37 _ _ structW stoodW) ?_
  unfold Program.fieldsOf
  rw [Try.underlying37]
  have eI := fun a b => eqIW 9998 a b w
  simp only [Op.eqFields, wrdB]
  by_cases h0 : a0 = b0
  · by_cases h1 : a1 = b1
    · by_cases h2 : a2 = b2
      · by_cases h3 : a3 = b3
        · by_cases h4 : a4 = b4
          · simp [partW, eI, h0, h1, h2, h3, h4]
          · simp [partW, eI, h0, h1, h2, h3, h4]
        · simp [partW, eI, h0, h1, h2, h3]
      · simp [partW, eI, h0, h1, h2]
    · simp [partW, eI, h0, h1]
  · simp [partW, eI, h0]
theorem gdW : Try.prog.eqGuardType Try.prog.depth 37 = false := by kernel_rfl
set_option maxHeartbeats 2000000 in
theorem equalWrd_any (xs ys : List Wrd) (w : World) (B1 B2 : Nat) (a1 a2 : Option Addr) (c1 c2 : Nat) (h1 : SlIs WrdIs 5 w B1 a1 xs) (h2 : SlIs WrdIs 5 w B2 a2 ys) :
    Calls Try.prog 15 #[.slice a1 xs.length c1, .slice a2 ys.length c2] w fun en w' => en = .returned (.bool (all2W wrdB xs ys)) ∧ ∃ q, w' = w.drewN q := by
  have hm := maxLen_lt
  have hl1 := h1.1
  have hl2 := h2.1
  by_cases hne : xs.length = ys.length
  · have H1 := hideP h1
    have H2 := hideP h2
    clear h1 h2
    go_enter Try.func15, Try.ntmps15
    go_wp2
    go_loopw [13] (fun i wr => ∃ j q : Nat, j ≤ xs.length ∧ i = .int .i64 j ∧ wr = w.drewN q ∧ Hid (all2W wrdB xs ys = all2W wrdB (xs.drop j) (ys.drop j))) (fun i _ => xs.length - (intOf i).toNat)
    case atStart => exact ⟨0, 0, Nat.zero_le _, rfl, rfl, rfl⟩
    case round =>
      obtain ⟨j, q, hj, rfl, rfl, hs⟩ := hrel
      by_cases hlt : j < xs.length
      · have hlt2 : j < ys.length := by omega
        have st := all2_stepW wrdB hlt hlt2
        obtain ⟨b, o, x0, x1, x2, x3, x4, rfl, _, _, hx, p0, p1, p2, p3, p4, _⟩ := Wrd_get H1.out j hlt
        obtain ⟨b', o', y0, y1, y2, y3, y4, rfl, _, _, hy, q0, q1, q2, q3, q4, _⟩ := Wrd_get H2.out j hlt2
        have EQ0 := fun X => eqWrd ⟨x0, x1, x2, x3, x4⟩ ⟨y0, y1, y2, y3, y4⟩ X
        rw [hx, hy] at st
        obtain ⟨r, hr⟩ : ∃ r, wrdB ⟨x0, x1, x2, x3, x4⟩ ⟨y0, y1, y2, y3, y4⟩ = r := ⟨_, rfl⟩
        rw [hr] at EQ0 st
        simp only at EQ0
        have gd := gdW
        have E := hideP (hs.out.trans st)
        clear hr hx hy st hs
        go_wp2
        go_region
        all_goals
          cases r
          · go_wp2
            go_ret
            exact ⟨ret_bool (by rw [E.out]; rfl), q + 1, rfl⟩
          · go_wp2
            go_roundw
            case rel => exact ⟨j + 1, q + 1, by omega, by go_num, rfl, by show _ = _; rw [E.out]; rfl⟩
            case measure => simp [intOf]; omega
      · have hjn : j = xs.length := by omega
        subst hjn
        have E : Hid (all2W wrdB xs ys = true) := hs.out.trans (all2_endW wrdB xs ys hne)
        go_wp2
        go_ret
        exact ⟨ret_bool E.out.symm, q, rfl⟩
  · rw [all2_neW wrdB xs ys hne]
    have hne' : ¬ (xs.length : Int) = (ys.length : Int) := by omega
    clear h1 h2
    go_enter Try.func15, Try.ntmps15
    go_wp2
    go_ret
    exact ⟨rfl, 0, rfl⟩
end Go.Proofs.Ytfoelnblnfcaiab
