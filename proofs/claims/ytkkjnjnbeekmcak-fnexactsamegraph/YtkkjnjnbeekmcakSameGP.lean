/- When two steps, blocks, graphs are alike, as functions; one step held against another. -/
import Derived.Test.YtkkjnjnbeekmcakGraphD
import Derived.Test.YtkkjnjnbeekmcakIntsEq
namespace Go.Proofs.Ytkkjnjnbeekmcak
open Go.ChangeShapes Go.WideShapes Go.ChangeAt Go.RowKit
def all2 {α β : Type} (f : α → β → Bool) : List α → List β → Bool
  | [], [] => true
  | a :: l, b :: m => f a b && all2 f l m
  | _, _ => false
theorem all2_step {α β : Type} (f : α → β → Bool) {l : List α} {m : List β} {j : Nat} (h1 : j < l.length) (h2 : j < m.length) : all2 f (l.drop j) (m.drop j) = (f l[j] m[j] && all2 f (l.drop (j + 1)) (m.drop (j + 1))) := by
  rw [List.drop_eq_getElem_cons h1, List.drop_eq_getElem_cons h2]; rfl
theorem all2_ne {α β : Type} (f : α → β → Bool) : ∀ (l : List α) (m : List β), l.length ≠ m.length → all2 f l m = false
  | [], [], h => absurd rfl h
  | [], _ :: _, _ => rfl
  | _ :: _, [], _ => rfl
  | a :: l, b :: m, h => by
    have := all2_ne f l m (by simpa using h)
    simp [all2, this]
theorem all2_end {α β : Type} (f : α → β → Bool) (l : List α) (m : List β) (h : l.length = m.length) : all2 f (l.drop l.length) (m.drop l.length) = true := by
  rw [List.drop_of_length_le (Nat.le_refl _), List.drop_of_length_le (by omega)]; rfl
def insB (x y : Ins) : Bool := x.op == y.op && (x.d == y.d && (x.a == y.a && (x.b == y.b && (x.c == y.c && (x.n == y.n && x.t.toList == y.t.toList)))))
def blkB (x y : Blk) : Bool := all2 insB x.code y.code && (x.jump == y.jump && (x.a == y.a && (x.to == y.to && x.els == y.els)))
def grB (x y : Gr) : Bool := (x.sizes == y.sizes) && (x.params == y.params && (x.vars == y.vars && (x.slots == y.slots && all2 blkB x.blocks y.blocks)))
theorem structI : Try.prog.underlying 42 = some (.struct (Try.prog.fieldsOf 42)) := by unfold Program.fieldsOf; rw [Try.underlying42]
theorem stoodI : Try.prog.stoodInHeld 42 = false := by kernel_rfl
theorem partI (xs : Array Value) (i : Nat) (v : Value) (h : xs[i]? = some v) (w : World) : (part 3 xs i).run Try.prog w = .ok v w := by
  simp [part, Try.isAgg3, h]
theorem partT (xs : Array Value) (i : Nat) (v : Value) (h : xs[i]? = some v) (w : World) : (part 9 xs i).run Try.prog w = .ok v w := by
  simp [part, Try.isAgg9, h]
theorem eqI (d : Nat) (a b : Int) (w : World) : (Op.equalIn (d + 1) 3 (.int .i64 a) (.int .i64 b)).run Try.prog w = .ok (a == b) w := run_equalIn_int w d 3 .i64 .i64 a b Try.underlying3
theorem eqT (d : Nat) (a b : ByteArray) (w : World) : (Op.equalIn (d + 1) 9 (.string a) (.string b)).run Try.prog w = .ok (a.toList == b.toList) w := run_equalIn_string w d 9 a b Try.underlying9
/-- Seven fields, one behind the other. -/
theorem eqIns (x y : Ins) (w : World) :
    (Op.equalIn 10000 42 (.agg #[.int .i64 x.op, .int .i64 x.d, .int .i64 x.a, .int .i64 x.b, .int .i64 x.c, .int .i64 x.n, .string x.t]) (.agg #[.int .i64 y.op, .int .i64 y.d, .int .i64 y.a, .int .i64 y.b, .int .i64 y.c, .int .i64 y.n, .string y.t])).run Try.prog w = .ok (insB x y) w := by
  obtain ⟨a0, a1, a2, a3, a4, a5, s⟩ := x
  obtain ⟨b0, b1, b2, b3, b4, b5, t⟩ := y
  refine Eq.trans (run_equalIn_struct w 9999 42 _ _ structI stoodI) ?_
  unfold Program.fieldsOf
  rw [Try.underlying42]
  have eI := fun a b => eqI 9998 a b w
  have eT := fun a b => eqT 9998 a b w
  simp only [Op.eqFields, insB]
  by_cases h0 : a0 = b0
  · by_cases h1 : a1 = b1
    · by_cases h2 : a2 = b2
      · by_cases h3 : a3 = b3
        · by_cases h4 : a4 = b4
          · by_cases h5 : a5 = b5
            · by_cases h6 : s.toList = t.toList
              · simp [partI, partT, eI, eT, h0, h1, h2, h3, h4, h5, h6]
              · simp [partI, partT, eI, eT, h0, h1, h2, h3, h4, h5, h6]
            · simp [partI, partT, eI, h0, h1, h2, h3, h4, h5]
          · simp [partI, partT, eI, h0, h1, h2, h3, h4]
        · simp [partI, partT, eI, h0, h1, h2, h3]
      · simp [partI, partT, eI, h0, h1, h2]
    · simp [partI, partT, eI, h0, h1]
  · simp [partI, partT, eI, h0]
theorem gdI : Try.prog.eqGuardType Try.prog.depth 42 = false := by kernel_rfl
set_option maxHeartbeats 2000000 in
theorem equalIns_any (xs ys : List Ins) (w : World) (B1 B2 : Nat) (a1 a2 : Option Addr) (c1 c2 : Nat) (h1 : SlIs InsIs 7 w B1 a1 xs) (h2 : SlIs InsIs 7 w B2 a2 ys) :
    Calls Try.prog 33 #[.slice a1 xs.length c1, .slice a2 ys.length c2] w fun en w' => en = .returned (.bool (all2 insB xs ys)) ∧ ∃ q, w' = w.drewN q := by
  have hm := maxLen_lt
  have hl1 := h1.1
  have hl2 := h2.1
  by_cases hne : xs.length = ys.length
  · have H1 := hideP h1
    have H2 := hideP h2
    clear h1 h2
    go_enter Try.func33, Try.ntmps33
    go_wp2
    go_loopw [13] (fun i wr => ∃ j q : Nat, j ≤ xs.length ∧ i = .int .i64 j ∧ wr = w.drewN q ∧ Hid (all2 insB xs ys = all2 insB (xs.drop j) (ys.drop j))) (fun i _ => xs.length - (intOf i).toNat)
    case atStart => exact ⟨0, 0, Nat.zero_le _, rfl, rfl, rfl⟩
    case round =>
      obtain ⟨j, q, hj, rfl, rfl, hs⟩ := hrel
      by_cases hlt : j < xs.length
      · have hlt2 : j < ys.length := by omega
        have st := all2_step insB hlt hlt2
        obtain ⟨b, o, x0, x1, x2, x3, x4, x5, x6, rfl, _, _, hx, p0, p1, p2, p3, p4, p5, p6, _⟩ := Ins_get H1.out j hlt
        obtain ⟨b', o', y0, y1, y2, y3, y4, y5, y6, rfl, _, _, hy, q0, q1, q2, q3, q4, q5, q6, _⟩ := Ins_get H2.out j hlt2
        have EQ0 := fun X => eqIns ⟨x0, x1, x2, x3, x4, x5, x6⟩ ⟨y0, y1, y2, y3, y4, y5, y6⟩ X
        rw [hx, hy] at st
        obtain ⟨r, hr⟩ : ∃ r, insB ⟨x0, x1, x2, x3, x4, x5, x6⟩ ⟨y0, y1, y2, y3, y4, y5, y6⟩ = r := ⟨_, rfl⟩
        rw [hr] at EQ0 st
        simp only at EQ0
        have gd := gdI
        have E := hideP (hs.out.trans st)
        clear hr hx hy st hs
        go_wp2
        go_region
        all_goals
          cases r
          · go_wp2
            go_ret
            exact ⟨ret_bool (by rw [E.out]; rfl), q + 1, rfl⟩
          · go_wp2
            go_roundw
            case rel => exact ⟨j + 1, q + 1, by omega, by go_num, rfl, by show _ = _; rw [E.out]; rfl⟩
            case measure => simp [intOf]; omega
      · have hjn : j = xs.length := by omega
        subst hjn
        have E : Hid (all2 insB xs ys = true) := hs.out.trans (all2_end insB xs ys hne)
        go_wp2
        go_ret
        exact ⟨ret_bool E.out.symm, q, rfl⟩
  · rw [all2_ne insB xs ys hne]
    have hne' : ¬ (xs.length : Int) = (ys.length : Int) := by omega
    clear h1 h2
    go_enter Try.func33, Try.ntmps33
    go_wp2
    go_ret
    exact ⟨rfl, 0, rfl⟩
end Go.Proofs.Ytkkjnjnbeekmcak
