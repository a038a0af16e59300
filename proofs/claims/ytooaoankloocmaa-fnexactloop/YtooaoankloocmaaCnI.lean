/- slices.Contains over a list of pairs. -/
import Derived.Test.YtooaoankloocmaaA2G
import Derived.Test.YtooaoankloocmaaSetAll
import Derived.BigQuiet
import Derived.ChangeKeysEq
namespace Go.Proofs.Ytooaoankloocmaa
open Go.ChangeShapes Go.WideShapes Go.ChangeAt Go.RowKit
theorem eqlA2 (a b c d : Int) (W : World) : (binOp .eql 76 (.agg #[.int .i64 a, .int .i64 b]) (.agg #[.int .i64 c, .int .i64 d])).run Try.prog W = .ok (.bool (decide (a = c) && decide (b = d))) W := by
  obtain ⟨i0, hi, _, hz1, _⟩ := info_parts infoInt
  have hc : Program.cellsOf Try.prog 3 = 1 := by unfold Program.cellsOf; simp [hi, hz1]
  have hmd : Op.maxDepth = (Op.maxDepth - 2) + 1 + 1 := by decide
  have e1 := run_equalIn_array (P := Try.prog) W (Op.maxDepth - 2 + 1) (t := 76) (e := 3) (n := 2) #[.int .i64 a, .int .i64 b] #[.int .i64 c, .int .i64 d] Try.underlying76 hi
  simp only [binOp, Op.equal, Sem.run_bind]
  rw [hmd, e1, hc]
  have hpk : Program.plainKey Try.prog 3 = true := by unfold Program.plainKey; rw [Try.underlying3]
  have p0 := run_part_plain (P := Try.prog) W hpk (xs := #[.int .i64 a, .int .i64 b]) (off := 0) (v := .int .i64 a) rfl
  have p1 := run_part_plain (P := Try.prog) W hpk (xs := #[.int .i64 a, .int .i64 b]) (off := 1) (v := .int .i64 b) rfl
  have q0 := run_part_plain (P := Try.prog) W hpk (xs := #[.int .i64 c, .int .i64 d]) (off := 0) (v := .int .i64 c) rfl
  have q1 := run_part_plain (P := Try.prog) W hpk (xs := #[.int .i64 c, .int .i64 d]) (off := 1) (v := .int .i64 d) rfl
  have i1 := run_equalIn_int (P := Try.prog) W (Op.maxDepth - 2) 3 .i64 .i64 a c Try.underlying3
  have i2 := run_equalIn_int (P := Try.prog) W (Op.maxDepth - 2) 3 .i64 .i64 b d Try.underlying3
  rw [show List.range 2 = [0, 1] from rfl]
  simp only [Op.eqItems, Sem.run_bind, Nat.zero_mul, Nat.one_mul, p0, q0, i1, Result.andThen_ok]
  by_cases h1 : a = c
  · subst h1
    by_cases h2 : b = d
    · subst h2
      simp [p1, i2, Result.andThen]
    · simp [h2, p1, q1, i2, Result.andThen]
  · simp [h1, Result.andThen]
theorem below_drewC (n : Nat) (w : World) (k : Nat) : Below n w (w.drewN k) := ⟨rfl, rfl, rfl, Nat.le_refl _, fun _ _ => rfl⟩
set_option maxRecDepth 100000 in
set_option maxHeartbeats 2000000 in
theorem index_any (l : List (Nat × Nat)) (a b : Int) (w : World) (B : Nat) (v : Value) (h : OwnE A2E w B v l) (hl : l.length ≤ 1000000) :
    Calls Try.prog 75 #[v, .agg #[.int .i64 a, .int .i64 b]] w fun en w' => (∃ i : Int, en = .returned (.int .i64 i) ∧ (0 ≤ i ↔ ∃ p ∈ l, (p.1 : Int) = a ∧ (p.2 : Int) = b)) ∧ Below w.heap.size w w' := by
  obtain ⟨g, cap, hv, _⟩ := id h
  subst hv
  have al := (Below.refl w.heap.size w).alloc (Nat.le_refl _) (.cells #[.int .i64 a, .int .i64 b] 76)
  have H1 := hideP (h.stays al)
  have BX := hideP (newB8 w (.cells #[.int .i64 a, .int .i64 b] 76))
  have AL := hideP al
  have eq := eqlA2
  clear h al
  go_enter Try.func75, Try.ntmps75
  go_wp2
  obtain ⟨W0, hW0⟩ : ∃ W0, w.alloc (.cells #[.int .i64 a, .int .i64 b] 76) = W0 := ⟨_, rfl⟩
  rw [hW0] at H1 BX AL ⊢
  clear hW0
  go_loopg [8] l.length (fun gk ix wr => ∃ i : Nat, gk + i = l.length ∧ ix = .int .i64 i ∧ Hid (Below W0.heap.size W0 wr) ∧ Hid (∀ p ∈ l.take i, ¬ ((p.1 : Int) = a ∧ (p.2 : Int) = b)))
  case atStart => exact ⟨0, by simp, rfl, Below.refl _ _, by show ∀ p ∈ _, _; simp⟩
  case round =>
    obtain ⟨i, hi, rfl, hB, hN⟩ := hrel
    by_cases hil : i < l.length
    · have Hr := H1.out.stays hB.out
      obtain ⟨p, hp⟩ : ∃ p, l[i] = p := ⟨_, rfl⟩
      have c0 := Hr.at A2Ok i hil 0 (by decide)
      have c1 := Hr.at A2Ok i hil 1 (by decide)
      rw [hp] at c0 c1
      simp [A2E] at c0 c1
      have bx := (cells_of ((hB.out.block _ (hltP BX.out)).trans BX.out)).1
      have b0 := bx 0
      have b1 := bx 1
      simp at b0 b1
      clear Hr bx
      have PM : Hid (p ∈ l) := hp ▸ List.getElem_mem hil
      have TK : Hid (l.take (i + 1) = l.take i ++ [p]) := by show _ = _; rw [List.take_succ_eq_append_getElem hil, hp]
      by_cases hq : a = (p.1 : Int) ∧ b = (p.2 : Int)
      · have hd : (decide (a = (p.1 : Int)) && decide (b = (p.2 : Int))) = true := by simp [hq]
        have eq2 : ∀ W : World, (binOp .eql 76 (.agg #[.int .i64 a, .int .i64 b]) (.agg #[.int .i64 (p.1 : Int), .int .i64 (p.2 : Int)])).run Try.prog W = .ok (.bool true) W := fun W => by rw [← hd]; exact eqlA2 _ _ _ _ W
        have RES : Hid (0 ≤ (i : Int) ↔ ∃ p ∈ l, (p.1 : Int) = a ∧ (p.2 : Int) = b) := ⟨fun _ => ⟨p, PM.out, hq.1.symm, hq.2.symm⟩, fun _ => by omega⟩
        clear eq hd hq hp
        go_upto_region 4 with fail
        go_quiet (fail)
        go_wp2
        go_ret
        exact ⟨⟨_, rfl, RES.out⟩, (AL.out.trans (hB.out.mono AL.out.size)).trans (below_drewC _ _ _)⟩
      · have hd : (decide (a = (p.1 : Int)) && decide (b = (p.2 : Int))) = false := by
          rw [Bool.and_eq_false_iff, decide_eq_false_iff_not, decide_eq_false_iff_not]
          cases Classical.em (a = (p.1 : Int)) with
          | inl h => exact Or.inr (fun h2 => hq ⟨h, h2⟩)
          | inr h => exact Or.inl h
        have eq2 : ∀ W : World, (binOp .eql 76 (.agg #[.int .i64 a, .int .i64 b]) (.agg #[.int .i64 (p.1 : Int), .int .i64 (p.2 : Int)])).run Try.prog W = .ok (.bool false) W := fun W => by rw [← hd]; exact eqlA2 _ _ _ _ W
        have N2 : Hid (∀ p ∈ l.take (i + 1), ¬ ((p.1 : Int) = a ∧ (p.2 : Int) = b)) := fun z hz => by
          rw [TK.out] at hz
          rcases List.mem_append.1 hz with hz | hz
          · exact hN.out z hz
          · rw [List.mem_singleton.1 hz]; exact fun h => hq ⟨h.1.symm, h.2.symm⟩
        clear eq hd hq hp
        go_upto_region 4 with fail
        go_quiet (fail)
        go_wp2
        go_roundg (l.length - (i + 1))
        case rel => exact ⟨i + 1, by omega, by go_num, hB.out.trans (below_drewC _ _ _), N2.out⟩
        case measure => omega
    · have hin : i = l.length := by omega
      subst hin
      have RES : Hid (0 ≤ (-1 : Int) ↔ ∃ p ∈ l, (p.1 : Int) = a ∧ (p.2 : Int) = b) := ⟨fun h => by omega, fun ⟨p, hp, h⟩ => absurd h (hN.out p (by rw [List.take_length]; exact hp))⟩
      clear eq
      go_wp2
      go_ret
      exact ⟨⟨_, rfl, RES.out⟩, AL.out.trans (hB.out.mono AL.out.size)⟩
set_option maxRecDepth 100000 in
set_option maxHeartbeats 2000000 in
open Classical in
theorem contains_any (l : List (Nat × Nat)) (a b : Int) (w : World) (B : Nat) (v : Value) (h : OwnE A2E w B v l) (hl : l.length ≤ 1000000) :
    Calls Try.prog 57 #[v, .agg #[.int .i64 a, .int .i64 b]] w fun en w' => en = .returned (.bool (decide (∃ p ∈ l, (p.1 : Int) = a ∧ (p.2 : Int) = b))) ∧ Below w.heap.size w w' := by
  obtain ⟨g, cap, hv, _⟩ := id h
  subst hv
  have al := (Below.refl w.heap.size w).alloc (Nat.le_refl _) (.cells #[.int .i64 a, .int .i64 b] 76)
  have CI := hideP (index_any l a b _ B _ (h.stays al) hl)
  have AL := hideP al
  have RQ : Hid (∀ (y : Int) (w' : World), (0 ≤ y ↔ ∃ p ∈ l, (p.1 : Int) = a ∧ (p.2 : Int) = b) → (Ending.returned (.bool (decide (0 ≤ y))) = .returned (.bool (decide (∃ p ∈ l, (p.1 : Int) = a ∧ (p.2 : Int) = b))))) := fun y _ h => by rw [decide_eq_decide.2 h]
  clear al h
  go_enter Try.func57, Try.ntmps57
  go_wp2_with fail
  refine CI.out.mono ?_
  rintro e1 w1 ⟨⟨i, rfl, hi⟩, b1⟩
  have R1 := hideP (RQ.out i w1 hi)
  have B1 := hideP (below_trans AL.out b1)
  clear hi b1 CI RQ
  go_wp2
  go_ret
  exact ⟨R1.out, B1.out⟩
end Go.Proofs.Ytooaoankloocmaa
