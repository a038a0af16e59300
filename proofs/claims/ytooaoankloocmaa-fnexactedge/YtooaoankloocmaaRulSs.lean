/- spec.Rules and impl.Rules, as the law holds them. -/
import Derived.Test.YtooaoankloocmaaMkSS
import Derived.Test.YtooaoankloocmaaRulI
import Derived.Test.YtooaoankloocmaaRlrP
namespace Go.Proofs.Ytooaoankloocmaa
open Go.ChangeShapes Go.WideShapes Go.ChangeAt Go.RowKit
theorem LlAt.ss {W : World} {B : Nat} {v : Value} {rows : List (Nat × Nat × Nat)} {ls : List (List Int)} (h : LlAt W B v rows ls) : SsAt W B v ls.length (fun t => ls.getD t []) := by
  obtain ⟨ga, cap, cur, hv, hB, hh, hc, hm, hs, hx⟩ := h.own.parts LsOk
  refine ⟨ga, cap, fun t => if ht : t < rows.length then .slice (some ⟨(rows[t]).1, 0, none⟩) (rows[t]).2.1 (rows[t]).2.2 else .slice none 0 0, by rw [hv, h.len], hB, ⟨cur, hh, fun t ht => ?_⟩, fun t ht => ?_, fun t u ht hu htu g hg => ?_⟩
  · have hr : t < rows.length := by rw [h.len]; exact ht
    have := hx t hr 0 (by show 0 < 1; decide)
    rw [dif_pos hr]
    simpa [LsE] using this
  · have hr : t < rows.length := by rw [h.len]; exact ht
    rw [dif_pos hr]
    exact Or.inr (h.each t hr)
  · have hr : t < rows.length := by rw [h.len]; exact ht
    have hr2 : u < rows.length := by rw [h.len]; exact hu
    rw [dif_pos hr] at hg
    rw [dif_pos hr2]
    have e1 : (rows[t]).1 = g := by simpa [Value.ownBlock] using hg
    intro e2
    have e3 : (rows[u]).1 = g := by simpa [Value.ownBlock] using e2
    exact h.dis t u hr hr2 htu (e1.trans e3.symm)
theorem spec_rulesSs (g : Gr) (w : World) (B : Nat) (v : Array Value) (h : GrIs w B v g) (GO : OkIs 36 g) :
    Calls Try.prog 10 #[.agg v] w fun en w' => ∃ v', en = .returned v' ∧ SsAt w' w.heap.size v' (rulesP g).length (fun t => (rulesP g).getD t []) ∧ Below w.heap.size w w' := by
  refine (spec_rulesL g w B v h GO).mono ?_
  rintro en w' ⟨v', rows, rfl, hl, hb⟩
  obtain ⟨ga, cap, av, hv, hs⟩ := hl.ss
  exact ⟨v', rfl, ⟨ga, cap, av, hv, hs.mono (Nat.le_succ _)⟩, hb⟩
theorem impl_rulesSs (g : Gr) (w : World) (B : Nat) (v : Array Value) (h : GrIs w B v g) (GO : OkIs 65 g) :
    Calls Try.prog 12 #[.agg v] w fun en w' => ∃ v', en = .returned v' ∧ SsAt w' w.heap.size v' (rulesP g).length (fun t => (rulesP g).getD t []) ∧ Below w.heap.size w w' := by
  refine (impl_rules g w B v h GO).mono ?_
  rintro en w' (⟨hy, ga, av, rfl, ha, hg, hb⟩ | ⟨hy, ga, av, rfl, ha, hg, hb⟩)
  · have e : rulesP g = [] := by unfold rulesP; rw [if_neg (by rw [hy]; simp)]
    rw [e]
    exact ⟨_, rfl, ⟨ga, 0, av, rfl, (SsP.of_ah ha hg).congr (fun t ht => absurd ht (Nat.not_lt_zero _))⟩, hb⟩
  · have e : (rulesP g).length = g.blocks.length := by unfold rulesP; rw [if_pos hy, rulUp_len]
    rw [e]
    exact ⟨_, rfl, ⟨ga, _, av, rfl, (SsP.of_ah ha hg).congr (fun t ht => (rulesP_get hy ht).symm)⟩, hb⟩
theorem offS_few {f : Nat → List Int} {m : Nat} (h : ∀ t, (f t).length ≤ m) : ∀ n, offS f n ≤ n * m
  | 0 => by simp [offS]
  | n + 1 => by
    have := offS_few h n
    have := h n
    simp only [offS]
    rw [Nat.succ_mul]
    omega
theorem rulesP_off (g : Gr) : offS (fun t => (rulesP g).getD t []) (rulesP g).length ≤ 10000000 := by
  have h1 := offS_few (f := fun t => (rulesP g).getD t []) (fun t => rulesP_short g t) (rulesP g).length
  have h2 := rulesP_few g
  have h3 := Nat.mul_le_mul_right 300 h2
  omega
end Go.Proofs.Ytooaoankloocmaa
