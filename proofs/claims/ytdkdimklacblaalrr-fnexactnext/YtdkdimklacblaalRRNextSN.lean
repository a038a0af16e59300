/- The contract of spec.Next. -/
import Derived.Test.YtdkdimklacblaalRRNextS
namespace Go.Proofs.YtdkdimklacblaalRR
open Go.ChangeShapes Go.WideShapes Go.ChangeAt Go.RowKit
theorem spec_next (x : Blk) (w : World) (B : Nat) (v : Array Value) (h : BlkIs w B v x) :
    Calls Try.prog 8 #[.agg v] w fun en w' => ∃ v', en = .returned v' ∧ OwnI w' w.heap.size v' (nextP x) ∧ Below w.heap.size w w' := by
  have H := hideP (fun o => spec_l05Next x (w.alloc o) B v (BlkKeeps.stays h ((Below.refl _ _).alloc (Nat.le_refl _) o)))
  obtain ⟨l, hl⟩ : ∃ l, nextP x = l := ⟨_, rfl⟩
  rw [hl] at H ⊢
  obtain ⟨code, jump, a, to, els⟩ := x
  obtain ⟨ua, ca, rfl, _⟩ := h
  clear hl
  go_enter Try.func8, Try.ntmps8
  go_wp2_with fail
  refine (H.out _).mono ?_
  rintro e1 w1 ⟨v1, rfl, o1, bel1⟩
  have hb := below_new bel1
  obtain ⟨g1, c1, rfl, _⟩ := id o1
  have O1 := hideP (o1.mono (show w.heap.size ≤ _ by simp))
  clear o1 bel1
  go_wp2
  go_ret
  exact ⟨_, rfl, O1.out, hb⟩
end Go.Proofs.YtdkdimklacblaalRR
