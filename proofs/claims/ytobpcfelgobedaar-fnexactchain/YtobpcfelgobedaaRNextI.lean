/- The contract of impl.Next. -/
import Derived.Test.YtobpcfelgobedaaRNextP
namespace Go.Proofs.YtobpcfelgobedaaR
open Go.ChangeShapes Go.WideShapes Go.ChangeAt Go.RowKit
theorem impl_next (x : Blk) (w : World) (B : Nat) (v : Array Value) (h : BlkIs w B v x) :
    Calls Try.prog 40 #[.agg v] w fun en w' => ∃ v', en = .returned v' ∧ OwnI w' w.heap.size v' (nextP x) ∧ Below w.heap.size w w' := by
  obtain ⟨code, jump, a, to, els⟩ := x
  obtain ⟨ua, ca, rfl, _⟩ := h
  by_cases h0 : jump = 0
  · subst h0
    rw [nextP_go]
    go_enter Try.func40, Try.ntmps40
    go_wp2
    go_ret
    exact ⟨_, rfl, own_lit2 w _ [to] _ _ _ rfl rfl rfl (by simp), below2 w _ _⟩
  · by_cases h1 : jump = 1
    · subst h1
      rw [nextP_if]
      go_enter Try.func40, Try.ntmps40
      go_wp2
      go_ret
      exact ⟨_, rfl, own_lit2 w _ [to, els] _ _ _ rfl rfl rfl (by simp), below2 w _ _⟩
    · rw [nextP_none h0 h1]
      go_enter Try.func40, Try.ntmps40
      go_wp2
      go_ret
      exact ⟨_, rfl, own_lit2 w _ [] _ _ _ rfl rfl rfl (by simp), below2 w _ _⟩
end Go.Proofs.YtobpcfelgobedaaR
