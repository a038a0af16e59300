/- spec.Edge and impl.Edge, as the law holds them. -/
import Derived.Test.YtooaoankloocmaaRulSs
import Derived.Test.YtooaoankloocmaaEdgS
import Derived.Test.YtooaoankloocmaaEdgJ
namespace Go.Proofs.Ytooaoankloocmaa
open Go.ChangeShapes Go.WideShapes Go.ChangeAt Go.RowKit
theorem spec_edgeSs (g : Gr) (w : World) (B : Nat) (v : Array Value) (h : GrIs w B v g) (GO : OkIs 36 g) :
    Calls Try.prog 25 #[.agg v] w fun en w' => ∃ v', en = .returned v' ∧ SsAt w' w.heap.size v' (edgeP g).length (fun t => (edgeP g).getD t []) ∧ Below w.heap.size w w' := by
  refine (spec_edge g w B v h GO).mono ?_
  rintro en w' ⟨v', rows, rfl, hl, hb⟩
  obtain ⟨ga, cap, av, hv, hs⟩ := hl.ss
  exact ⟨v', rfl, ⟨ga, cap, av, hv, hs.mono (Nat.le_succ _)⟩, hb⟩
theorem impl_edgeSs (g : Gr) (w : World) (B : Nat) (v : Array Value) (h : GrIs w B v g) (GO : OkIs 65 g) :
    Calls Try.prog 26 #[.agg v] w fun en w' => ∃ v', en = .returned v' ∧ SsAt w' w.heap.size v' (edgeP g).length (fun t => (edgeP g).getD t []) ∧ Below w.heap.size w w' := by
  refine (impl_edge g w B v h GO).mono ?_
  rintro en w' (⟨hy, ga, av, rfl, ha, hg, hb⟩ | ⟨hy, ga, av, rfl, ha, hg, hb⟩)
  · have e : edgeP g = [] := by unfold edgeP; rw [if_neg (by rw [hy]; simp)]
    rw [e]
    exact ⟨_, rfl, ⟨ga, 0, av, rfl, (SsP.of_ah ha hg).congr (fun t ht => absurd ht (Nat.not_lt_zero _))⟩, hb⟩
  · have e : (edgeP g).length = g.blocks.length := by unfold edgeP; rw [if_pos hy, edgUp_len]
    rw [e]
    exact ⟨_, rfl, ⟨ga, _, av, rfl, (SsP.of_ah ha hg).congr (fun t ht => (edgeP_get hy ht).symm)⟩, hb⟩
theorem edgeP_off (g : Gr) : offS (fun t => (edgeP g).getD t []) (edgeP g).length ≤ 10000000 := by
  have h1 := offS_few (f := fun t => (edgeP g).getD t []) (fun t => edgeP_short g t) (edgeP g).length
  have h2 := edgeP_few g
  have h3 := Nat.mul_le_mul_right 300 h2
  omega
end Go.Proofs.Ytooaoankloocmaa
