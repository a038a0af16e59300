/- The contract of impl.Blocks. -/
import Derived.Test.YtooaoankloocmabOrderK
import Derived.Test.YtooaoankloocmabAscK
import Derived.Test.YtooaoankloocmabOrdPA
namespace Go.Proofs.Ytooaoankloocmab
open Go.ChangeShapes Go.WideShapes Go.ChangeAt Go.RowKit
set_option maxHeartbeats 1000000 in
theorem impl_blocks (g : Gr) (w : World) (B : Nat) (v : Array Value) (h : GrIs w B v g) (GO : OkIs 25 g) :
    Calls Try.prog 37 #[.agg v] w fun en w' => ∃ v', en = .returned v' ∧ OwnI w' w.heap.size v' (blocksP g) ∧ Below w.heap.size w w' := by
  have OR := hideP (fun o => impl_order g (w.alloc o) B v (GrKeeps.stays h ((Below.refl _ _).alloc (Nat.le_refl _) o)) GO)
  have hlen : Hid ((orderP g).length ≤ 300) := orderP_few g
  have E : Hid (ascP (orderP g) = blocksP g) := ascP_eq _ _ (fun _ => Iff.rfl)
  obtain ⟨l, hl⟩ : ∃ l, orderP g = l := ⟨_, rfl⟩
  obtain ⟨r, hr⟩ : ∃ r, blocksP g = r := ⟨_, rfl⟩
  rw [hr] at E ⊢
  rw [hl] at OR hlen E
  clear hl hr GO
  obtain ⟨sizes, params, vars, slots, blocks⟩ := g
  obtain ⟨us, cs, ub, cb, rfl, _⟩ := h
  simp only at *
  go_enter Try.func37, Try.ntmps37
  go_wp2_with fail
  refine (OR.out _).mono ?_
  rintro e1 w1 ⟨v1, rfl, o1, bel1⟩
  have hw := below_new bel1
  obtain ⟨g1, c1, rfl, _⟩ := id o1
  have O1 := hideP (o1.mono (show w.heap.size ≤ _ by simp))
  clear o1 bel1
  go_wp2_with fail
  refine (ascending_any l _ _ _ O1.out (by have := hlen.out; omega)).mono ?_
  rintro e2 w2 ⟨v2, rfl, o2, g2, hg2, hg2', but2⟩
  have hb2 := hw.trans (but2.below (by have := (O1.out.low g2 hg2).1; exact this) hw.size)
  rw [E.out] at o2
  obtain ⟨g3, c3, rfl, _⟩ := id o2
  have O2 := hideP o2
  clear o2 but2
  go_wp2
  go_ret
  exact ⟨_, rfl, O2.out, hb2⟩
end Go.Proofs.Ytooaoankloocmab
