/- Figures made anew: the contract of impl.Fold's closure; what a right graph's steps name. -/
import Derived.Test.YtjmclmbepnbeoaaFigJ
import Derived.Test.YtjmclmbepnbeoaaChAll
import Derived.Test.YtjmclmbepnbeoaaShD
namespace Go.Proofs.Ytjmclmbepnbeoaa
open Go.ChangeShapes Go.WideShapes Go.ChangeAt Go.RowKit
theorem infoMb : (Try.prog.info? 120).map (fun i => (i.zero, i.size, i.bytes)) = some (some (.agg #[.bool false, .int .i64 0]), 2, 16) := by kernel_rfl
theorem FiAt.made (w : World) (V : Nat) : FiAt w.heap.size V (fun _ => none) (w.alloc (.cells (madeCells #[.bool false, .int .i64 0] (V * 2)) 120)) := by
  refine ⟨_, newB1 w _, size_madeCells _ _, fun s hs => ?_⟩
  have e : ∀ k, k < V * 2 → (madeCells #[.bool false, .int .i64 0] (V * 2))[k]? = some (#[(Value.bool false), Value.int .i64 0][k % 2]!) := fun k hk => by
    simp [madeCells, hk]
  rw [e (s * 2) (by omega), e (s * 2 + 1) (by omega), show s * 2 % 2 = 0 by omega, show (s * 2 + 1) % 2 = 1 by omega]
  exact ⟨rfl, 0, rfl, fun u e => by cases e⟩
theorem okF_of {w : World} {B : Nat} {v : Array Value} {x : Gr} {V : Nat} (h : GrIs w B v x) (hV : x.slots = (V : Int)) (hk : grOk x = true) : ∀ b ∈ x.blocks, ∀ z ∈ b.code, OkF V z := fun b hb z hz => by
  have hi := ins_of hk b hb z hz
  obtain ⟨hu, hm⟩ := ins_uses hi
  rw [hV] at hu hm
  refine ⟨(gr_wf h b hb).2 z hz, fun h1 => ?_, fun h1 => ?_, fun h1 => ?_⟩
  · have := hu z.a (by rcases h1 with e | e <;> simp [usesP, e])
    exact this
  · exact hu z.b (by simp [usesP, h1])
  · rcases hm with hm | hm
    · exact absurd hm.2 h1
    · unfold InR; omega
theorem jmF_of {x : Gr} {V : Nat} (hV : x.slots = (V : Int)) (hk : grOk x = true) : ∀ b ∈ x.blocks, b.jump = 1 → InR V b.a := fun b hb hj => by
  simp only [grOk, Bool.and_eq_true, decide_eq_true_eq] at hk
  have := List.all_eq_true.1 hk.2 b hb
  rw [hV] at this
  unfold jmpOk at this
  simp only [hj] at this
  simp [vOk] at this
  unfold InR
  omega
end Go.Proofs.Ytjmclmbepnbeoaa
