/- The contract of spec.l03Zeros. -/
import Derived.Test.YtobpcfelgobedaaROwnIntL
namespace Go.Proofs.YtobpcfelgobedaaR
open Go.ChangeShapes Go.WideShapes Go.ChangeAt Go.RowKit
set_option maxHeartbeats 1000000 in
theorem zeros_any (n : Nat) (w : World) (hn : n ≤ 1000000) :
    Calls Try.prog 33 #[.int .i64 n] w fun e w' => ∃ v', e = .returned v' ∧ OwnI w' w.heap.size v' (List.replicate n 0) ∧ Below w.heap.size w w' := by
  have O0 := hideP (own_lit w [] #[] w.heap.size 0 rfl rfl rfl (by simp))
  have B0 := hideP ((Below.refl w.heap.size w).alloc (Nat.le_refl _) (.cells #[] 3))
  go_enter Try.func33, Try.ntmps33
  go_wp2
  go_loopw [3, 4] (fun q i wr => ∃ j : Nat, j ≤ n ∧ i = .int .i64 j ∧ Hid (OwnI wr w.heap.size q (List.replicate j 0)) ∧ Hid (Below w.heap.size w wr)) (fun _ i _ => n - (intOf i).toNat)
  case atStart => exact ⟨0, Nat.zero_le _, rfl, O0.out, B0.out⟩
  case round =>
    obtain ⟨j, hj, rfl, ho, hb⟩ := hrel
    by_cases hlt : j < n
    · obtain ⟨g, c, rfl, _⟩ := id ho.out
      have al := (Below.refl wr.heap.size wr).alloc (Nat.le_refl _) (.cells #[.int .i64 0] 3)
      have OC := hideP (ho.out.stays al)
      have OD := hideP (own_lit wr [(0 : Int)] #[.int .i64 0] wr.heap.size 1 rfl rfl rfl (by simp))
      have BC := hideP (hb.out.alloc hb.out.size (.cells #[.int .i64 0] 3))
      have SC := hideP BC.out.size
      have hrl : (List.replicate j (0 : Int)).length = j := List.length_replicate
      clear al O0 B0
      go_wp2_with (at_builtin; refine list_appI _ rfl _ _ rfl w.heap.size _ (List.replicate j 0) [0] wr.heap.size 0 1 1 rfl rfl rfl OC.out OD.out.at (by rw [hrl]; simp; omega) SC.out ?_; intro v6 w6 o6 grow6 loc6)
      have B6 := hideP (BC.out.grown grow6 BC.out.size (fun b' hb' => by have := OC.out.low b' hb'; omega))
      rw [show List.replicate j (0 : Int) ++ [0] = List.replicate (j + 1) 0 by rw [List.replicate_succ']] at o6
      obtain ⟨g6, c6, rfl, _⟩ := id o6
      have O6 := hideP o6
      clear o6 grow6 loc6 hrl
      go_wp2
      go_roundw
      case rel => exact ⟨j + 1, by omega, by go_num, by simpa using O6, B6.out⟩
      case measure => simp [intOf]; omega
    · have hjn : j = n := by omega
      subst hjn
      go_wp2
      go_ret
      exact ⟨_, rfl, ho.out, hb.out⟩
end Go.Proofs.YtobpcfelgobedaaR
