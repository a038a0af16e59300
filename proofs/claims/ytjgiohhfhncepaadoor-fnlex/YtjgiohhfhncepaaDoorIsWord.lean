/- The contracts of l01Has and of both IsWord: each answers whether the text is one of the eleven words. -/
import Derived.Test.YtjgiohhfhncepaaDoorHas
namespace Go.Proofs.YtjgiohhfhncepaaDoor
open Go.ChangeShapes Go.WideShapes Go.ChangeAt Go.RowKit

set_option maxHeartbeats 400000 in
theorem spec_isWord (s : ByteArray) (w : World) :
    Calls Tryd.prog 16 #[.string s] w fun e w' => e = .returned (.bool (isWordL s.data.toList)) ∧ Below w.heap.size w w' := by
  go_enter Tryd.func16, Tryd.ntmps16
  go_wp2_with fail
  refine (has_any theWords s _ 11 _ (by decide) ?_).mono ?_
  · intro i h
    exact lit_cells w theWords _ 9 rfl i h
  · rintro e w' ⟨rfl, rfl⟩
    go_wp2
    go_ret
    exact ⟨ret_bool (hasB_theWords' s), (Below.refl _ _).alloc (Nat.le_refl _) _⟩

set_option maxHeartbeats 1000000 in
theorem impl_isWord (s : ByteArray) (w : World) :
    Calls Tryd.prog 15 #[.string s] w fun e w' => e = .returned (.bool (isWordL s.data.toList)) ∧ w' = w := by
  go_enter Tryd.func15, Tryd.ntmps15
  go_wp2
  all_goals first | (simp_all; done) | skip
  all_goals go_ret
  all_goals refine ⟨ret_bool ?_, rfl⟩
  all_goals rw [← Lib.toList_data]
  all_goals simp only [isWordL, *, Bool.true_or, Bool.or_true, Bool.or_false]
end Go.Proofs.YtjgiohhfhncepaaDoor
