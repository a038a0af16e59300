/- The contracts of l01Has and of both IsWord: each answers whether the text is one of the eleven words. -/
import Derived.Test.YtjojcdjbplbdaaaDoorRows
import Derived.Test.YtjojcdjbplbdaaaDoorPlain
import Derived.WalkKit
import Derived.ProofKit
import Derived.OpenShut
import Derived.ShutString
import Derived.WalkSpells
import Derived.WalkLawsBesides
import Derived.Below
namespace Go.Proofs.YtjojcdjbplbdaaaDoor
open Go.ChangeShapes Go.WideShapes Go.ChangeAt Go.RowKit

set_option maxHeartbeats 400000 in
theorem has_any (ss : List ByteArray) (s : ByteArray) (b cap : Nat) (w : World) (hl : ss.length ≤ 1000)
    (hcell : ∀ (i : Nat) (h : i < ss.length), w.cell? ⟨b, i, none⟩ = some (.string ss[i])) :
    Calls Tryd.prog 36 #[.slice (some ⟨b, 0, none⟩) ss.length cap, .string s] w fun e w' => e = .returned (.bool (hasB ss s)) ∧ w' = w := by
  go_enter Tryd.func36, Tryd.ntmps36
  go_wp2
  go_loop [5] (fun i => ∃ k : Nat, k ≤ ss.length ∧ i = .int .i64 k ∧ Hid (hasB ss s = hasB (ss.drop k) s)) (fun i => ss.length - (intOf i).toNat)
  case atStart => exact ⟨0, Nat.zero_le _, rfl, rfl⟩
  case round =>
    obtain ⟨k, hk, rfl, hd⟩ := hrel
    by_cases hlt : k < ss.length
    · have hc := hcell k hlt
      go_wp2
      · go_ret
        exact ⟨ret_bool (by rw [hd.out]; exact (hasB_drop_true hlt ‹_›).symm), rfl⟩
      · go_round
        case rel => exact ⟨k + 1, by omega, by go_num, hd.out.trans (hasB_drop_false hlt ‹_›)⟩
        case measure => simp [intOf]; omega
    · go_wp2
      go_ret
      exact ⟨ret_bool (by rw [hd.out, List.drop_of_length_le (by omega)]; rfl), rfl⟩

theorem lit_cells (w : World) (ss : List ByteArray) (cs : Array Value) (t : TypeId) (hcs : cs = (ss.map Value.string).toArray) (i : Nat) (h : i < ss.length) : (w.alloc (.cells cs t)).cell? ⟨w.heap.size, i, none⟩ = some (.string ss[i]) := by
  subst hcs
  rw [World.cell?_alloc_new]
  simp [h]

theorem lit_cells2 (w : World) (ss : List ByteArray) (cs : Array Value) (t : TypeId) (n : Nat) (hn : n = w.heap.size) (hcs : cs = (ss.map Value.string).toArray) (i : Nat) (h : i < ss.length) : (w.alloc (.cells cs t)).cell? ⟨n, i, none⟩ = some (.string ss[i]) := by
  subst hn; exact lit_cells w ss cs t hcs i h

set_option maxHeartbeats 400000 in
theorem spec_isWord (s : ByteArray) (w : World) :
    Calls Tryd.prog 16 #[.string s] w fun e w' => e = .returned (.bool (isWordL s.data.toList)) ∧ Below w.heap.size w w' := by
  go_enter Tryd.func16, Tryd.ntmps16
  go_wp2_with fail
  refine (has_any theWords s _ 11 _ (by decide) ?_).mono ?_
  · intro i h
    exact lit_cells w theWords _ 9 rfl i h
  · rintro e w' ⟨rfl, rfl⟩
    go_wp2
    go_ret
    exact ⟨ret_bool (hasB_theWords' s), (Below.refl _ _).alloc (Nat.le_refl _) _⟩

set_option maxHeartbeats 1000000 in
theorem impl_isWord (s : ByteArray) (w : World) :
    Calls Tryd.prog 15 #[.string s] w fun e w' => e = .returned (.bool (isWordL s.data.toList)) ∧ w' = w := by
  go_enter Tryd.func15, Tryd.ntmps15
  go_wp2
  all_goals first | (simp_all; done) | skip
  all_goals go_ret
  all_goals refine ⟨ret_bool ?_, rfl⟩
  all_goals rw [← Lib.toList_data]
  all_goals simp only [isWordL, *, Bool.true_or, Bool.or_true, Bool.or_false]
end Go.Proofs.YtjojcdjbplbdaaaDoor
