/- The contracts of l01Has and l01In: whether a text is one of some, whether a number lies between two. -/
import Derived.Test.YtobpcfelgobedabRows
import Derived.Test.YtobpcfelgobedabPlain
import Derived.WalkKit
import Derived.ProofKit
import Derived.OpenShut
import Derived.ShutString
import Derived.WalkSpells
import Derived.WalkLawsBesides
import Derived.Below
namespace Go.Proofs.Ytobpcfelgobedab
open Go.ChangeShapes Go.WideShapes Go.ChangeAt Go.RowKit

set_option maxHeartbeats 400000 in
theorem has_any (ss : List ByteArray) (s : ByteArray) (b cap : Nat) (w : World) (hl : ss.length ≤ 1000)
    (hcell : ∀ (i : Nat) (h : i < ss.length), w.cell? ⟨b, i, none⟩ = some (.string ss[i])) :
    Calls Try.prog 60 #[.slice (some ⟨b, 0, none⟩) ss.length cap, .string s] w fun e w' => e = .returned (.bool (hasB ss s)) ∧ w' = w := by
  go_enter Try.func60, Try.ntmps60
  go_wp2
  go_loop [5] (fun i => ∃ k : Nat, k ≤ ss.length ∧ i = .int .i64 k ∧ Hid (hasB ss s = hasB (ss.drop k) s)) (fun i => ss.length - (intOf i).toNat)
  case atStart => exact ⟨0, Nat.zero_le _, rfl, rfl⟩
  case round =>
    obtain ⟨k, hk, rfl, hd⟩ := hrel
    by_cases hlt : k < ss.length
    · have hc := hcell k hlt
      go_wp2
      · go_ret
        exact ⟨ret_bool (by rw [hd.out]; exact (hasB_drop_true hlt ‹_›).symm), rfl⟩
      · go_round
        case rel => exact ⟨k + 1, by omega, by go_num, hd.out.trans (hasB_drop_false hlt ‹_›)⟩
        case measure => simp [intOf]; omega
    · go_wp2
      go_ret
      exact ⟨ret_bool (by rw [hd.out, List.drop_of_length_le (by omega)]; rfl), rfl⟩

theorem lit_cells (w : World) (ss : List ByteArray) (cs : Array Value) (t : TypeId) (hcs : cs = (ss.map Value.string).toArray) (i : Nat) (h : i < ss.length) : (w.alloc (.cells cs t)).cell? ⟨w.heap.size, i, none⟩ = some (.string ss[i]) := by
  subst hcs
  rw [World.cell?_alloc_new]
  simp [h]

theorem lit_cells2 (w : World) (ss : List ByteArray) (cs : Array Value) (t : TypeId) (n : Nat) (hn : n = w.heap.size) (hcs : cs = (ss.map Value.string).toArray) (i : Nat) (h : i < ss.length) : (w.alloc (.cells cs t)).cell? ⟨n, i, none⟩ = some (.string ss[i]) := by
  subst hn; exact lit_cells w ss cs t hcs i h

theorem l01In_any (x a b : Int) (w : World) :
    Calls Try.prog 30 #[.int .i64 x, .int .i64 a, .int .i64 b] w fun e w' => e = .returned (.bool (inB x a b)) ∧ w' = w := by
  go_enter Try.func30, Try.ntmps30
  go_wp2
  all_goals go_ret
  all_goals exact ⟨ret_bool (by simp [inB]; omega), rfl⟩
end Go.Proofs.Ytobpcfelgobedab
