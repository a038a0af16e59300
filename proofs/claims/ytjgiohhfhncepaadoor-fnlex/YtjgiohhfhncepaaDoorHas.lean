/- The contracts of l01Has and l01In: whether a text is one of some, whether a number lies between two. -/
import Derived.Test.YtjgiohhfhncepaaDoorRows
import Derived.Test.YtjgiohhfhncepaaDoorPlain
import Derived.WalkKit
import Derived.ProofKit
import Derived.OpenShut
import Derived.ShutString
import Derived.WalkSpells
import Derived.WalkLawsBesides
import Derived.Below
namespace Go.Proofs.YtjgiohhfhncepaaDoor
open Go.ChangeShapes Go.WideShapes Go.ChangeAt Go.RowKit

set_option maxHeartbeats 400000 in
theorem has_any (ss : List ByteArray) (s : ByteArray) (b cap : Nat) (w : World) (hl : ss.length ≤ 1000)
    (hcell : ∀ (i : Nat) (h : i < ss.length), w.cell? ⟨b, i, none⟩ = some (.string ss[i])) :
    Calls Tryd.prog 36 #[.slice (some ⟨b, 0, none⟩) ss.length cap, .string s] w fun e w' => e = .returned (.bool (hasB ss s)) ∧ w' = w := by
  go_enter Tryd.func36, Tryd.ntmps36
  go_wp2
  go_loop [5] (fun i => ∃ k : Nat, k ≤ ss.length ∧ i = .int .i64 k ∧ Hid (hasB ss s = hasB (ss.drop k) s)) (fun i => ss.length - (intOf i).toNat)
  case atStart => exact ⟨0, Nat.zero_le _, rfl, rfl⟩
  case round =>
    obtain ⟨k, hk, rfl, hd⟩ := hrel
    by_cases hlt : k < ss.length
    · have hc := hcell k hlt
      go_wp2
      · go_ret
        exact ⟨ret_bool (by rw [hd.out]; exact (hasB_drop_true hlt ‹_›).symm), rfl⟩
      · go_round
        case rel => exact ⟨k + 1, by omega, by go_num, hd.out.trans (hasB_drop_false hlt ‹_›)⟩
        case measure => simp [intOf]; omega
    · go_wp2
      go_ret
      exact ⟨ret_bool (by rw [hd.out, List.drop_of_length_le (by omega)]; rfl), rfl⟩

theorem lit_cells (w : World) (ss : List ByteArray) (cs : Array Value) (t : TypeId) (hcs : cs = (ss.map Value.string).toArray) (i : Nat) (h : i < ss.length) : (w.alloc (.cells cs t)).cell? ⟨w.heap.size, i, none⟩ = some (.string ss[i]) := by
  subst hcs
  rw [World.cell?_alloc_new]
  simp [h]

theorem lit_cells2 (w : World) (ss : List ByteArray) (cs : Array Value) (t : TypeId) (n : Nat) (hn : n = w.heap.size) (hcs : cs = (ss.map Value.string).toArray) (i : Nat) (h : i < ss.length) : (w.alloc (.cells cs t)).cell? ⟨n, i, none⟩ = some (.string ss[i]) := by
  subst hn; exact lit_cells w ss cs t hcs i h

theorem l01In_any (x a b : Int) (w : World) :
    Calls Tryd.prog 40 #[.int .i64 x, .int .i64 a, .int .i64 b] w fun e w' => e = .returned (.bool (inB x a b)) ∧ w' = w := by
  go_enter Tryd.func40, Tryd.ntmps40
  go_wp2
  all_goals go_ret
  all_goals exact ⟨ret_bool (by simp [inB]; omega), rfl⟩
end Go.Proofs.YtjgiohhfhncepaaDoor
