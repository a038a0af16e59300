/- The contracts of both Sum: one number of 32 bits, told by the text's bytes. -/
import Derived.Test.YtehccknppnmbkaaDoorMem
import Derived.Test.YtehccknppnmbkaaDoorRows
import Derived.WalkKit
import Derived.ProofKit
import Derived.OpenShut
import Derived.WalkSpells
import Derived.WalkLawsBesides
namespace Go.Proofs.YtehccknppnmbkaaDoor
open Go.ChangeShapes Go.WideShapes Go.ChangeAt Go.RowKit

/-- One byte more. -/
def sumStep (v : Int) (c : UInt8) : Int := bits BinOp.xor IntKind.u32 v c.toNat * 16777619 % 4294967296
def sumL (l : List UInt8) : Int := l.foldl sumStep 2166136261
theorem sumL_range (l : List UInt8) : ∀ v : Int, 0 ≤ v → v ≤ 4294967295 → 0 ≤ l.foldl sumStep v ∧ l.foldl sumStep v ≤ 4294967295 := by
  induction l with
  | nil => intro v h0 h1; exact ⟨h0, h1⟩
  | cons c r ih => intro v _ _; exact ih _ (by unfold sumStep; omega) (by unfold sumStep; omega)
theorem sumL_low (l : List UInt8) : 0 ≤ sumL l := (sumL_range l _ (by decide) (by decide)).1
theorem sumL_high (l : List UInt8) : sumL l ≤ 4294967295 := (sumL_range l _ (by decide) (by decide)).2
theorem sum_take (s : ByteArray) (k : Nat) (h : k < s.size) : sumL (s.data.toList.take (k + 1)) = sumStep (sumL (s.data.toList.take k)) s[k] := by
  have hl : k < s.data.toList.length := by rw [Array.length_toList]; exact h
  have : s.data.toList.take (k + 1) = s.data.toList.take k ++ [s[k]] := by
    rw [List.take_add_one, List.getElem?_eq_getElem hl]; rfl
  rw [this]; unfold sumL; rw [List.foldl_append]; rfl
theorem sum_all (s : ByteArray) (k : Nat) (h : s.size ≤ k) : sumL (s.data.toList.take k) = sumL s.data.toList := by
  rw [List.take_of_length_le (by rw [Array.length_toList]; exact h)]

set_option maxHeartbeats 800000 in
theorem spec_sum (s : ByteArray) (w : World) (hs : s.size ≤ 1048576) :
    Calls Tryd.prog 55 #[.string s] w fun e w' => e = .returned (.int .u32 (sumL s.data.toList)) ∧ w' = w := by
  go_enter Tryd.func55, Tryd.ntmps55
  go_wp2
  go_loop [3, 4] (fun x i => ∃ (k : Nat) (v : Int), k ≤ s.size ∧ i = .int .i64 k ∧ x = .int .u32 v ∧ 0 ≤ v ∧ v ≤ 4294967295 ∧ Hid (v = sumL (s.data.toList.take k))) (fun _ i => s.size - (intOf i).toNat)
  case atStart => exact ⟨0, 2166136261, Nat.zero_le _, rfl, rfl, by decide, by decide, by show _ = _; rw [List.take_zero]; rfl⟩
  case round =>
    obtain ⟨k, v, hk, rfl, rfl, h0, h1, hv⟩ := hrel
    by_cases hlt : k < s.size
    · have hb0 : (0 : Int) ≤ s[k].toNat := by omega
      have hb1 : (s[k].toNat : Int) ≤ 255 := by have := s[k].toNat_lt; omega
      go_wp2
      go_round
      case rel => exact ⟨k + 1, _, hlt, by go_num, rfl, by omega, by omega, by show _ = _; rw [sum_take s k hlt, ← hv.out]; rfl⟩
      case measure => simp [intOf]; omega
    · have hz : Hid (v = sumL s.data.toList) := by show _ = _; rw [hv.out]; exact sum_all s k (by omega)
      go_wp2
      go_ret
      exact ⟨by rw [hz.out]; rfl, rfl⟩

set_option maxHeartbeats 800000 in
theorem impl_sum (s : ByteArray) (w : World) (hs : s.size ≤ 1048576) :
    Calls Tryd.prog 70 #[.string s] w fun e w' => e = .returned (.int .u32 (sumL s.data.toList)) ∧ w' = w := by
  go_enter Tryd.func70, Tryd.ntmps70
  go_wp2
  go_loop [3, 7] (fun x i => ∃ (k : Nat) (v : Int), k ≤ s.size ∧ i = .int .i64 k ∧ x = .int .u32 v ∧ 0 ≤ v ∧ v ≤ 4294967295 ∧ Hid (v = sumL (s.data.toList.take k))) (fun _ i => s.size - (intOf i).toNat)
  case atStart => exact ⟨0, 2166136261, Nat.zero_le _, rfl, rfl, by decide, by decide, by show _ = _; rw [List.take_zero]; rfl⟩
  case round =>
    obtain ⟨k, v, hk, rfl, rfl, h0, h1, hv⟩ := hrel
    by_cases hlt : k < s.size
    · have hb0 : (0 : Int) ≤ s[k].toNat := by omega
      have hb1 : (s[k].toNat : Int) ≤ 255 := by have := s[k].toNat_lt; omega
      go_wp2
      go_round
      case rel => exact ⟨k + 1, _, hlt, by go_num, rfl, by omega, by omega, by show _ = _; rw [sum_take s k hlt, ← hv.out]; rfl⟩
      case measure => simp [intOf]; omega
    · have hz : Hid (v = sumL s.data.toList) := by show _ = _; rw [hv.out]; exact sum_all s k (by omega)
      go_wp2
      go_ret
      exact ⟨by rw [hz.out]; rfl, rfl⟩
end Go.Proofs.YtehccknppnmbkaaDoor
