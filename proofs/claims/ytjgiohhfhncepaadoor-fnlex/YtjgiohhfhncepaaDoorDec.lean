/- The contract of the specification's DecText: the decimal numeral. -/
import Derived.Test.YtjgiohhfhncepaaDoorPlain
import Derived.Test.YtjgiohhfhncepaaDoorRows
import Derived.WalkKit
import Derived.ProofKit
import Derived.OpenShut
import Derived.ShutString
import Derived.WalkSpells
import Derived.WalkLawsBesides
import Derived.Below
import Derived.Test.YtjgiohhfhncepaaDoorDecPlain
namespace Go.Proofs.YtjgiohhfhncepaaDoor
open Go.ChangeShapes Go.WideShapes Go.ChangeAt Go.RowKit

theorem spec_dec_zero (w : World) :
    Calls Tryd.prog 20 #[.int .i64 0] w fun e w' => e = .returned (.string ⟨(Lib.itoa 0).toArray⟩) ∧ w' = w := by
  go_enter Tryd.func20, Tryd.ntmps20
  go_wp2
  go_ret
  exact ⟨ret_str (by rw [itoa_zero']), rfl⟩
set_option maxHeartbeats 400000 in
theorem spec_dec_pos (n : Int) (w : World) (h0 : 0 < n) (h1 : n ≤ 9223372036854775807) :
    Calls Tryd.prog 20 #[.int .i64 n] w fun e w' => e = .returned (.string ⟨(Lib.itoa n).toArray⟩) ∧ w' = w := by
  have hn : ¬ n < 0 := by omega
  go_enter Tryd.func20, Tryd.ntmps20
  go_wp2
  go_loop [3, 4, 5] (fun o m d => ∃ (a : Nat) (l : List UInt8), a ≤ n.natAbs ∧ m = .int .i64 a ∧ o = .string ⟨l.toArray⟩ ∧ Hid (dd a ++ l = dd n.natAbs)) (fun _ m _ => (intOf m).toNat)
  case atStart => exact ⟨n.natAbs, [], Nat.le_refl _, by rw [show ((n.natAbs : Nat) : Int) = n by omega], rfl, show _ = _ by simp⟩
  case round =>
    obtain ⟨a, l, ha, rfl, rfl, hd⟩ := hrel
    by_cases hz : a = 0
    · subst hz
      go_wp2
      go_ret
      exact ⟨ret_str (by rw [itoa_pos' h0, ← hd.out]; rfl), rfl⟩
    · have hz' : ((a : Int) != 0) = true := by simp; omega
      have hl : l.length ≤ 20 := dd_len (by omega) (by omega) hd.out
      have hm : min (a % 10 + 1) 10 - a % 10 = 1 := by omega
      have hb : ¬ 9223372036854775807 < 1 + l.length := by omega
      go_wp2
      go_round
      case rel =>
        exact ⟨a / 10, UInt8.ofNat (48 + a % 10) :: l, by omega, by go_num, by rw [tenS_at (a % 10) (by omega)], show _ = _ by rw [← hd.out, dd_step hz]; simp⟩
      case measure => simp [intOf]; omega
set_option maxHeartbeats 400000 in
theorem spec_dec_neg (n : Int) (w : World) (h0 : n < 0) (h1 : -9223372036854775808 ≤ n) :
    Calls Tryd.prog 20 #[.int .i64 n] w fun e w' => e = .returned (.string ⟨(Lib.itoa n).toArray⟩) ∧ w' = w := by
  go_enter Tryd.func20, Tryd.ntmps20
  go_wp2
  go_loop [3, 4, 5] (fun o m d => ∃ (a : Nat) (l : List UInt8), a ≤ n.natAbs ∧ m = .int .i64 (-(a : Int)) ∧ o = .string ⟨l.toArray⟩ ∧ Hid (dd a ++ l = dd n.natAbs)) (fun _ m _ => (intOf m).natAbs)
  case atStart => exact ⟨n.natAbs, [], Nat.le_refl _, by rw [show -((n.natAbs : Nat) : Int) = n by omega], rfl, show _ = _ by simp⟩
  case round =>
    obtain ⟨a, l, ha, rfl, rfl, hd⟩ := hrel
    have hl : l.length ≤ 20 := dd_len (by omega) (by omega) hd.out
    by_cases hz : a = 0
    · subst hz
      have hb : ¬ 9223372036854775807 < 1 + l.length := by omega
      go_wp2
      go_ret
      exact ⟨ret_str (by rw [minus_app, itoa_neg' h0, ← hd.out]; rfl), rfl⟩
    · have hz' : ((-(a : Int)) != 0) = true := by simp; omega
      have hm : min (a % 10 + 1) 10 - a % 10 = 1 := by omega
      have hb : ¬ 9223372036854775807 < 1 + l.length := by omega
      go_wp2
      · go_round
        case rel => exact ⟨a / 10, UInt8.ofNat (48 + a % 10) :: l, by omega, by go_num, by rw [tenS_at (a % 10) (by omega)], show _ = _ by rw [← hd.out, dd_step hz]; simp⟩
        case measure => simp [intOf]; omega
      · go_round
        case rel =>
          have h10 : a % 10 = 0 := by omega
          have e1 : (-((a : Int) % 10)).toNat = a % 10 := by omega
          have e2 : (-((a : Int) % 10) + 1).toNat = a % 10 + 1 := by omega
          exact ⟨a / 10, UInt8.ofNat (48 + a % 10) :: l, by omega, by go_num, by rw [e1, e2, tenS_at (a % 10) (by omega)], show _ = _ by rw [← hd.out, dd_step hz]; simp⟩
        case measure => simp [intOf]; omega
theorem spec_dec (n : Int) (w : World) (h0 : -9223372036854775808 ≤ n) (h1 : n ≤ 9223372036854775807) :
    Calls Tryd.prog 20 #[.int .i64 n] w fun e w' => e = .returned (.string ⟨(Lib.itoa n).toArray⟩) ∧ w' = w := by
  by_cases hp : 0 < n
  · exact spec_dec_pos n w hp h1
  · by_cases hz : n = 0
    · subst hz; exact spec_dec_zero w
    · exact spec_dec_neg n w (by omega) h0
end Go.Proofs.YtjgiohhfhncepaaDoor
