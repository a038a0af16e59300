/- The contract of markText. -/
import Derived.Test.YtdkdimklacblaalRRMarkP
import Derived.Test.YtdkdimklacblaalRRMem
import Derived.Test.YtdkdimklacblaalRRRows
import Derived.WalkKit
import Derived.ProofKit
import Derived.OpenShut
import Derived.WalkSpells
import Derived.WalkLawsBesides
import Derived.Laws.IdiomStrings
import Derived.Deep.QuietTactic
import Derived.BigQuiet
import Derived.Deep.RegionWith
namespace Go.Proofs.YtdkdimklacblaalRR
open Go.ChangeShapes Go.WideShapes Go.ChangeAt Go.RowKit

set_option maxHeartbeats 400000 in
theorem markText_any (k : Nat) (w : World) (h0 : 0 < k) (h1 : k ≤ 1000000000) :
    Calls Try.prog 55 #[.int .i64 k] w fun e w' => e = .returned (.string (markS k)) ∧ Below w.heap.size w w' := by
  go_enter Try.func55, Try.ntmps55
  go_wp2
  go_loopw [0, 3] (fun a o wr => ∃ (m : Nat) (l : List UInt8), m ≤ k ∧ a = .int .i64 m ∧ o = .string ⟨l.toArray⟩ ∧ Hid (dd m ++ l = dd k) ∧ Below w.heap.size w wr) (fun a _ _ => (intOf a).toNat)
  case atStart => exact ⟨k, [], Nat.le_refl _, rfl, rfl, show _ = _ by simp, Below.refl _ _⟩
  case round =>
    obtain ⟨m, l, hm, rfl, rfl, hd, bel⟩ := hrel
    have hl : l.length ≤ 20 := dd_len (by omega) (by omega) hd.out
    by_cases hz : m = 0
    · subst hz
      have hb : ¬ 9223372036854775807 < 1 + l.length := by omega
      go_wp2
      go_ret
      exact ⟨ret_str (by rw [mark_app]; unfold markS; rw [← hd.out]; rfl), bel⟩
    · have hz' : 0 < m := by omega
      have e8 : ((UInt8.ofNat (48 + m % 10)).toNat : Int) = 48 + (m : Int) % 10 := by
        have e : (UInt8.ofNat (48 + m % 10)).toNat = 48 + m % 10 := by simp; omega
        rw [e]; omega
      have hcv := run_convert_bytes_back (P := Try.prog) (wr.alloc (.cells #[.int .u8 (48 + (m : Int) % 10)] 5)) 95 9 5 ⟨wr.heap.size, 0, none⟩ 1 [UInt8.ofNat (48 + m % 10)] Try.underlying95 Try.underlying5 Try.underlying9 (fun j hj => by
        have hj0 : j = 0 := by simpa using hj
        subst hj0
        show World.cell? _ ⟨wr.heap.size, 0, none⟩ = some (.int .u8 ((UInt8.ofNat (48 + m % 10)).toNat : Int))
        rw [World.cell?_alloc_new, e8]; rfl)
      simp only [List.length_singleton] at hcv
      clear e8
      have hb : ¬ 9223372036854775807 < 1 + l.length := by omega
      go_wp2
      go_roundw
      case rel => exact ⟨m / 10, UInt8.ofNat (48 + m % 10) :: l, by omega, by go_num, by rw [digit_app], show _ = _ by rw [← hd.out, dd_step hz]; simp, bel.alloc bel.size _⟩
      case measure => simp [intOf]; omega
end Go.Proofs.YtdkdimklacblaalRR
