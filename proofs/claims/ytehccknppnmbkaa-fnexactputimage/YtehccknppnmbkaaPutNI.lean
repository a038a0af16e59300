/- The contract of impl.putNumber: eight bytes more (written by wip/mkput.py). -/
import Derived.Test.YtehccknppnmbkaaPutP
import Derived.Deep.LoopGhost
namespace Go.Proofs.Ytehccknppnmbkaa
open Go.ChangeShapes Go.WideShapes Go.ChangeAt Go.RowKit
theorem wrap64U (n : Int) : IntKind.u64.wrap n = n % 18446744073709551616 := by simp [IntKind.wrap, IntKind.bits, IntKind.signed]
set_option maxHeartbeats 4000000 in
theorem putNumber_any (n : Int) (l : List Int) (w : World) (B : Nat) (v : Value) (ho : OwnB w B v l) (hB : B ≤ w.heap.size) (hn : l.length ≤ 1000000) :
    Calls Try.prog 19 #[v, .int .i64 n] w fun e w' => ∃ v', e = .returned v' ∧ OwnB w' B v' (l ++ numL n) ∧ KpU B w w' := by
  have O0 := hideP ho
  have K0 := hideP (KpU.refl B w)
  have hm := maxLen_lt
  obtain ⟨g0, c0, rfl, _⟩ := id ho
  clear ho
  go_enter Try.func19, Try.ntmps19
  go_wp2
  go_loopg [0, 6] 8 (fun gk x i wr => ∃ k : Nat, gk + k = 8 ∧ i = .int .i64 (7 - (k : Int)) ∧ Hid (OwnB wr B x (l ++ numUp n k)) ∧ Hid (KpU B w wr))
  case atStart => exact ⟨0, rfl, rfl, by show OwnB _ _ _ _; rw [show l ++ numUp n 0 = l by simp [numUp]]; exact O0.out, K0.out⟩
  case round =>
    obtain ⟨k, hk, rfl, ho, hkp⟩ := hrel
    clear O0 K0
    by_cases hlt : k < 8
    · have hlen : (l ++ numUp n k).length = l.length + k := by rw [List.length_append, numUp_len]
      obtain ⟨L, hL⟩ : ∃ L, l ++ numUp n k = L := ⟨_, rfl⟩
      have UP : Hid (l ++ numUp n (k + 1) = L ++ [byteV n k]) := by show _ = _; rw [← hL, List.append_assoc]; rfl
      have hBw : B ≤ wr.heap.size := Nat.le_trans hB hkp.out.size
      rw [hL] at ho hlen
      clear hL
      obtain ⟨g, c, rfl, _⟩ := id ho.out
      obtain rfl | rfl | rfl | rfl | rfl | rfl | rfl | rfl : k = 0 ∨ k = 1 ∨ k = 2 ∨ k = 3 ∨ k = 4 ∨ k = 5 ∨ k = 6 ∨ k = 7 := by omega
      · have OD := hideP (own_litB wr [byteV n 0] #[.int .u8 (IntKind.u64.wrap n / 72057594037927936 % 256)] wr.heap.size 1 rfl rfl (by rw [wrap64U]; simp [byteV]) (by simp))
        have al := (Below.refl wr.heap.size wr).alloc (Nat.le_refl _) (.cells #[.int .u8 (IntKind.u64.wrap n / 72057594037927936 % 256)] 5)
        have OC := hideP (ho.out.stays al)
        have KC := hideP (hkp.out.trans (KpU.of_below al))
        have SC : Hid (B ≤ (wr.alloc (.cells #[.int .u8 (IntKind.u64.wrap n / 72057594037927936 % 256)] 5)).heap.size) := Nat.le_trans hBw al.size
        clear al
        go_wp2_with (at_builtin; refine list_appB _ rfl _ _ rfl B _ L [byteV n 0] wr.heap.size 0 1 1 rfl rfl rfl OC.out OD.out.at (by simp; omega) SC.out ?_; intro v6 w6 o6 grow6 loc6)
        have K6 := hideP (KC.out.trans (KpU.grown OC.out grow6))
        obtain ⟨g6, c6, rfl, _⟩ := id o6
        have O6 := hideP o6
        clear o6 grow6 loc6
        go_wp2
        go_roundg (8 - (0 + 1))
        case rel => exact ⟨0 + 1, by omega, by go_num, by rw [UP.out]; exact O6.out, K6.out⟩
        case measure => omega
      · have OD := hideP (own_litB wr [byteV n 1] #[.int .u8 (IntKind.u64.wrap n / 281474976710656 % 256)] wr.heap.size 1 rfl rfl (by rw [wrap64U]; simp [byteV]) (by simp))
        have al := (Below.refl wr.heap.size wr).alloc (Nat.le_refl _) (.cells #[.int .u8 (IntKind.u64.wrap n / 281474976710656 % 256)] 5)
        have OC := hideP (ho.out.stays al)
        have KC := hideP (hkp.out.trans (KpU.of_below al))
        have SC : Hid (B ≤ (wr.alloc (.cells #[.int .u8 (IntKind.u64.wrap n / 281474976710656 % 256)] 5)).heap.size) := Nat.le_trans hBw al.size
        clear al
        go_wp2_with (at_builtin; refine list_appB _ rfl _ _ rfl B _ L [byteV n 1] wr.heap.size 0 1 1 rfl rfl rfl OC.out OD.out.at (by simp; omega) SC.out ?_; intro v6 w6 o6 grow6 loc6)
        have K6 := hideP (KC.out.trans (KpU.grown OC.out grow6))
        obtain ⟨g6, c6, rfl, _⟩ := id o6
        have O6 := hideP o6
        clear o6 grow6 loc6
        go_wp2
        go_roundg (8 - (1 + 1))
        case rel => exact ⟨1 + 1, by omega, by go_num, by rw [UP.out]; exact O6.out, K6.out⟩
        case measure => omega
      · have OD := hideP (own_litB wr [byteV n 2] #[.int .u8 (IntKind.u64.wrap n / 1099511627776 % 256)] wr.heap.size 1 rfl rfl (by rw [wrap64U]; simp [byteV]) (by simp))
        have al := (Below.refl wr.heap.size wr).alloc (Nat.le_refl _) (.cells #[.int .u8 (IntKind.u64.wrap n / 1099511627776 % 256)] 5)
        have OC := hideP (ho.out.stays al)
        have KC := hideP (hkp.out.trans (KpU.of_below al))
        have SC : Hid (B ≤ (wr.alloc (.cells #[.int .u8 (IntKind.u64.wrap n / 1099511627776 % 256)] 5)).heap.size) := Nat.le_trans hBw al.size
        clear al
        go_wp2_with (at_builtin; refine list_appB _ rfl _ _ rfl B _ L [byteV n 2] wr.heap.size 0 1 1 rfl rfl rfl OC.out OD.out.at (by simp; omega) SC.out ?_; intro v6 w6 o6 grow6 loc6)
        have K6 := hideP (KC.out.trans (KpU.grown OC.out grow6))
        obtain ⟨g6, c6, rfl, _⟩ := id o6
        have O6 := hideP o6
        clear o6 grow6 loc6
        go_wp2
        go_roundg (8 - (2 + 1))
        case rel => exact ⟨2 + 1, by omega, by go_num, by rw [UP.out]; exact O6.out, K6.out⟩
        case measure => omega
      · have OD := hideP (own_litB wr [byteV n 3] #[.int .u8 (IntKind.u64.wrap n / 4294967296 % 256)] wr.heap.size 1 rfl rfl (by rw [wrap64U]; simp [byteV]) (by simp))
        have al := (Below.refl wr.heap.size wr).alloc (Nat.le_refl _) (.cells #[.int .u8 (IntKind.u64.wrap n / 4294967296 % 256)] 5)
        have OC := hideP (ho.out.stays al)
        have KC := hideP (hkp.out.trans (KpU.of_below al))
        have SC : Hid (B ≤ (wr.alloc (.cells #[.int .u8 (IntKind.u64.wrap n / 4294967296 % 256)] 5)).heap.size) := Nat.le_trans hBw al.size
        clear al
        go_wp2_with (at_builtin; refine list_appB _ rfl _ _ rfl B _ L [byteV n 3] wr.heap.size 0 1 1 rfl rfl rfl OC.out OD.out.at (by simp; omega) SC.out ?_; intro v6 w6 o6 grow6 loc6)
        have K6 := hideP (KC.out.trans (KpU.grown OC.out grow6))
        obtain ⟨g6, c6, rfl, _⟩ := id o6
        have O6 := hideP o6
        clear o6 grow6 loc6
        go_wp2
        go_roundg (8 - (3 + 1))
        case rel => exact ⟨3 + 1, by omega, by go_num, by rw [UP.out]; exact O6.out, K6.out⟩
        case measure => omega
      · have OD := hideP (own_litB wr [byteV n 4] #[.int .u8 (IntKind.u64.wrap n / 16777216 % 256)] wr.heap.size 1 rfl rfl (by rw [wrap64U]; simp [byteV]) (by simp))
        have al := (Below.refl wr.heap.size wr).alloc (Nat.le_refl _) (.cells #[.int .u8 (IntKind.u64.wrap n / 16777216 % 256)] 5)
        have OC := hideP (ho.out.stays al)
        have KC := hideP (hkp.out.trans (KpU.of_below al))
        have SC : Hid (B ≤ (wr.alloc (.cells #[.int .u8 (IntKind.u64.wrap n / 16777216 % 256)] 5)).heap.size) := Nat.le_trans hBw al.size
        clear al
        go_wp2_with (at_builtin; refine list_appB _ rfl _ _ rfl B _ L [byteV n 4] wr.heap.size 0 1 1 rfl rfl rfl OC.out OD.out.at (by simp; omega) SC.out ?_; intro v6 w6 o6 grow6 loc6)
        have K6 := hideP (KC.out.trans (KpU.grown OC.out grow6))
        obtain ⟨g6, c6, rfl, _⟩ := id o6
        have O6 := hideP o6
        clear o6 grow6 loc6
        go_wp2
        go_roundg (8 - (4 + 1))
        case rel => exact ⟨4 + 1, by omega, by go_num, by rw [UP.out]; exact O6.out, K6.out⟩
        case measure => omega
      · have OD := hideP (own_litB wr [byteV n 5] #[.int .u8 (IntKind.u64.wrap n / 65536 % 256)] wr.heap.size 1 rfl rfl (by rw [wrap64U]; simp [byteV]) (by simp))
        have al := (Below.refl wr.heap.size wr).alloc (Nat.le_refl _) (.cells #[.int .u8 (IntKind.u64.wrap n / 65536 % 256)] 5)
        have OC := hideP (ho.out.stays al)
        have KC := hideP (hkp.out.trans (KpU.of_below al))
        have SC : Hid (B ≤ (wr.alloc (.cells #[.int .u8 (IntKind.u64.wrap n / 65536 % 256)] 5)).heap.size) := Nat.le_trans hBw al.size
        clear al
        go_wp2_with (at_builtin; refine list_appB _ rfl _ _ rfl B _ L [byteV n 5] wr.heap.size 0 1 1 rfl rfl rfl OC.out OD.out.at (by simp; omega) SC.out ?_; intro v6 w6 o6 grow6 loc6)
        have K6 := hideP (KC.out.trans (KpU.grown OC.out grow6))
        obtain ⟨g6, c6, rfl, _⟩ := id o6
        have O6 := hideP o6
        clear o6 grow6 loc6
        go_wp2
        go_roundg (8 - (5 + 1))
        case rel => exact ⟨5 + 1, by omega, by go_num, by rw [UP.out]; exact O6.out, K6.out⟩
        case measure => omega
      · have OD := hideP (own_litB wr [byteV n 6] #[.int .u8 (IntKind.u64.wrap n / 256 % 256)] wr.heap.size 1 rfl rfl (by rw [wrap64U]; simp [byteV]) (by simp))
        have al := (Below.refl wr.heap.size wr).alloc (Nat.le_refl _) (.cells #[.int .u8 (IntKind.u64.wrap n / 256 % 256)] 5)
        have OC := hideP (ho.out.stays al)
        have KC := hideP (hkp.out.trans (KpU.of_below al))
        have SC : Hid (B ≤ (wr.alloc (.cells #[.int .u8 (IntKind.u64.wrap n / 256 % 256)] 5)).heap.size) := Nat.le_trans hBw al.size
        clear al
        go_wp2_with (at_builtin; refine list_appB _ rfl _ _ rfl B _ L [byteV n 6] wr.heap.size 0 1 1 rfl rfl rfl OC.out OD.out.at (by simp; omega) SC.out ?_; intro v6 w6 o6 grow6 loc6)
        have K6 := hideP (KC.out.trans (KpU.grown OC.out grow6))
        obtain ⟨g6, c6, rfl, _⟩ := id o6
        have O6 := hideP o6
        clear o6 grow6 loc6
        go_wp2
        go_roundg (8 - (6 + 1))
        case rel => exact ⟨6 + 1, by omega, by go_num, by rw [UP.out]; exact O6.out, K6.out⟩
        case measure => omega
      · have OD := hideP (own_litB wr [byteV n 7] #[.int .u8 (IntKind.u64.wrap n % 256)] wr.heap.size 1 rfl rfl (by rw [wrap64U]; simp [byteV]) (by simp))
        have al := (Below.refl wr.heap.size wr).alloc (Nat.le_refl _) (.cells #[.int .u8 (IntKind.u64.wrap n % 256)] 5)
        have OC := hideP (ho.out.stays al)
        have KC := hideP (hkp.out.trans (KpU.of_below al))
        have SC : Hid (B ≤ (wr.alloc (.cells #[.int .u8 (IntKind.u64.wrap n % 256)] 5)).heap.size) := Nat.le_trans hBw al.size
        clear al
        go_wp2_with (at_builtin; refine list_appB _ rfl _ _ rfl B _ L [byteV n 7] wr.heap.size 0 1 1 rfl rfl rfl OC.out OD.out.at (by simp; omega) SC.out ?_; intro v6 w6 o6 grow6 loc6)
        have K6 := hideP (KC.out.trans (KpU.grown OC.out grow6))
        obtain ⟨g6, c6, rfl, _⟩ := id o6
        have O6 := hideP o6
        clear o6 grow6 loc6
        go_wp2
        go_roundg (8 - (7 + 1))
        case rel => exact ⟨7 + 1, by omega, by go_num, by rw [UP.out]; exact O6.out, K6.out⟩
        case measure => omega
    · have hk8 : k = 8 := by omega
      subst hk8
      go_wp2
      go_ret
      exact ⟨_, rfl, ho.out, hkp.out⟩
end Go.Proofs.Ytehccknppnmbkaa
