/- The contract of impl.putNumber: eight bytes more (written by wip/mkput.py). -/
import Derived.Test.YtehccknppnmbkaaDoorPutP
import Derived.Deep.LoopGhost
namespace Go.Proofs.YtehccknppnmbkaaDoor
open Go.ChangeShapes Go.WideShapes Go.ChangeAt Go.RowKit
theorem wrap64U (n : Int) : IntKind.u64.wrap n = n % 18446744073709551616 := by simp [IntKind.wrap, IntKind.bits, IntKind.signed]
set_option maxHeartbeats 4000000 in
theorem putNumber_any (n : Int) (l : List Int) (w : World) (B : Nat) (v : Value) (ho : OwnB w B v l) (hB : B ≤ w.heap.size) (hn : l.length ≤ 1000000) :
    Calls Tryd.prog 69 #[v, .int .i64 n] w fun e w' => ∃ v', e = .returned v' ∧ OwnB w' B v' (l ++ numL n) ∧ KpU B w w' := by
  have O0 := hideP ho
  have K0 := hideP (KpU.refl B w)
  have hm := maxLen_lt
  obtain ⟨g0, c0, rfl, _⟩ := id ho
  clear ho
  go_enter Tryd.func69, Tryd.ntmps69
  go_wp2
  go_loopg [0, 6] 8 (fun gk x i wr => ∃ k : Nat, gk + k = 8 ∧ i = .int .i64 (7 - (k : Int)) ∧ Hid (OwnB wr B x (l ++ numUp n k)) ∧ Hid (KpU B w wr))
  case atStart => exact ⟨0, rfl, rfl, by show OwnB _ _ _ _; rw [show l ++ numUp n 0 = l by simp [numUp]]; exact O0.out, K0.out⟩
  case round =>
    obtain ⟨k, hk, rfl, ho, hkp⟩ := hrel
    clear O0 K0
    by_cases hlt : k < 8
    · have hlen : (l ++ numUp n k).length = l.length + k := by rw [List.length_append, numUp_len]
      obtain ⟨L, hL⟩ : ∃ L, l ++ numUp n k = L := ⟨_, rfl⟩
      have UP : Hid (l ++ numUp n (k + 1) = L ++ [byteV n k]) := by show _ = _; rw [← hL, List.append_assoc]; rfl
      have hBw : B ≤ wr.heap.size := Nat.le_trans hB hkp.out.size
      rw [hL] at ho hlen
      clear hL
      obtain ⟨g, c, rfl, _⟩ := id ho.out
      obtain rfl | rfl | rfl | rfl | rfl | rfl | rfl | rfl : k = 0 ∨ k = 1 ∨ k = 2 ∨ k = 3 ∨ k = 4 ∨ k = 5 ∨ k = 6 ∨ k = 7 := by omega
      · have OD := hideP (own_litB wr [byteV n 0] #[.int .u8 (IntKind.u64.wrap n / 72057594037927936 % 256)] wr.heap.size 1 rfl rfl (by rw [wrap64U]; simp [byteV]) (by simp))
        have al := (Below.refl wr.heap.size wr).alloc (Nat.le_refl _) (.cells #[.int .u8 (IntKind.u64.wrap n / 72057594037927936 % 256)] 5)
        have OC := hideP (ho.out.stays al)
        have KC := hideP (hkp.out.trans (KpU.of_below al))
        have SC : Hid (B ≤ (wr.alloc (.cells #[.int .u8 (IntKind.u64.wrap n / 72057594037927936 % 256)] 5)).heap.size) := Nat.le_trans hBw al.size
        clear al
        go_wp2_with (at_builtin; refine list_appB _ rfl _ _ rfl B _ L [byteV n 0] wr.heap.size 0 1 1 rfl rfl rfl OC.out OD.out.at (by simp; omega) SC.out ?_; intro v6 w6 o6 grow6 loc6)
        have K6 := hideP (KC.out.trans (KpU.grown OC.out grow6))
        obtain ⟨g6, c6, rfl, _⟩ := id o6
        have O6 := hideP o6
        clear o6 grow6 loc6
        go_wp2
        go_roundg (8 - (0 + 1))
        case rel => exact ⟨0 + 1, by omega, by go_num, by rw [UP.out]; exact O6.out, K6.out⟩
        case measure => omega
      · have OD := hideP (own_litB wr [byteV n 1] #[.int .u8 (IntKind.u64.wrap n / 281474976710656 % 256)] wr.heap.size 1 rfl rfl (by rw [wrap64U]; simp [byteV]) (by simp))
        have al := (Below.refl wr.heap.size wr).alloc (Nat.le_refl _) (.cells #[.int .u8 (IntKind.u64.wrap n / 281474976710656 % 256)] 5)
        have OC := hideP (ho.out.stays al)
        have KC := hideP (hkp.out.trans (KpU.of_below al))
        have SC : Hid (B ≤ (wr.alloc (.cells #[.int .u8 (IntKind.u64.wrap n / 281474976710656 % 256)] 5)).heap.size) := Nat.le_trans hBw al.size
        clear al
        go_wp2_with (at_builtin; refine list_appB _ rfl _ _ rfl B _ L [byteV n 1] wr.heap.size 0 1 1 rfl rfl rfl OC.out OD.out.at (by simp; omega) SC.out ?_; intro v6 w6 o6 grow6 loc6)
        have K6 := hideP (KC.out.trans (KpU.grown OC.out grow6))
        obtain ⟨g6, c6, rfl, _⟩ := id o6
        have O6 := hideP o6
        clear o6 grow6 loc6
        go_wp2
        go_roundg (8 - (1 + 1))
        case rel => exact ⟨1 + 1, by omega, by go_num, by rw [UP.out]; exact O6.out, K6.out⟩
        case measure => omega
      · have OD := hideP (own_litB wr [byteV n 2] #[.int .u8 (IntKind.u64.wrap n / 1099511627776 % 256)] wr.heap.size 1 rfl rfl (by rw [wrap64U]; simp [byteV]) (by simp))
        have al := (Below.refl wr.heap.size wr).alloc (Nat.le_refl _) (.cells #[.int .u8 (IntKind.u64.wrap n / 1099511627776 % 256)] 5)
        have OC := hideP (ho.out.stays al)
        have KC := hideP (hkp.out.trans (KpU.of_below al))
        have SC : Hid (B ≤ (wr.alloc (.cells #[.int .u8 (IntKind.u64.wrap n / 1099511627776 % 256)] 5)).heap.size) := Nat.le_trans hBw al.size
        clear al
        go_wp2_with (at_builtin; refine list_appB _ rfl _ _ rfl B _ L [byteV n 2] wr.heap.size 0 1 1 rfl rfl rfl OC.out OD.out.at (by simp; omega) SC.out ?_; intro v6 w6 o6 grow6 loc6)
        have K6 := hideP (KC.out.trans (KpU.grown OC.out grow6))
        obtain ⟨g6, c6, rfl, _⟩ := id o6
        have O6 := hideP o6
        clear o6 grow6 loc6
        go_wp2
        go_roundg (8 - (2 + 1))
        case rel => exact ⟨2 + 1, by omega, by go_num, by rw [UP.out]; exact O6.out, K6.out⟩
        case measure => omega
      · have OD := hideP (own_litB wr [byteV n 3] #[.int .u8 (IntKind.u64.wrap n / 4294967296 % 256)] wr.heap.size 1 rfl rfl (by rw [wrap64U]; simp [byteV]) (by simp))
        have al := (Below.refl wr.heap.size wr).alloc (Nat.le_refl _) (.cells #[.int .u8 (IntKind.u64.wrap n / 4294967296 % 256)] 5)
        have OC := hideP (ho.out.stays al)
        have KC := hideP (hkp.out.trans (KpU.of_below al))
        have SC : Hid (B ≤ (wr.alloc (.cells #[.int .u8 (IntKind.u64.wrap n / 4294967296 % 256)] 5)).heap.size) := Nat.le_trans hBw al.size
        clear al
        go_wp2_with (at_builtin; refine list_appB _ rfl _ _ rfl B _ L [byteV n 3] wr.heap.size 0 1 1 rfl rfl rfl OC.out OD.out.at (by simp; omega) SC.out ?_; intro v6 w6 o6 grow6 loc6)
        have K6 := hideP (KC.out.trans (KpU.grown OC.out grow6))
        obtain ⟨g6, c6, rfl, _⟩ := id o6
        have O6 := hideP o6
        clear o6 grow6 loc6
        go_wp2
        go_roundg (8 - (3 + 1))
        case rel => exact ⟨3 + 1, by omega, by go_num, by rw [UP.out]; exact O6.out, K6.out⟩
        case measure => omega
      · have OD := hideP (own_litB wr [byteV n 4] #[.int .u8 (IntKind.u64.wrap n / 16777216 % 256)] wr.heap.size 1 rfl rfl (by rw [wrap64U]; simp [byteV]) (by simp))
        have al := (Below.refl wr.heap.size wr).alloc (Nat.le_refl _) (.cells #[.int .u8 (IntKind.u64.wrap n / 16777216 % 256)] 5)
        have OC := hideP (ho.out.stays al)
        have KC := hideP (hkp.out.trans (KpU.of_below al))
        have SC : Hid (B ≤ (wr.alloc (.cells #[.int .u8 (IntKind.u64.wrap n / 16777216 % 256)] 5)).heap.size) := Nat.le_trans hBw al.size
        clear al
        go_wp2_with (at_builtin; refine list_appB _ rfl _ _ rfl B _ L [byteV n 4] wr.heap.size 0 1 1 rfl rfl rfl OC.out OD.out.at (by simp; omega) SC.out ?_; intro v6 w6 o6 grow6 loc6)
        have K6 := hideP (KC.out.trans (KpU.grown OC.out grow6))
        obtain ⟨g6, c6, rfl, _⟩ := id o6
        have O6 := hideP o6
        clear o6 grow6 loc6
        go_wp2
        go_roundg (8 - (4 + 1))
        case rel => exact ⟨4 + 1, by omega, by go_num, by rw [UP.out]; exact O6.out, K6.out⟩
        case measure => omega
      · have OD := hideP (own_litB wr [byteV n 5] #[.int .u8 (IntKind.u64.wrap n / 65536 % 256)] wr.heap.size 1 rfl rfl (by rw [wrap64U]; simp [byteV]) (by simp))
        have al := (Below.refl wr.heap.size wr).alloc (Nat.le_refl _) (.cells #[.int .u8 (IntKind.u64.wrap n / 65536 % 256)] 5)
        have OC := hideP (ho.out.stays al)
        have KC := hideP (hkp.out.trans (KpU.of_below al))
        have SC : Hid (B ≤ (wr.alloc (.cells #[.int .u8 (IntKind.u64.wrap n / 65536 % 256)] 5)).heap.size) := Nat.le_trans hBw al.size
        clear al
        go_wp2_with (at_builtin; refine list_appB _ rfl _ _ rfl B _ L [byteV n 5] wr.heap.size 0 1 1 rfl rfl rfl OC.out OD.out.at (by simp; omega) SC.out ?_; intro v6 w6 o6 grow6 loc6)
        have K6 := hideP (KC.out.trans (KpU.grown OC.out grow6))
        obtain ⟨g6, c6, rfl, _⟩ := id o6
        have O6 := hideP o6
        clear o6 grow6 loc6
        go_wp2
        go_roundg (8 - (5 + 1))
        case rel => exact ⟨5 + 1, by omega, by go_num, by rw [UP.out]; exact O6.out, K6.out⟩
        case measure => omega
      · have OD := hideP (own_litB wr [byteV n 6] #[.int .u8 (IntKind.u64.wrap n / 256 % 256)] wr.heap.size 1 rfl rfl (by rw [wrap64U]; simp [byteV]) (by simp))
        have al := (Below.refl wr.heap.size wr).alloc (Nat.le_refl _) (.cells #[.int .u8 (IntKind.u64.wrap n / 256 % 256)] 5)
        have OC := hideP (ho.out.stays al)
        have KC := hideP (hkp.out.trans (KpU.of_below al))
        have SC : Hid (B ≤ (wr.alloc (.cells #[.int .u8 (IntKind.u64.wrap n / 256 % 256)] 5)).heap.size) := Nat.le_trans hBw al.size
        clear al
        go_wp2_with (at_builtin; refine list_appB _ rfl _ _ rfl B _ L [byteV n 6] wr.heap.size 0 1 1 rfl rfl rfl OC.out OD.out.at (by simp; omega) SC.out ?_; intro v6 w6 o6 grow6 loc6)
        have K6 := hideP (KC.out.trans (KpU.grown OC.out grow6))
        obtain ⟨g6, c6, rfl, _⟩ := id o6
        have O6 := hideP o6
        clear o6 grow6 loc6
        go_wp2
        go_roundg (8 - (6 + 1))
        case rel => exact ⟨6 + 1, by omega, by go_num, by rw [UP.out]; exact O6.out, K6.out⟩
        case measure => omega
      · have OD := hideP (own_litB wr [byteV n 7] #[.int .u8 (IntKind.u64.wrap n % 256)] wr.heap.size 1 rfl rfl (by rw [wrap64U]; simp [byteV]) (by simp))
        have al := (Below.refl wr.heap.size wr).alloc (Nat.le_refl _) (.cells #[.int .u8 (IntKind.u64.wrap n % 256)] 5)
        have OC := hideP (ho.out.stays al)
        have KC := hideP (hkp.out.trans (KpU.of_below al))
        have SC : Hid (B ≤ (wr.alloc (.cells #[.int .u8 (IntKind.u64.wrap n % 256)] 5)).heap.size) := Nat.le_trans hBw al.size
        clear al
        go_wp2_with (at_builtin; refine list_appB _ rfl _ _ rfl B _ L [byteV n 7] wr.heap.size 0 1 1 rfl rfl rfl OC.out OD.out.at (by simp; omega) SC.out ?_; intro v6 w6 o6 grow6 loc6)
        have K6 := hideP (KC.out.trans (KpU.grown OC.out grow6))
        obtain ⟨g6, c6, rfl, _⟩ := id o6
        have O6 := hideP o6
        clear o6 grow6 loc6
        go_wp2
        go_roundg (8 - (7 + 1))
        case rel => exact ⟨7 + 1, by omega, by go_num, by rw [UP.out]; exact O6.out, K6.out⟩
        case measure => omega
    · have hk8 : k = 8 := by omega
      subst hk8
      go_wp2
      go_ret
      exact ⟨_, rfl, ho.out, hkp.out⟩
end Go.Proofs.YtehccknppnmbkaaDoor

/- The contract of spec.l14Num: a number's eight bytes (written by wip/mkputs.py). -/
namespace Go.Proofs.YtehccknppnmbkaaDoor
open Go.ChangeShapes Go.WideShapes Go.ChangeAt Go.RowKit
def wAt : Nat → Int
  | 0 => 72057594037927936
  | 1 => 281474976710656
  | 2 => 1099511627776
  | 3 => 4294967296
  | 4 => 16777216
  | 5 => 65536
  | 6 => 256
  | 7 => 1
  | _ => 0
theorem bytS (n d : Int) (hd : 0 < d) : (IntKind.u64.wrap ((IntKind.u64.wrap n).tdiv d)).tmod 256 % 256 = n % 18446744073709551616 / d % 256 := by
  rw [wrap64U, wrap64U]
  have h0 : 0 ≤ n % 18446744073709551616 := Int.emod_nonneg _ (by decide)
  have h1 : n % 18446744073709551616 < 18446744073709551616 := Int.emod_lt_of_pos _ (by decide)
  rw [Int.tdiv_eq_ediv_of_nonneg h0]
  have h2 : 0 ≤ n % 18446744073709551616 / d := Int.ediv_nonneg h0 (by omega)
  have h3 : n % 18446744073709551616 / d ≤ n % 18446744073709551616 := Int.ediv_le_self _ h0
  generalize n % 18446744073709551616 / d = y at *
  rw [Int.emod_eq_of_lt h2 (by omega), Int.tmod_eq_emod_of_nonneg h2]
  omega
theorem bytS1 (n : Int) : (IntKind.u64.wrap (IntKind.u64.wrap n)).tmod 256 % 256 = n % 18446744073709551616 / 1 % 256 := by
  rw [wrap64U, wrap64U]
  have h0 : 0 ≤ n % 18446744073709551616 := Int.emod_nonneg _ (by decide)
  have h1 : n % 18446744073709551616 < 18446744073709551616 := Int.emod_lt_of_pos _ (by decide)
  generalize n % 18446744073709551616 = y at *
  rw [Int.emod_eq_of_lt h0 h1, Int.tmod_eq_emod_of_nonneg h0]
  omega
theorem bytS_arr (n : Int) (k : Nat) (x : Int) (h : x = byteV n k) : #[Value.int .u8 x] = ([byteV n k].map (Value.int .u8)).toArray := by rw [h]; rfl
set_option maxHeartbeats 4000000 in
theorem l14Num_any (n : Int) (w : World) :
    Calls Tryd.prog 54 #[.int .i64 n] w fun e w' => ∃ v', e = .returned v' ∧ OwnB w' w.heap.size v' (numL n) ∧ Below w.heap.size w w' := by
  obtain ⟨B, hB⟩ : ∃ B, w.heap.size = B := ⟨_, rfl⟩
  have O0 : Hid (OwnB (w.alloc (.cells #[] 5)) B (.slice (some ⟨w.heap.size, 0, none⟩) 0 0) []) := by rw [← hB]; exact own_litB w [] #[] w.heap.size 0 rfl rfl rfl (by simp)
  have K0 : Hid (KpU B w (w.alloc (.cells #[] 5))) := KpU.of_below ((Below.refl _ _).alloc (Nat.le_refl _) _)
  have HB : Hid (w.heap.size = B) := hB
  have hm := maxLen_lt
  go_enter Tryd.func54, Tryd.ntmps54
  clear hB
  go_wp2
  go_loopg [4, 5, 6] 8 (fun gk p x i wr => ∃ (k : Nat) (V : Int), gk + k = 8 ∧ i = .int .i64 k ∧ p = .int .u64 V ∧ Hid (V = wAt k) ∧ Hid (OwnB wr B x (numUp n k)) ∧ Hid (KpU B w wr))
  case atStart => exact ⟨0, _, rfl, rfl, rfl, rfl, O0.out, K0.out⟩
  case round =>
    obtain ⟨k, V, hk, rfl, rfl, hV, ho, hkp⟩ := hrel
    clear O0 K0
    by_cases hlt : k < 8
    · have hlen : (numUp n k).length = k := numUp_len n k
      obtain ⟨L, hL⟩ : ∃ L, numUp n k = L := ⟨_, rfl⟩
      have UP : Hid (numUp n (k + 1) = L ++ [byteV n k]) := by show _ = _; rw [← hL]; rfl
      have hBw : B ≤ wr.heap.size := by have := hkp.out.size; rw [HB.out] at this; exact this
      rw [hL] at ho hlen
      clear hL
      obtain ⟨g, c, rfl, _⟩ := id ho.out
      obtain rfl | rfl | rfl | rfl | rfl | rfl | rfl | rfl : k = 0 ∨ k = 1 ∨ k = 2 ∨ k = 3 ∨ k = 4 ∨ k = 5 ∨ k = 6 ∨ k = 7 := by omega
      · obtain rfl : V = 72057594037927936 := hV.out
        clear hV
        have OD := hideP (own_litB wr [byteV n 0] #[.int .u8 ((IntKind.u64.wrap ((IntKind.u64.wrap n).tdiv 72057594037927936)).tmod 256 % 256)] wr.heap.size 1 rfl rfl (bytS_arr n 0 _ (by first | exact bytS n 72057594037927936 (by decide) | exact bytS1 n)) (by simp))
        have al := (Below.refl wr.heap.size wr).alloc (Nat.le_refl _) (.cells #[.int .u8 ((IntKind.u64.wrap ((IntKind.u64.wrap n).tdiv 72057594037927936)).tmod 256 % 256)] 5)
        have OC := hideP (ho.out.stays al)
        have KC := hideP (hkp.out.trans (KpU.of_below al))
        have SC : Hid (B ≤ (wr.alloc (.cells #[.int .u8 ((IntKind.u64.wrap ((IntKind.u64.wrap n).tdiv 72057594037927936)).tmod 256 % 256)] 5)).heap.size) := Nat.le_trans hBw al.size
        clear al
        go_wp2_with (at_builtin; refine list_appB _ rfl _ _ rfl B _ L [byteV n 0] wr.heap.size 0 1 1 rfl rfl rfl OC.out OD.out.at (by simp; omega) SC.out ?_; intro v6 w6 o6 grow6 loc6)
        have K6 := hideP (KC.out.trans (KpU.grown OC.out grow6))
        obtain ⟨g6, c6, rfl, _⟩ := id o6
        have O6 := hideP o6
        clear o6 grow6 loc6
        go_wp2
        go_roundg (8 - (0 + 1))
        case rel => exact ⟨0 + 1, _, by omega, by go_num, rfl, by show _ = _; rfl, by rw [UP.out]; exact O6.out, K6.out⟩
        case measure => omega
      · obtain rfl : V = 281474976710656 := hV.out
        clear hV
        have OD := hideP (own_litB wr [byteV n 1] #[.int .u8 ((IntKind.u64.wrap ((IntKind.u64.wrap n).tdiv 281474976710656)).tmod 256 % 256)] wr.heap.size 1 rfl rfl (bytS_arr n 1 _ (by first | exact bytS n 281474976710656 (by decide) | exact bytS1 n)) (by simp))
        have al := (Below.refl wr.heap.size wr).alloc (Nat.le_refl _) (.cells #[.int .u8 ((IntKind.u64.wrap ((IntKind.u64.wrap n).tdiv 281474976710656)).tmod 256 % 256)] 5)
        have OC := hideP (ho.out.stays al)
        have KC := hideP (hkp.out.trans (KpU.of_below al))
        have SC : Hid (B ≤ (wr.alloc (.cells #[.int .u8 ((IntKind.u64.wrap ((IntKind.u64.wrap n).tdiv 281474976710656)).tmod 256 % 256)] 5)).heap.size) := Nat.le_trans hBw al.size
        clear al
        go_wp2_with (at_builtin; refine list_appB _ rfl _ _ rfl B _ L [byteV n 1] wr.heap.size 0 1 1 rfl rfl rfl OC.out OD.out.at (by simp; omega) SC.out ?_; intro v6 w6 o6 grow6 loc6)
        have K6 := hideP (KC.out.trans (KpU.grown OC.out grow6))
        obtain ⟨g6, c6, rfl, _⟩ := id o6
        have O6 := hideP o6
        clear o6 grow6 loc6
        go_wp2
        go_roundg (8 - (1 + 1))
        case rel => exact ⟨1 + 1, _, by omega, by go_num, rfl, by show _ = _; rfl, by rw [UP.out]; exact O6.out, K6.out⟩
        case measure => omega
      · obtain rfl : V = 1099511627776 := hV.out
        clear hV
        have OD := hideP (own_litB wr [byteV n 2] #[.int .u8 ((IntKind.u64.wrap ((IntKind.u64.wrap n).tdiv 1099511627776)).tmod 256 % 256)] wr.heap.size 1 rfl rfl (bytS_arr n 2 _ (by first | exact bytS n 1099511627776 (by decide) | exact bytS1 n)) (by simp))
        have al := (Below.refl wr.heap.size wr).alloc (Nat.le_refl _) (.cells #[.int .u8 ((IntKind.u64.wrap ((IntKind.u64.wrap n).tdiv 1099511627776)).tmod 256 % 256)] 5)
        have OC := hideP (ho.out.stays al)
        have KC := hideP (hkp.out.trans (KpU.of_below al))
        have SC : Hid (B ≤ (wr.alloc (.cells #[.int .u8 ((IntKind.u64.wrap ((IntKind.u64.wrap n).tdiv 1099511627776)).tmod 256 % 256)] 5)).heap.size) := Nat.le_trans hBw al.size
        clear al
        go_wp2_with (at_builtin; refine list_appB _ rfl _ _ rfl B _ L [byteV n 2] wr.heap.size 0 1 1 rfl rfl rfl OC.out OD.out.at (by simp; omega) SC.out ?_; intro v6 w6 o6 grow6 loc6)
        have K6 := hideP (KC.out.trans (KpU.grown OC.out grow6))
        obtain ⟨g6, c6, rfl, _⟩ := id o6
        have O6 := hideP o6
        clear o6 grow6 loc6
        go_wp2
        go_roundg (8 - (2 + 1))
        case rel => exact ⟨2 + 1, _, by omega, by go_num, rfl, by show _ = _; rfl, by rw [UP.out]; exact O6.out, K6.out⟩
        case measure => omega
      · obtain rfl : V = 4294967296 := hV.out
        clear hV
        have OD := hideP (own_litB wr [byteV n 3] #[.int .u8 ((IntKind.u64.wrap ((IntKind.u64.wrap n).tdiv 4294967296)).tmod 256 % 256)] wr.heap.size 1 rfl rfl (bytS_arr n 3 _ (by first | exact bytS n 4294967296 (by decide) | exact bytS1 n)) (by simp))
        have al := (Below.refl wr.heap.size wr).alloc (Nat.le_refl _) (.cells #[.int .u8 ((IntKind.u64.wrap ((IntKind.u64.wrap n).tdiv 4294967296)).tmod 256 % 256)] 5)
        have OC := hideP (ho.out.stays al)
        have KC := hideP (hkp.out.trans (KpU.of_below al))
        have SC : Hid (B ≤ (wr.alloc (.cells #[.int .u8 ((IntKind.u64.wrap ((IntKind.u64.wrap n).tdiv 4294967296)).tmod 256 % 256)] 5)).heap.size) := Nat.le_trans hBw al.size
        clear al
        go_wp2_with (at_builtin; refine list_appB _ rfl _ _ rfl B _ L [byteV n 3] wr.heap.size 0 1 1 rfl rfl rfl OC.out OD.out.at (by simp; omega) SC.out ?_; intro v6 w6 o6 grow6 loc6)
        have K6 := hideP (KC.out.trans (KpU.grown OC.out grow6))
        obtain ⟨g6, c6, rfl, _⟩ := id o6
        have O6 := hideP o6
        clear o6 grow6 loc6
        go_wp2
        go_roundg (8 - (3 + 1))
        case rel => exact ⟨3 + 1, _, by omega, by go_num, rfl, by show _ = _; rfl, by rw [UP.out]; exact O6.out, K6.out⟩
        case measure => omega
      · obtain rfl : V = 16777216 := hV.out
        clear hV
        have OD := hideP (own_litB wr [byteV n 4] #[.int .u8 ((IntKind.u64.wrap ((IntKind.u64.wrap n).tdiv 16777216)).tmod 256 % 256)] wr.heap.size 1 rfl rfl (bytS_arr n 4 _ (by first | exact bytS n 16777216 (by decide) | exact bytS1 n)) (by simp))
        have al := (Below.refl wr.heap.size wr).alloc (Nat.le_refl _) (.cells #[.int .u8 ((IntKind.u64.wrap ((IntKind.u64.wrap n).tdiv 16777216)).tmod 256 % 256)] 5)
        have OC := hideP (ho.out.stays al)
        have KC := hideP (hkp.out.trans (KpU.of_below al))
        have SC : Hid (B ≤ (wr.alloc (.cells #[.int .u8 ((IntKind.u64.wrap ((IntKind.u64.wrap n).tdiv 16777216)).tmod 256 % 256)] 5)).heap.size) := Nat.le_trans hBw al.size
        clear al
        go_wp2_with (at_builtin; refine list_appB _ rfl _ _ rfl B _ L [byteV n 4] wr.heap.size 0 1 1 rfl rfl rfl OC.out OD.out.at (by simp; omega) SC.out ?_; intro v6 w6 o6 grow6 loc6)
        have K6 := hideP (KC.out.trans (KpU.grown OC.out grow6))
        obtain ⟨g6, c6, rfl, _⟩ := id o6
        have O6 := hideP o6
        clear o6 grow6 loc6
        go_wp2
        go_roundg (8 - (4 + 1))
        case rel => exact ⟨4 + 1, _, by omega, by go_num, rfl, by show _ = _; rfl, by rw [UP.out]; exact O6.out, K6.out⟩
        case measure => omega
      · obtain rfl : V = 65536 := hV.out
        clear hV
        have OD := hideP (own_litB wr [byteV n 5] #[.int .u8 ((IntKind.u64.wrap ((IntKind.u64.wrap n).tdiv 65536)).tmod 256 % 256)] wr.heap.size 1 rfl rfl (bytS_arr n 5 _ (by first | exact bytS n 65536 (by decide) | exact bytS1 n)) (by simp))
        have al := (Below.refl wr.heap.size wr).alloc (Nat.le_refl _) (.cells #[.int .u8 ((IntKind.u64.wrap ((IntKind.u64.wrap n).tdiv 65536)).tmod 256 % 256)] 5)
        have OC := hideP (ho.out.stays al)
        have KC := hideP (hkp.out.trans (KpU.of_below al))
        have SC : Hid (B ≤ (wr.alloc (.cells #[.int .u8 ((IntKind.u64.wrap ((IntKind.u64.wrap n).tdiv 65536)).tmod 256 % 256)] 5)).heap.size) := Nat.le_trans hBw al.size
        clear al
        go_wp2_with (at_builtin; refine list_appB _ rfl _ _ rfl B _ L [byteV n 5] wr.heap.size 0 1 1 rfl rfl rfl OC.out OD.out.at (by simp; omega) SC.out ?_; intro v6 w6 o6 grow6 loc6)
        have K6 := hideP (KC.out.trans (KpU.grown OC.out grow6))
        obtain ⟨g6, c6, rfl, _⟩ := id o6
        have O6 := hideP o6
        clear o6 grow6 loc6
        go_wp2
        go_roundg (8 - (5 + 1))
        case rel => exact ⟨5 + 1, _, by omega, by go_num, rfl, by show _ = _; rfl, by rw [UP.out]; exact O6.out, K6.out⟩
        case measure => omega
      · obtain rfl : V = 256 := hV.out
        clear hV
        have OD := hideP (own_litB wr [byteV n 6] #[.int .u8 ((IntKind.u64.wrap ((IntKind.u64.wrap n).tdiv 256)).tmod 256 % 256)] wr.heap.size 1 rfl rfl (bytS_arr n 6 _ (by first | exact bytS n 256 (by decide) | exact bytS1 n)) (by simp))
        have al := (Below.refl wr.heap.size wr).alloc (Nat.le_refl _) (.cells #[.int .u8 ((IntKind.u64.wrap ((IntKind.u64.wrap n).tdiv 256)).tmod 256 % 256)] 5)
        have OC := hideP (ho.out.stays al)
        have KC := hideP (hkp.out.trans (KpU.of_below al))
        have SC : Hid (B ≤ (wr.alloc (.cells #[.int .u8 ((IntKind.u64.wrap ((IntKind.u64.wrap n).tdiv 256)).tmod 256 % 256)] 5)).heap.size) := Nat.le_trans hBw al.size
        clear al
        go_wp2_with (at_builtin; refine list_appB _ rfl _ _ rfl B _ L [byteV n 6] wr.heap.size 0 1 1 rfl rfl rfl OC.out OD.out.at (by simp; omega) SC.out ?_; intro v6 w6 o6 grow6 loc6)
        have K6 := hideP (KC.out.trans (KpU.grown OC.out grow6))
        obtain ⟨g6, c6, rfl, _⟩ := id o6
        have O6 := hideP o6
        clear o6 grow6 loc6
        go_wp2
        go_roundg (8 - (6 + 1))
        case rel => exact ⟨6 + 1, _, by omega, by go_num, rfl, by show _ = _; rfl, by rw [UP.out]; exact O6.out, K6.out⟩
        case measure => omega
      · obtain rfl : V = 1 := hV.out
        clear hV
        have OD := hideP (own_litB wr [byteV n 7] #[.int .u8 ((IntKind.u64.wrap (IntKind.u64.wrap n)).tmod 256 % 256)] wr.heap.size 1 rfl rfl (bytS_arr n 7 _ (by first | exact bytS n 1 (by decide) | exact bytS1 n)) (by simp))
        have al := (Below.refl wr.heap.size wr).alloc (Nat.le_refl _) (.cells #[.int .u8 ((IntKind.u64.wrap (IntKind.u64.wrap n)).tmod 256 % 256)] 5)
        have OC := hideP (ho.out.stays al)
        have KC := hideP (hkp.out.trans (KpU.of_below al))
        have SC : Hid (B ≤ (wr.alloc (.cells #[.int .u8 ((IntKind.u64.wrap (IntKind.u64.wrap n)).tmod 256 % 256)] 5)).heap.size) := Nat.le_trans hBw al.size
        clear al
        go_wp2_with (at_builtin; refine list_appB _ rfl _ _ rfl B _ L [byteV n 7] wr.heap.size 0 1 1 rfl rfl rfl OC.out OD.out.at (by simp; omega) SC.out ?_; intro v6 w6 o6 grow6 loc6)
        have K6 := hideP (KC.out.trans (KpU.grown OC.out grow6))
        obtain ⟨g6, c6, rfl, _⟩ := id o6
        have O6 := hideP o6
        clear o6 grow6 loc6
        go_wp2
        go_roundg (8 - (7 + 1))
        case rel => exact ⟨7 + 1, _, by omega, by go_num, rfl, by show _ = _; rfl, by rw [UP.out]; exact O6.out, K6.out⟩
        case measure => omega
    · have hk8 : k = 8 := by omega
      subst hk8
      go_wp2
      go_ret
      exact ⟨_, rfl, by rw [HB.out]; exact ho.out, by have := hkp.out.below (by rw [HB.out]; exact Nat.le_refl _); rw [HB.out]; exact this⟩
end Go.Proofs.YtehccknppnmbkaaDoor
