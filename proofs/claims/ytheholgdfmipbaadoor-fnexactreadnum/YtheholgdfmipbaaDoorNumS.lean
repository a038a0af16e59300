/- The contract of the specification's ReadNum: the number of 64 bits whose text it is, or 0 and false. Written by wip/mknum.py. -/
import Derived.Test.YtheholgdfmipbaaDoorRead
import Derived.Test.YtheholgdfmipbaaDoorNumPl
namespace Go.Proofs.YtheholgdfmipbaaDoor
open Go.ChangeShapes Go.WideShapes Go.ChangeAt Go.RowKit
theorem ret_num {l : List UInt8} {n : Int} {b : Bool} (h : numR l = (n, b)) : Ending.returned (.tuple #[.int .i64 n, .bool b]) = .returned (.tuple #[.int .i64 (numR l).1, .bool (numR l).2]) := by rw [h]
theorem wrap_step (v d : Nat) (h : 48 ≤ (d : Int)) : wrap64 (((v * 10 + (d - 48) : Nat)) : Int) = wrap64 (wrap64 (wrap64 (10 * wrap64 v) + d) - 48) := by unfold wrap64; omega
set_option maxHeartbeats 800000 in
theorem spec_num_minus (s : ByteArray) (w : World) (hs : s.size ≤ 1048576) (h0 : 0 < s.size) (hm : s[0] = 45) :
    Calls Tryd.prog 16 #[.string s] w fun e w' => e = .returned (.tuple #[.int .i64 (numR s.data.toList).1, .bool (numR s.data.toList).2]) ∧ w' = w := by
  obtain ⟨t, ht⟩ : ∃ t, s.extract 1 s.size = t := ⟨_, rfl⟩
  have hts : t.size + 1 = s.size := by rw [← ht, ByteArray.size_extract]; omega
  have hm' : ((s[0].toNat : Int) == 45) = true := by rw [hm]; rfl
  have HM : Hid (s[0] = 45) := hm
  clear hm
  have hd := drop_cons s 0 h0
  rw [List.drop_zero] at hd
  have HH : Hid (s.data.toList.head? = some 45) := by show _ = _; rw [hd, HM.out]; rfl
  have HN : Hid (∀ v : Nat, numW s.data.toList v = wrap64 (-(wrap64 (v : Int)))) := fun v => by unfold numW; rw [if_pos HH.out]
  have HB : Hid (bare s.data.toList = t.data.toList) := by
    show _ = _
    unfold bare
    rw [if_pos HH.out, ← ht, Lib.extract_data, List.take_of_length_le (by rw [List.length_drop, dlen]; omega), List.drop_one]
  have hne : (t.toList == s.toList) = false := by
    rw [Lib.toList_data, Lib.toList_data, beq_eq_false_iff_ne]; intro e
    have h1 := dlen t; have h2 := dlen s; rw [e] at h1; omega
  clear hd
  go_enter Tryd.func16, Tryd.ntmps16
  go_wp2
  go_loop [5, 6] (fun n i => ∃ k v : Nat, k ≤ t.size ∧ i = .int .i64 k ∧ n = .int .i64 (wrap64 v) ∧ Hid (Lib.decFrom 0 (t.data.toList.take k) = some v) ∧ Hid (0 < k → t.size ≤ 19)) (fun _ i => t.size - (intOf i).toNat)
  case atStart => exact ⟨0, 0, Nat.zero_le _, rfl, by simp [wrap64], by show Lib.decFrom 0 _ = _; rw [List.take_zero]; rfl, fun h => absurd h (Nat.lt_irrefl 0)⟩
  case round =>
    obtain ⟨k, v, hk, rfl, rfl, hv, h6⟩ := hrel
    by_cases hlt : k < t.size
    · have hb0 : (0 : Int) ≤ t[k].toNat := by omega
      have hb1 : (t[k].toNat : Int) ≤ 255 := by have := t[k].toNat_lt; omega
      by_cases hD : digB t[k].toNat = true
      · by_cases hl : 19 < t.size
        · go_wp2_with (go_at_call 18; refine (l01Digit_any _ hb0 hb1 _).mono ?_; rintro e w' ⟨rfl, rfl⟩)
          go_ret2
          exact ⟨ret_num (numR_no (no_long64 (by rw [HB.out, dlen]; exact hl))), rfl⟩
        · have hl6 : t.size ≤ 19 := by omega
          have hdr := dig_range hD
          go_wp2_with (go_at_call 18; refine (l01Digit_any _ hb0 hb1 _).mono ?_; rintro e w' ⟨rfl, rfl⟩)
          go_round
          case rel => exact ⟨k + 1, v * 10 + (t[k].toNat - 48), by omega, by go_num, congrArg (Value.int .i64) (wrap_step v _ hdr.1).symm, dec_step t k v hlt hv.out hD, fun _ => hl6⟩
          case measure => simp [intOf]; omega
      · have hD' : digB t[k].toNat = false := by simpa using hD
        clear hD
        go_wp2_with (go_at_call 18; refine (l01Digit_any _ hb0 hb1 _).mono ?_; rintro e w' ⟨rfl, rfl⟩)
        go_ret2
        exact ⟨ret_num (numR_no (no_digit64 (by rw [HB.out]; exact mem_data t k hlt) hD')), rfl⟩
    · have hv2 := hideP (dec_all t k v (by omega) hv.out)
      by_cases hz : t.size = 0
      · have hz' : t.toList.isEmpty = true := by rw [Lib.toList_data, List.isEmpty_iff_length_eq_zero, dlen]; exact hz
        go_wp2
        go_ret2
        exact ⟨ret_num (numR_no (no_empty64 (by rw [HB.out]; exact List.length_eq_zero_iff.1 (by rw [dlen]; exact hz)))), rfl⟩
      · have hz' : t.toList.isEmpty = false := by rw [Lib.toList_data, List.isEmpty_eq_false_iff]; intro e; have h1 := dlen t; rw [e] at h1; simp at h1; omega
        have hl6 : t.size ≤ 19 := h6.out (by omega)
        by_cases he : (Lib.itoa (wrap64 (-(wrap64 (v : Int)))) == s.toList) = true
        · have HE : Hid (Lib.itoa (wrap64 (-(wrap64 (v : Int)))) = s.data.toList) := by show _ = _; rw [← Lib.toList_data]; exact beq_iff_eq.1 he
          go_wp2_with (go_at_call 19; refine (spec_dec _ _ (by unfold wrap64; omega) (by unfold wrap64; omega)).mono ?_; rintro e w' ⟨rfl, rfl⟩)
          go_ret2
          exact ⟨ret_num (by have e := numR_yes (yes_num64 (v := v) (l := s.data.toList) (by rw [HN.out v]; exact HE.out)); rw [HN.out v] at e; exact e), rfl⟩
        · have he' : (Lib.itoa (wrap64 (-(wrap64 (v : Int)))) == s.toList) = false := by simpa using he
          have HE : Hid (Lib.itoa (wrap64 (-(wrap64 (v : Int)))) ≠ s.data.toList) := by show _ ≠ _; rw [← Lib.toList_data]; exact list_ne he'
          clear he
          go_wp2_with (go_at_call 19; refine (spec_dec _ _ (by unfold wrap64; omega) (by unfold wrap64; omega)).mono ?_; rintro e w' ⟨rfl, rfl⟩)
          go_ret2
          exact ⟨ret_num (numR_no (no_other64 (v := v) (by rw [HB.out]; exact hv2.out) (by rw [HN.out v]; exact HE.out))), rfl⟩

set_option maxHeartbeats 800000 in
theorem spec_num_empty (s : ByteArray) (w : World) (_hs : s.size ≤ 1048576) (h0 : s.size = 0) (hm : ∀ h : 0 < s.size, s[0] ≠ 45) :
    Calls Tryd.prog 16 #[.string s] w fun e w' => e = .returned (.tuple #[.int .i64 (numR s.data.toList).1, .bool (numR s.data.toList).2]) ∧ w' = w := by
  have HH : Hid (s.data.toList.head? ≠ some 45) := by
    show _ ≠ _
    by_cases h0 : 0 < s.size
    · have hd := drop_cons s 0 h0
      rw [List.drop_zero] at hd
      rw [hd]; simp only [List.head?_cons, ne_eq, Option.some.injEq]; exact hm h0
    · have e : s.data.toList = [] := List.length_eq_zero_iff.1 (by rw [dlen]; omega)
      rw [e]; simp
  have HB : Hid (bare s.data.toList = s.data.toList) := by show _ = _; unfold bare; rw [if_neg HH.out]
  clear hm
  go_enter Tryd.func16, Tryd.ntmps16
  go_wp2
  go_loop [5, 6] (fun n i => ∃ k v : Nat, k ≤ s.size ∧ i = .int .i64 k ∧ n = .int .i64 (wrap64 v) ∧ Hid (Lib.decFrom 0 (s.data.toList.take k) = some v) ∧ Hid (0 < k → s.size ≤ 19)) (fun _ i => s.size - (intOf i).toNat)
  case atStart => exact ⟨0, 0, Nat.zero_le _, rfl, by simp [wrap64], by show Lib.decFrom 0 _ = _; rw [List.take_zero]; rfl, fun h => absurd h (Nat.lt_irrefl 0)⟩
  case round =>
    obtain ⟨k, v, hk, rfl, rfl, hv, h6⟩ := hrel
    by_cases hlt : k < s.size
    · exact absurd hlt (by omega)
    · have hv2 := hideP (dec_all s k v (by omega) hv.out)
      by_cases hz : s.size = 0
      · have hz' : s.toList.isEmpty = true := by rw [Lib.toList_data, List.isEmpty_iff_length_eq_zero, dlen]; exact hz
        go_wp2
        go_ret2
        exact ⟨ret_num (numR_no (no_empty64 (by rw [HB.out]; exact List.length_eq_zero_iff.1 (by rw [dlen]; exact hz)))), rfl⟩
      · exact absurd h0 hz

set_option maxHeartbeats 800000 in
theorem spec_num_plain (s : ByteArray) (w : World) (hs : s.size ≤ 1048576) (h0 : 0 < s.size) (hm : ∀ h : 0 < s.size, s[0] ≠ 45) :
    Calls Tryd.prog 16 #[.string s] w fun e w' => e = .returned (.tuple #[.int .i64 (numR s.data.toList).1, .bool (numR s.data.toList).2]) ∧ w' = w := by
  have HH : Hid (s.data.toList.head? ≠ some 45) := by
    show _ ≠ _
    by_cases h0 : 0 < s.size
    · have hd := drop_cons s 0 h0
      rw [List.drop_zero] at hd
      rw [hd]; simp only [List.head?_cons, ne_eq, Option.some.injEq]; exact hm h0
    · have e : s.data.toList = [] := List.length_eq_zero_iff.1 (by rw [dlen]; omega)
      rw [e]; simp
  have HN : Hid (∀ v : Nat, numW s.data.toList v = wrap64 (v : Int)) := fun v => by unfold numW; rw [if_neg HH.out]
  have HB : Hid (bare s.data.toList = s.data.toList) := by show _ = _; unfold bare; rw [if_neg HH.out]
  have hm' : ((s[0].toNat : Int) == 45) = false := by
    rw [beq_eq_false_iff_ne]; intro e; apply hm h0; apply UInt8.toNat_inj.1; show s[0].toNat = 45; omega
  clear hm
  go_enter Tryd.func16, Tryd.ntmps16
  go_wp2
  go_loop [5, 6] (fun n i => ∃ k v : Nat, k ≤ s.size ∧ i = .int .i64 k ∧ n = .int .i64 (wrap64 v) ∧ Hid (Lib.decFrom 0 (s.data.toList.take k) = some v) ∧ Hid (0 < k → s.size ≤ 19)) (fun _ i => s.size - (intOf i).toNat)
  case atStart => exact ⟨0, 0, Nat.zero_le _, rfl, by simp [wrap64], by show Lib.decFrom 0 _ = _; rw [List.take_zero]; rfl, fun h => absurd h (Nat.lt_irrefl 0)⟩
  case round =>
    obtain ⟨k, v, hk, rfl, rfl, hv, h6⟩ := hrel
    by_cases hlt : k < s.size
    · have hb0 : (0 : Int) ≤ s[k].toNat := by omega
      have hb1 : (s[k].toNat : Int) ≤ 255 := by have := s[k].toNat_lt; omega
      by_cases hD : digB s[k].toNat = true
      · by_cases hl : 19 < s.size
        · go_wp2_with (go_at_call 18; refine (l01Digit_any _ hb0 hb1 _).mono ?_; rintro e w' ⟨rfl, rfl⟩)
          go_ret2
          exact ⟨ret_num (numR_no (no_long64 (by rw [HB.out, dlen]; exact hl))), rfl⟩
        · have hl6 : s.size ≤ 19 := by omega
          have hdr := dig_range hD
          go_wp2_with (go_at_call 18; refine (l01Digit_any _ hb0 hb1 _).mono ?_; rintro e w' ⟨rfl, rfl⟩)
          go_round
          case rel => exact ⟨k + 1, v * 10 + (s[k].toNat - 48), by omega, by go_num, congrArg (Value.int .i64) (wrap_step v _ hdr.1).symm, dec_step s k v hlt hv.out hD, fun _ => hl6⟩
          case measure => simp [intOf]; omega
      · have hD' : digB s[k].toNat = false := by simpa using hD
        clear hD
        go_wp2_with (go_at_call 18; refine (l01Digit_any _ hb0 hb1 _).mono ?_; rintro e w' ⟨rfl, rfl⟩)
        go_ret2
        exact ⟨ret_num (numR_no (no_digit64 (by rw [HB.out]; exact mem_data s k hlt) hD')), rfl⟩
    · have hv2 := hideP (dec_all s k v (by omega) hv.out)
      by_cases hz : s.size = 0
      · exact absurd h0 (by omega)
      · have hz' : s.toList.isEmpty = false := by rw [Lib.toList_data, List.isEmpty_eq_false_iff]; intro e; have h1 := dlen s; rw [e] at h1; simp at h1; omega
        have hl6 : s.size ≤ 19 := h6.out (by omega)
        by_cases he : (Lib.itoa (wrap64 (v : Int)) == s.toList) = true
        · have HE : Hid (Lib.itoa (wrap64 (v : Int)) = s.data.toList) := by show _ = _; rw [← Lib.toList_data]; exact beq_iff_eq.1 he
          go_wp2_with (go_at_call 19; refine (spec_dec _ _ (by unfold wrap64; omega) (by unfold wrap64; omega)).mono ?_; rintro e w' ⟨rfl, rfl⟩)
          go_ret2
          exact ⟨ret_num (by have e := numR_yes (yes_num64 (v := v) (l := s.data.toList) (by rw [HN.out v]; exact HE.out)); rw [HN.out v] at e; exact e), rfl⟩
        · have he' : (Lib.itoa (wrap64 (v : Int)) == s.toList) = false := by simpa using he
          have HE : Hid (Lib.itoa (wrap64 (v : Int)) ≠ s.data.toList) := by show _ ≠ _; rw [← Lib.toList_data]; exact list_ne he'
          clear he
          go_wp2_with (go_at_call 19; refine (spec_dec _ _ (by unfold wrap64; omega) (by unfold wrap64; omega)).mono ?_; rintro e w' ⟨rfl, rfl⟩)
          go_ret2
          exact ⟨ret_num (numR_no (no_other64 (v := v) (by rw [HB.out]; exact hv2.out) (by rw [HN.out v]; exact HE.out))), rfl⟩

theorem spec_num (s : ByteArray) (w : World) (hs : s.size ≤ 1048576) :
    Calls Tryd.prog 16 #[.string s] w fun e w' => e = .returned (.tuple #[.int .i64 (numR s.data.toList).1, .bool (numR s.data.toList).2]) ∧ w' = w := by
  by_cases h0 : 0 < s.size
  · by_cases hm : s[0] = 45
    · exact spec_num_minus s w hs h0 hm
    · exact spec_num_plain s w hs h0 fun _ => hm
  · exact spec_num_empty s w hs (by omega) fun h => absurd h h0
end Go.Proofs.YtheholgdfmipbaaDoor
