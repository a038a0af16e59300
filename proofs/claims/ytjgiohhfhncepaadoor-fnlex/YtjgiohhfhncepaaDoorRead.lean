/- The contracts of both ReadInt: the number whose text it is, or 0 and false. -/
import Derived.Test.YtjgiohhfhncepaaDoorNames
import Derived.Test.YtjgiohhfhncepaaDoorDec
import Derived.Test.YtjgiohhfhncepaaDoorReadPlain
import Derived.Test.YtjgiohhfhncepaaDoorBelow
namespace Go.Proofs.YtjgiohhfhncepaaDoor
open Go.ChangeShapes Go.WideShapes Go.ChangeAt Go.RowKit

theorem ret_read {l : List UInt8} {n : Int} {b : Bool} (h : readR l = (n, b)) : Ending.returned (.tuple #[.int .i64 n, .bool b]) = .returned (.tuple #[.int .i64 (readR l).1, .bool (readR l).2]) := by rw [h]
theorem mem_data (t : ByteArray) (k : Nat) (h : k < t.size) : t[k] ∈ t.data.toList := by
  have := drop_cons t k h
  exact List.mem_of_mem_drop (by rw [this]; exact List.mem_cons_self)
theorem digitVal_of {c : UInt8} (h : digB c.toNat = true) : Lib.digitVal c = some (c.toNat - 48) := by
  have := of_decide_eq_true h
  unfold Lib.digitVal; rw [if_pos (by omega)]
theorem dig_range {c : UInt8} (h : digB c.toNat = true) : 48 ≤ (c.toNat : Int) ∧ (c.toNat : Int) ≤ 57 := of_decide_eq_true h
theorem dec_step (t : ByteArray) (k v : Nat) (h : k < t.size) (hv : Lib.decFrom 0 (t.data.toList.take k) = some v) (hd : digB t[k].toNat = true) :
    Lib.decFrom 0 (t.data.toList.take (k + 1)) = some (v * 10 + (t[k].toNat - 48)) :=
  Lib.decFrom_take _ k 0 v t[k] _ hv (by rw [List.getElem?_eq_getElem (by rw [dlen]; exact h)]; rfl) (digitVal_of hd)
theorem dec_small (t : ByteArray) (k v : Nat) (h : k ≤ 6) (hv : Lib.decFrom 0 (t.data.toList.take k) = some v) : v ≤ 999999 := by
  have h1 := Lib.decFrom_lt _ 0 v hv
  have h2 : (10 : Nat) ^ (t.data.toList.take k).length ≤ 10 ^ 6 := Nat.pow_le_pow_right (by decide) (by rw [List.length_take]; omega)
  have h3 : (10 : Nat) ^ 6 = 1000000 := by decide
  omega
theorem dec_all (t : ByteArray) (k v : Nat) (h : t.size ≤ k) (hv : Lib.decFrom 0 (t.data.toList.take k) = some v) : Lib.decFrom 0 t.data.toList = some v := by
  rw [List.take_of_length_le (by rw [dlen]; exact h)] at hv; exact hv
theorem list_ne {a b : List UInt8} (h : (a == b) = false) : a ≠ b := by intro e; subst e; simp at h

set_option maxHeartbeats 800000 in
theorem spec_read_minus (s : ByteArray) (w : World) (hs : s.size ≤ 1048576) (h0 : 0 < s.size) (hm : s[0] = 45) :
    Calls Tryd.prog 14 #[.string s] w fun e w' => e = .returned (.tuple #[.int .i64 (readR s.data.toList).1, .bool (readR s.data.toList).2]) ∧ w' = w := by
  obtain ⟨t, ht⟩ : ∃ t, s.extract 1 s.size = t := ⟨_, rfl⟩
  have hts : t.size + 1 = s.size := by rw [← ht, ByteArray.size_extract]; omega
  have hm' : ((s[0].toNat : Int) == 45) = true := by rw [hm]; rfl
  have HM : Hid (s[0] = 45) := hm
  clear hm
  have hd := drop_cons s 0 h0
  rw [List.drop_zero] at hd
  have HH : Hid (s.data.toList.head? = some 45) := by show _ = _; rw [hd, HM.out]; rfl
  have HB : Hid (bare s.data.toList = t.data.toList) := by
    show _ = _
    unfold bare
    rw [if_pos HH.out, ← ht, Lib.extract_data, List.take_of_length_le (by rw [List.length_drop, dlen]; omega), List.drop_one]
  have hne : (t.toList == s.toList) = false := by
    rw [Lib.toList_data, Lib.toList_data, beq_eq_false_iff_ne]; intro e
    have h1 := dlen t; have h2 := dlen s; rw [e] at h1; omega
  clear hd
  go_enter Tryd.func14, Tryd.ntmps14
  go_wp2
  go_loop [5, 6] (fun n i => ∃ k v : Nat, k ≤ t.size ∧ i = .int .i64 k ∧ n = .int .i64 v ∧ Hid (Lib.decFrom 0 (t.data.toList.take k) = some v) ∧ Hid (0 < k → t.size ≤ 6)) (fun _ i => t.size - (intOf i).toNat)
  case atStart => exact ⟨0, 0, Nat.zero_le _, rfl, rfl, by show Lib.decFrom 0 _ = _; rw [List.take_zero]; rfl, fun h => absurd h (Nat.lt_irrefl 0)⟩
  case round =>
    obtain ⟨k, v, hk, rfl, rfl, hv, h6⟩ := hrel
    by_cases hlt : k < t.size
    · have hb0 : (0 : Int) ≤ t[k].toNat := by omega
      have hb1 : (t[k].toNat : Int) ≤ 255 := by have := t[k].toNat_lt; omega
      by_cases hD : digB t[k].toNat = true
      · by_cases hl : 6 < t.size
        · go_wp2_with (go_at_call 35; refine (l01Digit_any _ hb0 hb1 _).mono ?_; rintro e w' ⟨rfl, rfl⟩)
          go_ret2
          exact ⟨ret_read (readR_no (no_long (by rw [HB.out, dlen]; exact hl))), rfl⟩
        · have hl6 : t.size ≤ 6 := by omega
          have hvs := dec_small t k v (by omega) hv.out
          have hdr := dig_range hD
          go_wp2_with (go_at_call 35; refine (l01Digit_any _ hb0 hb1 _).mono ?_; rintro e w' ⟨rfl, rfl⟩)
          go_round
          case rel => exact ⟨k + 1, v * 10 + (t[k].toNat - 48), by omega, by go_num, by go_num, dec_step t k v hlt hv.out hD, fun _ => hl6⟩
          case measure => simp [intOf]; omega
      · have hD' : digB t[k].toNat = false := by simpa using hD
        clear hD
        go_wp2_with (go_at_call 35; refine (l01Digit_any _ hb0 hb1 _).mono ?_; rintro e w' ⟨rfl, rfl⟩)
        go_ret2
        exact ⟨ret_read (readR_no (no_digit (by rw [HB.out]; exact mem_data t k hlt) hD')), rfl⟩
    · have hv2 := hideP (dec_all t k v (by omega) hv.out)
      by_cases hz : t.size = 0
      · have hz' : t.toList.isEmpty = true := by rw [Lib.toList_data, List.isEmpty_iff_length_eq_zero, dlen]; exact hz
        have hvb : v ≤ 999999 := dec_small t k v (by omega) hv.out
        go_wp2
        go_ret2
        exact ⟨ret_read (readR_no (no_empty (by rw [HB.out]; exact List.length_eq_zero_iff.1 (by rw [dlen]; exact hz)))), rfl⟩
      · have hz' : t.toList.isEmpty = false := by rw [Lib.toList_data, List.isEmpty_eq_false_iff]; intro e; have h1 := dlen t; rw [e] at h1; simp at h1; omega
        have hl6 : t.size ≤ 6 := h6.out (by omega)
        have hvb : v ≤ 999999 := dec_small t k v (by omega) hv.out
        by_cases he : (Lib.itoa (-(v : Int)) == s.toList) = true
        · have HE : Hid (Lib.itoa (-(v : Int)) = s.data.toList) := by show _ = _; rw [← Lib.toList_data]; exact beq_iff_eq.1 he
          go_wp2_with (go_at_call 20; refine (spec_dec _ _ (by omega) (by omega)).mono ?_; rintro e w' ⟨rfl, rfl⟩)
          go_ret2
          exact ⟨ret_read (readR_yes (yes_num (by rw [HB.out]; exact hv2.out) (by rw [HB.out, dlen]; exact hl6) (by rw [if_pos HH.out]) HE.out)), rfl⟩
        · have he' : (Lib.itoa (-(v : Int)) == s.toList) = false := by simpa using he
          have HE : Hid (Lib.itoa (-(v : Int)) ≠ s.data.toList) := by show _ ≠ _; rw [← Lib.toList_data]; exact list_ne he'
          clear he
          go_wp2_with (go_at_call 20; refine (spec_dec _ _ (by omega) (by omega)).mono ?_; rintro e w' ⟨rfl, rfl⟩)
          go_ret2
          exact ⟨ret_read (readR_no (no_other (v := v) (by rw [HB.out]; exact hv2.out) (by rw [if_pos HH.out]) HE.out)), rfl⟩

set_option maxHeartbeats 800000 in
theorem spec_read_empty (s : ByteArray) (w : World) (_hs : s.size ≤ 1048576) (h0 : s.size = 0) (hm : ∀ h : 0 < s.size, s[0] ≠ 45) :
    Calls Tryd.prog 14 #[.string s] w fun e w' => e = .returned (.tuple #[.int .i64 (readR s.data.toList).1, .bool (readR s.data.toList).2]) ∧ w' = w := by
  have HH : Hid (s.data.toList.head? ≠ some 45) := by
    show _ ≠ _
    by_cases h0 : 0 < s.size
    · have hd := drop_cons s 0 h0
      rw [List.drop_zero] at hd
      rw [hd]; simp only [List.head?_cons, ne_eq, Option.some.injEq]; exact hm h0
    · have e : s.data.toList = [] := List.length_eq_zero_iff.1 (by rw [dlen]; omega)
      rw [e]; simp
  have HB : Hid (bare s.data.toList = s.data.toList) := by show _ = _; unfold bare; rw [if_neg HH.out]
  clear hm
  go_enter Tryd.func14, Tryd.ntmps14
  go_wp2
  go_loop [5, 6] (fun n i => ∃ k v : Nat, k ≤ s.size ∧ i = .int .i64 k ∧ n = .int .i64 v ∧ Hid (Lib.decFrom 0 (s.data.toList.take k) = some v) ∧ Hid (0 < k → s.size ≤ 6)) (fun _ i => s.size - (intOf i).toNat)
  case atStart => exact ⟨0, 0, Nat.zero_le _, rfl, rfl, by show Lib.decFrom 0 _ = _; rw [List.take_zero]; rfl, fun h => absurd h (Nat.lt_irrefl 0)⟩
  case round =>
    obtain ⟨k, v, hk, rfl, rfl, hv, h6⟩ := hrel
    by_cases hlt : k < s.size
    · exact absurd hlt (by omega)
    · have hv2 := hideP (dec_all s k v (by omega) hv.out)
      by_cases hz : s.size = 0
      · have hz' : s.toList.isEmpty = true := by rw [Lib.toList_data, List.isEmpty_iff_length_eq_zero, dlen]; exact hz
        have hvb : v ≤ 999999 := dec_small s k v (by omega) hv.out
        go_wp2
        go_ret2
        exact ⟨ret_read (readR_no (no_empty (by rw [HB.out]; exact List.length_eq_zero_iff.1 (by rw [dlen]; exact hz)))), rfl⟩
      · exact absurd h0 hz

set_option maxHeartbeats 800000 in
theorem spec_read_plain (s : ByteArray) (w : World) (hs : s.size ≤ 1048576) (h0 : 0 < s.size) (hm : ∀ h : 0 < s.size, s[0] ≠ 45) :
    Calls Tryd.prog 14 #[.string s] w fun e w' => e = .returned (.tuple #[.int .i64 (readR s.data.toList).1, .bool (readR s.data.toList).2]) ∧ w' = w := by
  have HH : Hid (s.data.toList.head? ≠ some 45) := by
    show _ ≠ _
    by_cases h0 : 0 < s.size
    · have hd := drop_cons s 0 h0
      rw [List.drop_zero] at hd
      rw [hd]; simp only [List.head?_cons, ne_eq, Option.some.injEq]; exact hm h0
    · have e : s.data.toList = [] := List.length_eq_zero_iff.1 (by rw [dlen]; omega)
      rw [e]; simp
  have HB : Hid (bare s.data.toList = s.data.toList) := by show _ = _; unfold bare; rw [if_neg HH.out]
  have hm' : ((s[0].toNat : Int) == 45) = false := by
    rw [beq_eq_false_iff_ne]; intro e; apply hm h0; apply UInt8.toNat_inj.1; show s[0].toNat = 45; omega
  clear hm
  go_enter Tryd.func14, Tryd.ntmps14
  go_wp2
  go_loop [5, 6] (fun n i => ∃ k v : Nat, k ≤ s.size ∧ i = .int .i64 k ∧ n = .int .i64 v ∧ Hid (Lib.decFrom 0 (s.data.toList.take k) = some v) ∧ Hid (0 < k → s.size ≤ 6)) (fun _ i => s.size - (intOf i).toNat)
  case atStart => exact ⟨0, 0, Nat.zero_le _, rfl, rfl, by show Lib.decFrom 0 _ = _; rw [List.take_zero]; rfl, fun h => absurd h (Nat.lt_irrefl 0)⟩
  case round =>
    obtain ⟨k, v, hk, rfl, rfl, hv, h6⟩ := hrel
    by_cases hlt : k < s.size
    · have hb0 : (0 : Int) ≤ s[k].toNat := by omega
      have hb1 : (s[k].toNat : Int) ≤ 255 := by have := s[k].toNat_lt; omega
      by_cases hD : digB s[k].toNat = true
      · by_cases hl : 6 < s.size
        · go_wp2_with (go_at_call 35; refine (l01Digit_any _ hb0 hb1 _).mono ?_; rintro e w' ⟨rfl, rfl⟩)
          go_ret2
          exact ⟨ret_read (readR_no (no_long (by rw [HB.out, dlen]; exact hl))), rfl⟩
        · have hl6 : s.size ≤ 6 := by omega
          have hvs := dec_small s k v (by omega) hv.out
          have hdr := dig_range hD
          go_wp2_with (go_at_call 35; refine (l01Digit_any _ hb0 hb1 _).mono ?_; rintro e w' ⟨rfl, rfl⟩)
          go_round
          case rel => exact ⟨k + 1, v * 10 + (s[k].toNat - 48), by omega, by go_num, by go_num, dec_step s k v hlt hv.out hD, fun _ => hl6⟩
          case measure => simp [intOf]; omega
      · have hD' : digB s[k].toNat = false := by simpa using hD
        clear hD
        go_wp2_with (go_at_call 35; refine (l01Digit_any _ hb0 hb1 _).mono ?_; rintro e w' ⟨rfl, rfl⟩)
        go_ret2
        exact ⟨ret_read (readR_no (no_digit (by rw [HB.out]; exact mem_data s k hlt) hD')), rfl⟩
    · have hv2 := hideP (dec_all s k v (by omega) hv.out)
      by_cases hz : s.size = 0
      · exact absurd h0 (by omega)
      · have hz' : s.toList.isEmpty = false := by rw [Lib.toList_data, List.isEmpty_eq_false_iff]; intro e; have h1 := dlen s; rw [e] at h1; simp at h1; omega
        have hl6 : s.size ≤ 6 := h6.out (by omega)
        have hvb : v ≤ 999999 := dec_small s k v (by omega) hv.out
        by_cases he : (Lib.itoa ((v : Int)) == s.toList) = true
        · have HE : Hid (Lib.itoa ((v : Int)) = s.data.toList) := by show _ = _; rw [← Lib.toList_data]; exact beq_iff_eq.1 he
          go_wp2_with (go_at_call 20; refine (spec_dec _ _ (by omega) (by omega)).mono ?_; rintro e w' ⟨rfl, rfl⟩)
          go_ret2
          exact ⟨ret_read (readR_yes (yes_num (by rw [HB.out]; exact hv2.out) (by rw [HB.out, dlen]; exact hl6) (by rw [if_neg HH.out]) HE.out)), rfl⟩
        · have he' : (Lib.itoa ((v : Int)) == s.toList) = false := by simpa using he
          have HE : Hid (Lib.itoa ((v : Int)) ≠ s.data.toList) := by show _ ≠ _; rw [← Lib.toList_data]; exact list_ne he'
          clear he
          go_wp2_with (go_at_call 20; refine (spec_dec _ _ (by omega) (by omega)).mono ?_; rintro e w' ⟨rfl, rfl⟩)
          go_ret2
          exact ⟨ret_read (readR_no (no_other (v := v) (by rw [HB.out]; exact hv2.out) (by rw [if_neg HH.out]) HE.out)), rfl⟩

theorem spec_read (s : ByteArray) (w : World) (hs : s.size ≤ 1048576) :
    Calls Tryd.prog 14 #[.string s] w fun e w' => e = .returned (.tuple #[.int .i64 (readR s.data.toList).1, .bool (readR s.data.toList).2]) ∧ w' = w := by
  by_cases h0 : 0 < s.size
  · by_cases hm : s[0] = 45
    · exact spec_read_minus s w hs h0 hm
    · exact spec_read_plain s w hs h0 fun _ => hm
  · exact spec_read_empty s w hs (by omega) fun h => absurd h h0
end Go.Proofs.YtjgiohhfhncepaaDoor
