/- The contracts of the classes of bytes, of nameLength and of both NameOk. -/
import Derived.Test.YtjgiohhfhncepaaDoorIsWord
namespace Go.Proofs.YtjgiohhfhncepaaDoor
open Go.ChangeShapes Go.WideShapes Go.ChangeAt Go.RowKit

theorem l01Letter_any (n : Int) (h0 : 0 ≤ n) (h1 : n ≤ 255) (w : World) :
    Calls Tryd.prog 39 #[.int .u8 n] w fun e w' => e = .returned (.bool (letB n)) ∧ w' = w := by
  go_enter Tryd.func39, Tryd.ntmps39
  go_wp2_with fail
  refine (l01In_any _ _ _ _).mono ?_
  rintro e w' ⟨rfl, rfl⟩
  go_wp2
  go_ret
  exact ⟨rfl, rfl⟩
theorem l01Digit_any (n : Int) (h0 : 0 ≤ n) (h1 : n ≤ 255) (w : World) :
    Calls Tryd.prog 35 #[.int .u8 n] w fun e w' => e = .returned (.bool (digB n)) ∧ w' = w := by
  go_enter Tryd.func35, Tryd.ntmps35
  go_wp2_with fail
  refine (l01In_any _ _ _ _).mono ?_
  rintro e w' ⟨rfl, rfl⟩
  go_wp2
  go_ret
  exact ⟨rfl, rfl⟩
theorem isLetter_any (n : Int) (w : World) :
    Calls Tryd.prog 37 #[.int .u8 n] w fun e w' => e = .returned (.bool (letB n)) ∧ w' = w := by
  go_enter Tryd.func37, Tryd.ntmps37
  go_wp2
  all_goals go_ret
  all_goals exact ⟨ret_bool (by simp [letB, inB]; omega), rfl⟩
theorem isDigit_any (n : Int) (w : World) :
    Calls Tryd.prog 47 #[.int .u8 n] w fun e w' => e = .returned (.bool (digB n)) ∧ w' = w := by
  go_enter Tryd.func47, Tryd.ntmps47
  go_wp2
  all_goals go_ret
  all_goals exact ⟨ret_bool (by simp [digB, inB]; omega), rfl⟩

set_option maxHeartbeats 400000 in
theorem nameLength_any (s : ByteArray) (w : World) (hs : s.size ≤ maxLen) :
    Calls Tryd.prog 38 #[.string s] w fun e w' => e = .returned (.int .i64 (nlen s.data.toList)) ∧ w' = w := by
  unfold maxLen at hs
  go_enter Tryd.func38, Tryd.ntmps38
  go_wp2
  go_loop [3] (fun i => ∃ k : Nat, k ≤ s.size ∧ i = .int .i64 k ∧ Hid (nlen s.data.toList = k + nlen (s.data.toList.drop k))) (fun i => s.size - (intOf i).toNat)
  case atStart => exact ⟨0, Nat.zero_le _, rfl, show _ = _ by simp⟩
  case round =>
    obtain ⟨k, hk, rfl, hd⟩ := hrel
    by_cases hlt : k < s.size
    · by_cases hL : letB s[k].toNat = true
      · have HA : Hid (an s[k] = true) := by show an s[k] = true; simp [an, hL]
        go_wp2_with (go_at_call 37; refine (isLetter_any _ _).mono ?_; rintro e w' ⟨rfl, rfl⟩)
        go_round
        case rel => exact ⟨k + 1, by omega, by go_num, show _ = _ by rw [hd.out, nlen_step s k hlt HA.out]; omega⟩
        case measure => simp [intOf]; omega
      · have hL' : letB s[k].toNat = false := by simpa using hL
        clear hL
        by_cases hD : digB s[k].toNat = true
        · have HA : Hid (an s[k] = true) := by show an s[k] = true; simp [an, hD]
          go_wp2_with (first | (go_at_call 37; refine (isLetter_any _ _).mono ?_; rintro e w' ⟨rfl, rfl⟩) | (go_at_call 47; refine (isDigit_any _ _).mono ?_; rintro e w' ⟨rfl, rfl⟩))
          go_round
          case rel => exact ⟨k + 1, by omega, by go_num, show _ = _ by rw [hd.out, nlen_step s k hlt HA.out]; omega⟩
          case measure => simp [intOf]; omega
        · have hD' : digB s[k].toNat = false := by simpa using hD
          clear hD
          have HA : Hid (an s[k] = false) := by show an s[k] = false; simp [an, hL', hD']
          go_wp2_with (first | (go_at_call 37; refine (isLetter_any _ _).mono ?_; rintro e w' ⟨rfl, rfl⟩) | (go_at_call 47; refine (isDigit_any _ _).mono ?_; rintro e w' ⟨rfl, rfl⟩))
          go_ret
          exact ⟨ret_int (by rw [hd.out, nlen_stop s k hlt HA.out]; simp), rfl⟩
    · go_wp2
      go_ret
      exact ⟨ret_int (by rw [hd.out, nlen_end s k (by omega)]; simp), rfl⟩

set_option maxHeartbeats 400000 in
theorem impl_nameOk (s : ByteArray) (w : World) (hs : s.size ≤ maxLen) :
    Calls Tryd.prog 17 #[.string s] w fun e w' => e = .returned (.bool (nameL s.data.toList)) ∧ w' = w := by
  have hs' := hs
  unfold maxLen at hs
  by_cases h1 : s.size < 1
  · go_enter Tryd.func17, Tryd.ntmps17
    go_wp2
    go_ret
    exact ⟨ret_bool (nameL_short s h1).symm, rfl⟩
  · by_cases h8 : 8 < s.size
    · go_enter Tryd.func17, Tryd.ntmps17
      go_wp2
      go_ret
      exact ⟨ret_bool (nameL_long s h8).symm, rfl⟩
    · have h0 : 0 < s.size := by omega
      by_cases hL : letB s[0].toNat = true
      · have hl := nlen_le s.data.toList
        rw [dlen] at hl
        by_cases hn : nlen s.data.toList = s.size
        · have hn' : ((nlen s.data.toList : Int) == (s.size : Int)) = true := by simp [hn]
          have HN : Hid (nlen s.data.toList = s.size) := hn
          clear hn
          by_cases hw : isWordL s.data.toList = true
          · go_enter Tryd.func17, Tryd.ntmps17
            go_wp2_with (first | (go_at_call 37; refine (isLetter_any _ _).mono ?_; rintro e w' ⟨rfl, rfl⟩) | (go_at_call 38; refine (nameLength_any _ _ hs').mono ?_; rintro e w' ⟨rfl, rfl⟩) | (go_at_call 15; refine (impl_isWord _ _).mono ?_; rintro e w' ⟨rfl, rfl⟩))
            go_ret
            exact ⟨ret_bool (nameL_word s hw).symm, rfl⟩
          · have hw' : isWordL s.data.toList = false := by simpa using hw
            clear hw
            go_enter Tryd.func17, Tryd.ntmps17
            go_wp2_with (first | (go_at_call 37; refine (isLetter_any _ _).mono ?_; rintro e w' ⟨rfl, rfl⟩) | (go_at_call 38; refine (nameLength_any _ _ hs').mono ?_; rintro e w' ⟨rfl, rfl⟩) | (go_at_call 15; refine (impl_isWord _ _).mono ?_; rintro e w' ⟨rfl, rfl⟩))
            go_ret
            exact ⟨ret_bool (nameL_yes s (by omega) (by omega) hL HN.out hw').symm, rfl⟩
        · have hn' : ((nlen s.data.toList : Int) == (s.size : Int)) = false := by simp; omega
          have HN : Hid (nlen s.data.toList ≠ s.size) := hn
          clear hn
          go_enter Tryd.func17, Tryd.ntmps17
          go_wp2_with (first | (go_at_call 37; refine (isLetter_any _ _).mono ?_; rintro e w' ⟨rfl, rfl⟩) | (go_at_call 38; refine (nameLength_any _ _ hs').mono ?_; rintro e w' ⟨rfl, rfl⟩) | (go_at_call 15; refine (impl_isWord _ _).mono ?_; rintro e w' ⟨rfl, rfl⟩))
          go_ret
          exact ⟨ret_bool (nameL_nlen s HN.out).symm, rfl⟩
      · have hL' : letB s[0].toNat = false := by simpa using hL
        clear hL
        go_enter Tryd.func17, Tryd.ntmps17
        go_wp2_with (go_at_call 37; refine (isLetter_any _ _).mono ?_; rintro e w' ⟨rfl, rfl⟩)
        go_ret
        exact ⟨ret_bool (nameL_head s h0 hL').symm, rfl⟩

set_option maxHeartbeats 400000 in
theorem spec_nameOk (s : ByteArray) (w : World) (hs : s.size ≤ maxLen) :
    Calls Tryd.prog 18 #[.string s] w fun e w' => e = .returned (.bool (nameL s.data.toList)) ∧ Below w.heap.size w w' := by
  unfold maxLen at hs
  go_enter Tryd.func18, Tryd.ntmps18
  go_wp2
  go_loop [3] (fun i => ∃ k : Nat, k ≤ s.size ∧ i = .int .i64 k ∧ Hid (nlen s.data.toList = k + nlen (s.data.toList.drop k)) ∧ Hid (0 < k → ∀ h : 0 < s.size, letB s[0].toNat = true)) (fun i => s.size - (intOf i).toNat)
  case atStart => exact ⟨0, Nat.zero_le _, rfl, show _ = _ by simp, fun h => absurd h (Nat.lt_irrefl 0)⟩
  case round =>
    obtain ⟨k, hk, rfl, hd, hf⟩ := hrel
    by_cases hlt : k < s.size
    · have hb0 : (0 : Int) ≤ s[k].toNat := by omega
      have hb1 : (s[k].toNat : Int) ≤ 255 := by have := s[k].toNat_lt; omega
      by_cases hL : letB s[k].toNat = true
      · have HA : Hid (an s[k] = true) := by show an s[k] = true; simp [an, hL]
        go_wp2_with (go_at_call 39; refine (l01Letter_any _ hb0 hb1 _).mono ?_; rintro e w' ⟨rfl, rfl⟩)
        go_round
        case rel =>
          refine ⟨k + 1, by omega, by go_num, show _ = _ by rw [hd.out, nlen_step s k hlt HA.out]; omega, fun _ h => ?_⟩
          by_cases hk0 : k = 0
          · subst hk0; exact hL
          · exact hf.out (by omega) h
        case measure => simp [intOf]; omega
      · have hL' : letB s[k].toNat = false := by simpa using hL
        clear hL
        by_cases hk0 : k = 0
        · subst hk0
          go_wp2_with (go_at_call 39; refine (l01Letter_any _ hb0 hb1 _).mono ?_; rintro e w' ⟨rfl, rfl⟩)
          go_ret
          exact ⟨ret_bool (nameL_head s hlt hL').symm, Below.refl _ _⟩
        · have hk1 : ((k : Int) == 0) = false := by simp; omega
          by_cases hD : digB s[k].toNat = true
          · have HA : Hid (an s[k] = true) := by show an s[k] = true; simp [an, hD]
            go_wp2_with (first | (go_at_call 39; refine (l01Letter_any _ hb0 hb1 _).mono ?_; rintro e w' ⟨rfl, rfl⟩) | (go_at_call 35; refine (l01Digit_any _ hb0 hb1 _).mono ?_; rintro e w' ⟨rfl, rfl⟩))
            go_round
            case rel => exact ⟨k + 1, by omega, by go_num, show _ = _ by rw [hd.out, nlen_step s k hlt HA.out]; omega, fun _ h => hf.out (by omega) h⟩
            case measure => simp [intOf]; omega
          · have hD' : digB s[k].toNat = false := by simpa using hD
            clear hD
            have HA : Hid (an s[k] = false) := by show an s[k] = false; simp [an, hL', hD']
            go_wp2_with (first | (go_at_call 39; refine (l01Letter_any _ hb0 hb1 _).mono ?_; rintro e w' ⟨rfl, rfl⟩) | (go_at_call 35; refine (l01Digit_any _ hb0 hb1 _).mono ?_; rintro e w' ⟨rfl, rfl⟩))
            go_ret
            exact ⟨ret_bool (nameL_nlen s (by rw [hd.out, nlen_stop s k hlt HA.out]; omega)).symm, Below.refl _ _⟩
    · have HN : Hid (nlen s.data.toList = s.size) := show _ = _ by rw [hd.out, nlen_end s k (by omega)]; omega
      have hks : s.size ≤ k := by omega
      by_cases hi : inB s.size 1 8 = true
      · have h18 : 1 ≤ s.size ∧ s.size ≤ 8 := by have := of_decide_eq_true hi; omega
        have hL := hf.out (by omega) (by omega)
        clear hf hd
        by_cases hw : isWordL s.data.toList = true
        · go_wp2_with (first | (go_at_call 40; refine (l01In_any _ _ _ _).mono ?_; rintro e w' ⟨rfl, rfl⟩) | (go_at_call 16; refine (spec_isWord _ _).mono ?_; rintro e w' ⟨rfl, bel⟩))
          go_ret
          exact ⟨ret_bool (nameL_word s hw).symm, bel⟩
        · have hw' : isWordL s.data.toList = false := by simpa using hw
          clear hw
          go_wp2_with (first | (go_at_call 40; refine (l01In_any _ _ _ _).mono ?_; rintro e w' ⟨rfl, rfl⟩) | (go_at_call 16; refine (spec_isWord _ _).mono ?_; rintro e w' ⟨rfl, bel⟩))
          go_ret
          exact ⟨ret_bool (nameL_yes s h18.1 h18.2 hL HN.out hw').symm, bel⟩
      · have hi' : inB s.size 1 8 = false := by simpa using hi
        have h18 : s.size < 1 ∨ 8 < s.size := by have := of_decide_eq_false hi'; omega
        clear hi hf hd
        go_wp2_with (go_at_call 40; refine (l01In_any _ _ _ _).mono ?_; rintro e w' ⟨rfl, rfl⟩)
        go_ret
        exact ⟨ret_bool (h18.elim (fun h => (nameL_short s h).symm) fun h => (nameL_long s h).symm), Below.refl _ _⟩
end Go.Proofs.YtjgiohhfhncepaaDoor
