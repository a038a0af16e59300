/- The contract of the specification's l01Next at a number and at a sign. -/
import Derived.Test.YtjgiohhfhncepaaDoorLexNext
namespace Go.Proofs.YtjgiohhfhncepaaDoor
open Go.ChangeShapes Go.WideShapes Go.ChangeAt Go.RowKit

set_option maxHeartbeats 1000000 in
theorem l01Next_num (s : ByteArray) (i : Nat) (w : World) (hs : s.size ≤ 3000) (hi : i < s.size) (hL : letB s[i].toNat = false) (hD : digB s[i].toNat = true) :
    Calls Tryd.prog 31 #[.string s, .int .i64 i] w fun e w' => NextIs (numTok (s.data.toList.drop i)) i e ∧ Below w.heap.size w w' := by
  have hb0 : (0 : Int) ≤ s[i].toNat := by omega
  have hb1 : (s[i].toNat : Int) ≤ 255 := by have := s[i].toNat_lt; omega
  go_enter Tryd.func31, Tryd.ntmps31
  go_wp2_with (first | (go_at_call 39; refine (l01Letter_any _ hb0 hb1 _).mono ?_; rintro e w' ⟨rfl, rfl⟩) | (go_at_call 35; refine (l01Digit_any _ hb0 hb1 _).mono ?_; rintro e w' ⟨rfl, rfl⟩))
  go_loop [6, 7] (fun x y => ∃ k v : Nat, i ≤ k ∧ k ≤ s.size ∧ k - i ≤ 10 ∧ x = .int .i64 k ∧ y = .int .i64 v ∧ Hid (dgl (s.data.toList.drop i) = (k - i) + dgl (s.data.toList.drop k)) ∧ Hid (v = numL ((s.data.toList.drop i).take (k - i))) ∧ Hid (v < 10 ^ (k - i))) (fun x _ => s.size - (intOf x).toNat)
  case atStart => exact ⟨i, 0, Nat.le_refl _, by omega, by omega, rfl, rfl, show _ = _ by simp, show _ = _ by simp [numL], show _ < _ by simp⟩
  case round =>
    obtain ⟨k, v, hik, hks, h10, rfl, rfl, hd, hv, hvb⟩ := hrel
    clear hb0 hb1 hD
    have hv10 : v < 10000000000 := by
      have h1 := hvb.out
      have h2 : (10 : Nat) ^ (k - i) ≤ 10 ^ 10 := Nat.pow_le_pow_right (by decide) h10
      have h3 : (10 : Nat) ^ 10 = 10000000000 := by decide
      omega
    by_cases hlt : k < s.size
    · have hb0 : (0 : Int) ≤ s[k].toNat := by omega
      have hb1 : (s[k].toNat : Int) ≤ 255 := by have := s[k].toNat_lt; omega
      by_cases hD2 : digB s[k].toNat = true
      · have hdr : 48 ≤ (s[k].toNat : Int) ∧ (s[k].toNat : Int) ≤ 57 := of_decide_eq_true hD2
        by_cases h9 : k - i < 10
        · have h9' : (k : Int) - i < 10 := by omega
          go_wp2_with (go_at_call 35; refine (l01Digit_any _ hb0 hb1 _).mono ?_; rintro e w' ⟨rfl, rfl⟩)
          go_round
          case rel =>
            refine ⟨k + 1, v * 10 + (s[k].toNat - 48), by omega, by omega, by omega, by go_num, by go_num, dgl_step s i k hik hlt hD2 hd.out, num_step s i k v hik hlt hv.out, ?_⟩
            show _ < _
            have h1 := hvb.out
            rw [show k + 1 - i = (k - i) + 1 by omega, Nat.pow_succ]; omega
          case measure => simp [intOf]; omega
        · have HN : Hid (numTok (s.data.toList.drop i) = none) := num_none (by rw [hd.out]; omega)
          have h9' : ¬ (k : Int) - i < 10 := by omega
          have h99 : (9 : Int) < (k : Int) - i := by omega
          clear hd hv hvb
          go_wp2_with (go_at_call 35; refine (l01Digit_any _ hb0 hb1 _).mono ?_; rintro e w' ⟨rfl, rfl⟩)
          refine bodyPost_ret (v := .tuple #[.agg #[.int .i64 0, .string ⟨#[]⟩, .int .i64 0, .int .i64 0], .int .i64 (-1)]) (by simp [results, Tryd.results31, go_sem]) rfl ⟨nextIs_none HN.out rfl, (Below.refl _ _).alloc (Nat.le_refl _) _⟩
      · have hD2' : digB s[k].toNat = false := by simpa using hD2
        clear hD2
        have HD : Hid (dgl (s.data.toList.drop i) = k - i) := dgl_stop s i k hlt hD2' hd.out
        clear hd
        by_cases h9 : k - i ≤ 9
        · have HN : Hid (numTok (s.data.toList.drop i) = some ⟨1, [], v, k - i⟩) := num_some HD.out h9 hv.out
          have h9' : ¬ (9 : Int) < (k : Int) - i := by omega
          have h10' : (k : Int) - i < 10 := by omega
          clear hv hvb HD
          go_wp2_with (go_at_call 35; refine (l01Digit_any _ hb0 hb1 _).mono ?_; rintro e w' ⟨rfl, rfl⟩)
          refine bodyPost_ret (v := .tuple #[.agg #[.int .i64 1, .string ⟨#[]⟩, .int .i64 v, .int .i64 0], .int .i64 k]) (by simp [results, Tryd.results31, go_sem]) rfl ⟨nextIs_some HN.out ?_, (Below.refl _ _).alloc (Nat.le_refl _) _⟩
          simp only [tokV]; rw [show i + (k - i) = k by omega]; rfl
        · have HN : Hid (numTok (s.data.toList.drop i) = none) := num_none (by rw [HD.out]; omega)
          have h9' : (9 : Int) < (k : Int) - i := by omega
          have h10' : ¬ (k : Int) - i < 10 := by omega
          clear hv hvb HD
          go_wp2_with (go_at_call 35; refine (l01Digit_any _ hb0 hb1 _).mono ?_; rintro e w' ⟨rfl, rfl⟩)
          exact bodyPost_ret (v := .tuple #[.agg #[.int .i64 0, .string ⟨#[]⟩, .int .i64 0, .int .i64 0], .int .i64 (-1)]) (by simp [results, Tryd.results31, go_sem]) rfl ⟨nextIs_none HN.out rfl, (Below.refl _ _).alloc (Nat.le_refl _) _⟩
    · have HD : Hid (dgl (s.data.toList.drop i) = k - i) := dgl_end s i k (by omega) hd.out
      clear hd
      by_cases h9 : k - i ≤ 9
      · have HN : Hid (numTok (s.data.toList.drop i) = some ⟨1, [], v, k - i⟩) := num_some HD.out h9 hv.out
        have h9' : ¬ (9 : Int) < (k : Int) - i := by omega
        have h10' : (k : Int) - i < 10 := by omega
        clear hv hvb HD
        go_wp2
        refine bodyPost_ret (v := .tuple #[.agg #[.int .i64 1, .string ⟨#[]⟩, .int .i64 v, .int .i64 0], .int .i64 k]) (by simp [results, Tryd.results31, go_sem]) rfl ⟨nextIs_some HN.out ?_, (Below.refl _ _).alloc (Nat.le_refl _) _⟩
        simp only [tokV]; rw [show i + (k - i) = k by omega]; rfl
      · have HN : Hid (numTok (s.data.toList.drop i) = none) := num_none (by rw [HD.out]; omega)
        have h9' : (9 : Int) < (k : Int) - i := by omega
        have h10' : ¬ (k : Int) - i < 10 := by omega
        clear hv hvb HD
        go_wp2
        exact bodyPost_ret (v := .tuple #[.agg #[.int .i64 0, .string ⟨#[]⟩, .int .i64 0, .int .i64 0], .int .i64 (-1)]) (by simp [results, Tryd.results31, go_sem]) rfl ⟨nextIs_none HN.out rfl, (Below.refl _ _).alloc (Nat.le_refl _) _⟩

theorem two_data (s : ByteArray) (i : Nat) : (s.extract i (i + 2)).toList = (s.data.toList.drop i).take 2 := by
  rw [Lib.toList_data, Lib.extract_data, show i + 2 - i = 2 by omega]
theorem two_short (s : ByteArray) (i : Nat) (h : s.size < i + 2) : (s.data.toList.drop i).take 2 ≠ [61, 61] := by
  intro e
  have := congrArg List.length e
  rw [List.length_take, List.length_drop, dlen] at this
  simp at this; omega

set_option maxHeartbeats 1000000 in
theorem l01Next_sign (s : ByteArray) (i : Nat) (w : World) (hs : s.size ≤ 3000) (hi : i < s.size) (hL : letB s[i].toNat = false) (hD : digB s[i].toNat = false) :
    Calls Tryd.prog 31 #[.string s, .int .i64 i] w fun e w' => NextIs (signTok (s.data.toList.drop i)) i e ∧ Below w.heap.size w w' := by
  have hb0 : (0 : Int) ≤ s[i].toNat := by omega
  have hb1 : (s[i].toNat : Int) ≤ 255 := by have := s[i].toNat_lt; omega
  have hx1 := extract_one s i hi
  by_cases h2 : i + 2 ≤ s.size
  · have h2' : ((i : Int) + 2 ≤ (s.size : Int)) := by omega
    by_cases he : ((s.extract i (i + 2)).toList == [61, 61]) = true
    · have HE : Hid ((s.data.toList.drop i).take 2 = [61, 61]) := by show _ = _; rw [← two_data]; exact beq_iff_eq.1 he
      go_enter Tryd.func31, Tryd.ntmps31
      go_wp2_with (first | (go_at_call 39; refine (l01Letter_any _ hb0 hb1 _).mono ?_; rintro e w' ⟨rfl, rfl⟩) | (go_at_call 35; refine (l01Digit_any _ hb0 hb1 _).mono ?_; rintro e w' ⟨rfl, rfl⟩))
      exact bodyPost_ret (v := .tuple #[.agg #[.int .i64 2, .string ⟨#[61, 61]⟩, .int .i64 0, .int .i64 0], .int .i64 ((i : Int) + 2)]) (by simp [results, Tryd.results31, go_sem]) rfl ⟨nextIs_some (sign_two HE.out) rfl, (Below.refl _ _).alloc (Nat.le_refl _) _⟩
    · have he' : ((s.extract i (i + 2)).toList == [61, 61]) = false := by simpa using he
      have HE : Hid ((s.data.toList.drop i).take 2 ≠ [61, 61]) := by show _ ≠ _; rw [← two_data]; exact beq_eq_false_iff_ne.1 he'
      clear he
      by_cases hg : signL s[i] = true
      · go_enter Tryd.func31, Tryd.ntmps31
        go_wp2_with (first | (go_at_call 39; refine (l01Letter_any _ hb0 hb1 _).mono ?_; rintro e w' ⟨rfl, rfl⟩) | (go_at_call 35; refine (l01Digit_any _ hb0 hb1 _).mono ?_; rintro e w' ⟨rfl, rfl⟩) | (go_at_call 36; refine (has_any theSigns (wd [s[i]]) _ 14 _ (by decide) (fun j h => lit_cells2 _ theSigns _ 9 _ (by simp) rfl j h)).mono ?_; rw [hasB_signs]; rintro e w' ⟨rfl, rfl⟩))
        refine bodyPost_ret (v := .tuple #[.agg #[.int .i64 2, .string (wd [s[i]]), .int .i64 0, .int .i64 0], .int .i64 ((i + 1 : Nat) : Int)]) (by simp [results, Tryd.results31, go_sem]) rfl ⟨nextIs_some (sign_one HE.out (head_drop s i hi) hg) rfl, ?_⟩
        exact ((Below.refl _ _).alloc (Nat.le_refl _) _).alloc (by simp) _
      · have hg' : signL s[i] = false := by simpa using hg
        clear hg
        go_enter Tryd.func31, Tryd.ntmps31
        go_wp2_with (first | (go_at_call 39; refine (l01Letter_any _ hb0 hb1 _).mono ?_; rintro e w' ⟨rfl, rfl⟩) | (go_at_call 35; refine (l01Digit_any _ hb0 hb1 _).mono ?_; rintro e w' ⟨rfl, rfl⟩) | (go_at_call 36; refine (has_any theSigns (wd [s[i]]) _ 14 _ (by decide) (fun j h => lit_cells2 _ theSigns _ 9 _ (by simp) rfl j h)).mono ?_; rw [hasB_signs]; rintro e w' ⟨rfl, rfl⟩))
        refine bodyPost_ret (v := .tuple #[.agg #[.int .i64 0, .string ⟨#[]⟩, .int .i64 0, .int .i64 0], .int .i64 (-1)]) (by simp [results, Tryd.results31, go_sem]) rfl ⟨nextIs_none (sign_none HE.out (head_drop s i hi) hg') rfl, ?_⟩
        exact ((Below.refl _ _).alloc (Nat.le_refl _) _).alloc (by simp) _
  · have h2' : ¬ ((i : Int) + 2 ≤ (s.size : Int)) := by omega
    have HE : Hid ((s.data.toList.drop i).take 2 ≠ [61, 61]) := two_short s i (by omega)
    by_cases hg : signL s[i] = true
    · go_enter Tryd.func31, Tryd.ntmps31
      go_wp2_with (first | (go_at_call 39; refine (l01Letter_any _ hb0 hb1 _).mono ?_; rintro e w' ⟨rfl, rfl⟩) | (go_at_call 35; refine (l01Digit_any _ hb0 hb1 _).mono ?_; rintro e w' ⟨rfl, rfl⟩) | (go_at_call 36; refine (has_any theSigns (wd [s[i]]) _ 14 _ (by decide) (fun j h => lit_cells2 _ theSigns _ 9 _ (by simp) rfl j h)).mono ?_; rw [hasB_signs]; rintro e w' ⟨rfl, rfl⟩))
      refine bodyPost_ret (v := .tuple #[.agg #[.int .i64 2, .string (wd [s[i]]), .int .i64 0, .int .i64 0], .int .i64 ((i + 1 : Nat) : Int)]) (by simp [results, Tryd.results31, go_sem]) rfl ⟨nextIs_some (sign_one HE.out (head_drop s i hi) hg) rfl, ?_⟩
      exact ((Below.refl _ _).alloc (Nat.le_refl _) _).alloc (by simp) _
    · have hg' : signL s[i] = false := by simpa using hg
      clear hg
      go_enter Tryd.func31, Tryd.ntmps31
      go_wp2_with (first | (go_at_call 39; refine (l01Letter_any _ hb0 hb1 _).mono ?_; rintro e w' ⟨rfl, rfl⟩) | (go_at_call 35; refine (l01Digit_any _ hb0 hb1 _).mono ?_; rintro e w' ⟨rfl, rfl⟩) | (go_at_call 36; refine (has_any theSigns (wd [s[i]]) _ 14 _ (by decide) (fun j h => lit_cells2 _ theSigns _ 9 _ (by simp) rfl j h)).mono ?_; rw [hasB_signs]; rintro e w' ⟨rfl, rfl⟩))
      refine bodyPost_ret (v := .tuple #[.agg #[.int .i64 0, .string ⟨#[]⟩, .int .i64 0, .int .i64 0], .int .i64 (-1)]) (by simp [results, Tryd.results31, go_sem]) rfl ⟨nextIs_none (sign_none HE.out (head_drop s i hi) hg') rfl, ?_⟩
      exact ((Below.refl _ _).alloc (Nat.le_refl _) _).alloc (by simp) _

theorem l01Next_any (s : ByteArray) (i : Nat) (w : World) (hs : s.size ≤ 3000) (hi : i < s.size) :
    Calls Tryd.prog 31 #[.string s, .int .i64 i] w fun e w' => NextIs (nextL (s.data.toList.drop i)) i e ∧ Below w.heap.size w w' := by
  unfold nextL
  rw [head_drop s i hi]
  by_cases hL : letB s[i].toNat = true
  · rw [if_pos hL]; exact l01Next_name s i w hs hi hL
  · rw [if_neg hL]
    by_cases hD : digB s[i].toNat = true
    · rw [if_pos hD]; exact l01Next_num s i w hs hi (by simpa using hL) hD
    · rw [if_neg hD]; exact l01Next_sign s i w hs hi (by simpa using hL) (by simpa using hD)
end Go.Proofs.YtjgiohhfhncepaaDoor
