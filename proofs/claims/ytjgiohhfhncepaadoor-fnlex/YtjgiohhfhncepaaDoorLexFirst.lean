/- The contracts of the program's firstName and firstNumber. -/
import Derived.Test.YtjgiohhfhncepaaDoorLexNext
namespace Go.Proofs.YtjgiohhfhncepaaDoor
open Go.ChangeShapes Go.WideShapes Go.ChangeAt Go.RowKit

/-- What firstWord and its parts answer: where there is no word the length is 0, whatever stands beside it. -/
def FirstIs (o : Option Tk) (e : Ending) : Prop := match o with
  | some tk => e = .returned (.tuple #[tokV tk 0, .int .i64 tk.len])
  | none => ∃ (a c d : Int) (b : ByteArray), e = .returned (.tuple #[.agg #[.int .i64 a, .string b, .int .i64 c, .int .i64 d], .int .i64 0])
theorem firstIs_some {o : Option Tk} {e : Ending} {tk : Tk} (h : o = some tk) (he : e = .returned (.tuple #[tokV tk 0, .int .i64 tk.len])) : FirstIs o e := by subst h; exact he
theorem firstIs_none {o : Option Tk} {e : Ending} (a c d : Int) (b : ByteArray) (h : o = none) (he : e = .returned (.tuple #[.agg #[.int .i64 a, .string b, .int .i64 c, .int .i64 d], .int .i64 0])) : FirstIs o e := by subst h; exact ⟨a, c, d, b, he⟩

set_option maxHeartbeats 1000000 in
theorem firstName_any (s : ByteArray) (w : World) (hs : s.size ≤ 3000) :
    Calls Tryd.prog 46 #[.string s] w fun e w' => FirstIs (nameTok s.data.toList) e ∧ Below w.heap.size w w' := by
  have hs0 : s.size ≤ maxLen := by unfold maxLen; omega
  have hnl := nlen_le s.data.toList
  rw [dlen] at hnl
  obtain ⟨k, hk⟩ : ∃ k, nlen s.data.toList = k := ⟨_, rfl⟩
  have HK := hideP hk
  have hnm : ∀ W, Calls Tryd.prog 38 #[.string s] W fun e w' => e = .returned (.int .i64 k) ∧ w' = W := fun W => by rw [← HK.out]; exact nameLength_any s W hs0
  rw [hk] at hnl
  clear hk
  obtain ⟨t, ht⟩ : ∃ t, s.extract 0 k = t := ⟨_, rfl⟩
  have HT : Hid (t.data.toList = s.data.toList.take (nlen s.data.toList)) := by
    show _ = _; rw [← ht, Lib.extract_data, HK.out]; simp
  have hts : t.size ≤ maxLen := by unfold maxLen; rw [← ht, ByteArray.size_extract]; omega
  have HNM := hideP hnm
  clear hnm
  by_cases hw : isWordL t.data.toList = true
  · go_enter Tryd.func46, Tryd.ntmps46
    go_wp2_with (first | (go_at_call 38; refine (HNM.out _).mono ?_; rintro e w' ⟨rfl, rfl⟩) | (go_at_call 15; refine (impl_isWord _ _).mono ?_; rintro e w' ⟨rfl, rfl⟩))
    refine bodyPost_ret (v := .tuple #[.agg #[.int .i64 2, .string t, .int .i64 0, .int .i64 0], .int .i64 k]) (by simp [results, Tryd.results46, go_sem]) rfl ⟨firstIs_some (name_word HT.out hw) ?_, (Below.refl _ _).alloc (Nat.le_refl _) _⟩
    simp only [tokV, HK.out, mk_toList]; rfl
  · have hw' : isWordL t.data.toList = false := by simpa using hw
    clear hw
    by_cases hn : nameL t.data.toList = true
    · go_enter Tryd.func46, Tryd.ntmps46
      go_wp2_with (first | (go_at_call 38; refine (HNM.out _).mono ?_; rintro e w' ⟨rfl, rfl⟩) | (go_at_call 15; refine (impl_isWord _ _).mono ?_; rintro e w' ⟨rfl, rfl⟩) | (go_at_call 17; refine (impl_nameOk _ _ hts).mono ?_; rintro e w' ⟨rfl, rfl⟩))
      refine bodyPost_ret (v := .tuple #[.agg #[.int .i64 0, .string t, .int .i64 0, .int .i64 0], .int .i64 k]) (by simp [results, Tryd.results46, go_sem]) rfl ⟨firstIs_some (name_name HT.out hw' hn) ?_, (Below.refl _ _).alloc (Nat.le_refl _) _⟩
      simp only [tokV, HK.out, mk_toList]; rfl
    · have hn' : nameL t.data.toList = false := by simpa using hn
      clear hn
      go_enter Tryd.func46, Tryd.ntmps46
      go_wp2_with (first | (go_at_call 38; refine (HNM.out _).mono ?_; rintro e w' ⟨rfl, rfl⟩) | (go_at_call 15; refine (impl_isWord _ _).mono ?_; rintro e w' ⟨rfl, rfl⟩) | (go_at_call 17; refine (impl_nameOk _ _ hts).mono ?_; rintro e w' ⟨rfl, rfl⟩))
      exact bodyPost_ret (v := .tuple #[.agg #[.int .i64 0, .string ⟨#[]⟩, .int .i64 0, .int .i64 0], .int .i64 0]) (by simp [results, Tryd.results46, go_sem]) rfl ⟨firstIs_none 0 0 0 ⟨#[]⟩ (name_none HT.out hw' hn') rfl, (Below.refl _ _).alloc (Nat.le_refl _) _⟩

set_option maxHeartbeats 1000000 in
theorem firstNumber_any (s : ByteArray) (w : World) (hs : s.size ≤ 3000) :
    Calls Tryd.prog 48 #[.string s] w fun e w' => FirstIs (numTok s.data.toList) e ∧ Below w.heap.size w w' := by
  go_enter Tryd.func48, Tryd.ntmps48
  go_wp2
  go_loop [4, 5] (fun x y => ∃ k v : Nat, k ≤ s.size ∧ k ≤ 9 ∧ x = .int .i64 k ∧ y = .int .i64 v ∧ Hid (dgl (s.data.toList.drop 0) = (k - 0) + dgl (s.data.toList.drop k)) ∧ Hid (v = numL ((s.data.toList.drop 0).take (k - 0))) ∧ Hid (v < 10 ^ (k - 0))) (fun x _ => s.size - (intOf x).toNat)
  case atStart => exact ⟨0, 0, by omega, by omega, rfl, rfl, show _ = _ by simp, show _ = _ by simp [numL], show _ < _ by simp⟩
  case round =>
    obtain ⟨k, v, hks, h10, rfl, rfl, hd, hv, hvb⟩ := hrel
    have hv10 : v < 1000000000 := by
      have h1 := hvb.out
      have h2 : (10 : Nat) ^ (k - 0) ≤ 10 ^ 9 := Nat.pow_le_pow_right (by decide) h10
      have h3 : (10 : Nat) ^ 9 = 1000000000 := by decide
      omega
    by_cases hlt : k < s.size
    · by_cases hD2 : digB s[k].toNat = true
      · have hdr : 48 ≤ (s[k].toNat : Int) ∧ (s[k].toNat : Int) ≤ 57 := of_decide_eq_true hD2
        by_cases h9 : k = 9
        · have HN : Hid (numTok s.data.toList = none) := num_none (by have h1 := dgl_step s 0 k (Nat.zero_le _) hlt hD2 hd.out; rw [List.drop_zero] at h1; rw [h1]; omega)
          have h9' : ((k : Int) == 9) = true := by rw [h9]; rfl
          clear hd hv hvb h9
          go_wp2_with (go_at_call 47; refine (isDigit_any _ _).mono ?_; rintro e w' ⟨rfl, rfl⟩)
          exact bodyPost_ret (v := .tuple #[.agg #[.int .i64 0, .string ⟨#[]⟩, .int .i64 0, .int .i64 0], .int .i64 0]) (by simp [results, Tryd.results48, go_sem]) rfl ⟨firstIs_none 0 0 0 ⟨#[]⟩ HN.out rfl, (Below.refl _ _).alloc (Nat.le_refl _) _⟩
        · have h9' : ((k : Int) == 9) = false := by rw [beq_eq_false_iff_ne]; omega
          have h8 : k ≤ 8 := by omega
          go_wp2_with (go_at_call 47; refine (isDigit_any _ _).mono ?_; rintro e w' ⟨rfl, rfl⟩)
          go_round
          case rel =>
            refine ⟨k + 1, v * 10 + (s[k].toNat - 48), by omega, by omega, by go_num, by go_num, dgl_step s 0 k (Nat.zero_le _) hlt hD2 hd.out, num_step s 0 k v (Nat.zero_le _) hlt hv.out, ?_⟩
            show _ < _
            have h1 := hvb.out
            rw [show k + 1 - 0 = (k - 0) + 1 by omega, Nat.pow_succ]; omega
          case measure => simp [intOf]; omega
      · have hD2' : digB s[k].toNat = false := by simpa using hD2
        clear hD2
        have HD : Hid (dgl s.data.toList = k) := by have h1 := dgl_stop s 0 k hlt hD2' hd.out; rw [List.drop_zero] at h1; exact h1
        have HN : Hid (numTok s.data.toList = some ⟨1, [], v, k⟩) := num_some HD.out h10 (by have h1 := hv.out; rw [List.drop_zero] at h1; exact h1)
        clear hd hv hvb
        go_wp2_with (go_at_call 47; refine (isDigit_any _ _).mono ?_; rintro e w' ⟨rfl, rfl⟩)
        exact bodyPost_ret (v := .tuple #[.agg #[.int .i64 1, .string ⟨#[]⟩, .int .i64 v, .int .i64 0], .int .i64 k]) (by simp [results, Tryd.results48, go_sem]) rfl ⟨firstIs_some HN.out rfl, (Below.refl _ _).alloc (Nat.le_refl _) _⟩
    · have HD : Hid (dgl s.data.toList = k) := by have h1 := dgl_end s 0 k (by omega) hd.out; rw [List.drop_zero] at h1; exact h1
      have HN : Hid (numTok s.data.toList = some ⟨1, [], v, k⟩) := num_some HD.out h10 (by have h1 := hv.out; rw [List.drop_zero] at h1; exact h1)
      clear hd hv hvb
      go_wp2
      exact bodyPost_ret (v := .tuple #[.agg #[.int .i64 1, .string ⟨#[]⟩, .int .i64 v, .int .i64 0], .int .i64 k]) (by simp [results, Tryd.results48, go_sem]) rfl ⟨firstIs_some HN.out rfl, (Below.refl _ _).alloc (Nat.le_refl _) _⟩
end Go.Proofs.YtjgiohhfhncepaaDoor
