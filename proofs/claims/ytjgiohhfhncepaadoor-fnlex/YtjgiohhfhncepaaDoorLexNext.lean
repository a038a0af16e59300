/- The contract of the specification's l01Next: the word that a text has at a place. -/
import Derived.Test.YtjgiohhfhncepaaDoorLexPlain
import Derived.Test.YtjgiohhfhncepaaDoorNames
import Derived.Test.YtjgiohhfhncepaaDoorBelow0
namespace Go.Proofs.YtjgiohhfhncepaaDoor
open Go.ChangeShapes Go.WideShapes Go.ChangeAt Go.RowKit

/-- A word as the program has it. -/
def tokV (tk : Tk) (line : Nat) : Value := .agg #[.int .i64 tk.k, .string ⟨tk.t.toArray⟩, .int .i64 tk.n, .int .i64 line]

/-- What l01Next answers. -/
def NextIs (o : Option Tk) (i : Nat) (e : Ending) : Prop := match o with
  | some tk => e = .returned (.tuple #[tokV tk 0, .int .i64 ((i + tk.len : Nat) : Int)])
  | none => e = .returned (.tuple #[tokV ⟨0, [], 0, 0⟩ 0, .int .i64 (-1)])
theorem nextIs_some {o : Option Tk} {i : Nat} {e : Ending} {tk : Tk} (h : o = some tk) (he : e = .returned (.tuple #[tokV tk 0, .int .i64 ((i + tk.len : Nat) : Int)])) : NextIs o i e := by subst h; exact he
theorem nextIs_none {o : Option Tk} {i : Nat} {e : Ending} (h : o = none) (he : e = .returned (.tuple #[tokV ⟨0, [], 0, 0⟩ 0, .int .i64 (-1)])) : NextIs o i e := by subst h; exact he
theorem nl_step (s : ByteArray) (i k : Nat) (hk : i ≤ k) (h : k < s.size) (ha : an s[k] = true) (hd : nlen (s.data.toList.drop i) = (k - i) + nlen (s.data.toList.drop k)) : nlen (s.data.toList.drop i) = (k + 1 - i) + nlen (s.data.toList.drop (k + 1)) := by
  rw [hd, nlen_step s k h ha]; omega
theorem name_word {l : List UInt8} {t : List UInt8} (ht : t = l.take (nlen l)) (h : isWordL t = true) : nameTok l = some ⟨2, t, 0, nlen l⟩ := by
  subst ht; unfold nameTok; rw [if_pos h]
theorem name_name {l : List UInt8} {t : List UInt8} (ht : t = l.take (nlen l)) (h : isWordL t = false) (hn : nameL t = true) : nameTok l = some ⟨0, t, 0, nlen l⟩ := by
  subst ht; unfold nameTok; rw [if_neg (by rw [h]; simp), if_pos hn]
theorem name_none {l : List UInt8} {t : List UInt8} (ht : t = l.take (nlen l)) (h : isWordL t = false) (hn : nameL t = false) : nameTok l = none := by
  subst ht; unfold nameTok; rw [if_neg (by rw [h]; simp), if_neg (by rw [hn]; simp)]
theorem mk_toList (t : ByteArray) : (⟨t.data.toList.toArray⟩ : ByteArray) = t := by apply ByteArray.ext; simp

set_option maxHeartbeats 1000000 in
theorem l01Next_name (s : ByteArray) (i : Nat) (w : World) (hs : s.size ≤ 3000) (hi : i < s.size) (hL : letB s[i].toNat = true) :
    Calls Tryd.prog 31 #[.string s, .int .i64 i] w fun e w' => NextIs (nameTok (s.data.toList.drop i)) i e ∧ Below w.heap.size w w' := by
  have hb0 : (0 : Int) ≤ s[i].toNat := by omega
  have hb1 : (s[i].toNat : Int) ≤ 255 := by have := s[i].toNat_lt; omega
  go_enter Tryd.func31, Tryd.ntmps31
  go_wp2_with (go_at_call 39; refine (l01Letter_any _ hb0 hb1 _).mono ?_; rintro e w' ⟨rfl, rfl⟩)
  go_loop [6] (fun x => ∃ k : Nat, i ≤ k ∧ k ≤ s.size ∧ x = .int .i64 k ∧ Hid (nlen (s.data.toList.drop i) = (k - i) + nlen (s.data.toList.drop k))) (fun x => s.size - (intOf x).toNat)
  case atStart => exact ⟨i, Nat.le_refl _, by omega, rfl, show _ = _ by simp⟩
  case round =>
    obtain ⟨k, hik, hks, rfl, hd⟩ := hrel
    clear hb0 hb1
    by_cases hlt : k < s.size
    · have hb0 : (0 : Int) ≤ s[k].toNat := by omega
      have hb1 : (s[k].toNat : Int) ≤ 255 := by have := s[k].toNat_lt; omega
      by_cases hL2 : letB s[k].toNat = true
      · have HA : Hid (an s[k] = true) := by show an s[k] = true; simp [an, hL2]
        go_wp2_with (go_at_call 39; refine (l01Letter_any _ hb0 hb1 _).mono ?_; rintro e w' ⟨rfl, rfl⟩)
        go_round
        case rel => exact ⟨k + 1, by omega, by omega, by go_num, nl_step s i k hik hlt HA.out hd.out⟩
        case measure => simp [intOf]; omega
      · have hL2' : letB s[k].toNat = false := by simpa using hL2
        clear hL2
        by_cases hD : digB s[k].toNat = true
        · have HA : Hid (an s[k] = true) := by show an s[k] = true; simp [an, hD]
          go_wp2_with (first | (go_at_call 39; refine (l01Letter_any _ hb0 hb1 _).mono ?_; rintro e w' ⟨rfl, rfl⟩) | (go_at_call 35; refine (l01Digit_any _ hb0 hb1 _).mono ?_; rintro e w' ⟨rfl, rfl⟩))
          go_round
          case rel => exact ⟨k + 1, by omega, by omega, by go_num, nl_step s i k hik hlt HA.out hd.out⟩
          case measure => simp [intOf]; omega
        · have hD' : digB s[k].toNat = false := by simpa using hD
          clear hD
          have HA : Hid (nlen (s.data.toList.drop i) = k - i) := by
            show _ = _
            rw [hd.out, nlen_stop s k hlt (by simp [an, hL2', hD'])]; omega
          clear hd
          obtain ⟨t, ht⟩ : ∃ t, s.extract i k = t := ⟨_, rfl⟩
          have HT : Hid (t.data.toList = (s.data.toList.drop i).take (nlen (s.data.toList.drop i))) := by
            show _ = _; rw [← ht, Lib.extract_data, HA.out]
          have hts : t.size ≤ maxLen := by unfold maxLen; rw [← ht, ByteArray.size_extract]; omega
          by_cases hw : isWordL t.data.toList = true
          · go_wp2_with (first | (go_at_call 39; refine (l01Letter_any _ hb0 hb1 _).mono ?_; rintro e w' ⟨rfl, rfl⟩) | (go_at_call 35; refine (l01Digit_any _ hb0 hb1 _).mono ?_; rintro e w' ⟨rfl, rfl⟩) | (go_at_call 16; refine (spec_isWord _ _).mono ?_; rintro e w1 ⟨rfl, bel⟩; obtain ⟨hc, hf⟩ := bcell bel))
            have hz : w.heap.size < w1.heap.size := by have := bel.size; simp at this; omega
            refine bodyPost_ret (v := .tuple #[.agg #[.int .i64 2, .string t, .int .i64 0, .int .i64 0], .int .i64 k]) (by simp [results, Tryd.results31, go_sem, hc]) rfl ⟨?_, ?_⟩
            · refine nextIs_some (name_word HT.out hw) ?_
              simp only [tokV, HA.out, mk_toList]
              rw [show i + (k - i) = k by omega]; rfl
            · exact below_set4 (below_new bel) _ _ _ _
          · have hw' : isWordL t.data.toList = false := by simpa using hw
            clear hw
            by_cases hn : nameL t.data.toList = true
            · go_wp2_with (first | (go_at_call 39; refine (l01Letter_any _ hb0 hb1 _).mono ?_; rintro e w' ⟨rfl, rfl⟩) | (go_at_call 35; refine (l01Digit_any _ hb0 hb1 _).mono ?_; rintro e w' ⟨rfl, rfl⟩) | (go_at_call 16; refine (spec_isWord _ _).mono ?_; rintro e w0 ⟨rfl, bel0⟩; have hz0 : w.heap.size < w0.heap.size := hlt_of bel0; have hb01 := below_alloc bel0; clear bel0) | (go_at_call 18; refine (spec_nameOk _ _ hts).mono ?_; rintro e w1 ⟨rfl, bel1⟩; have bel := below_cat hb01 bel1; obtain ⟨hc, hf⟩ := bcell bel))
              have hz : w.heap.size < w1.heap.size := hlt_of bel
              refine bodyPost_ret (v := .tuple #[.agg #[.int .i64 0, .string t, .int .i64 0, .int .i64 0], .int .i64 k]) (by simp [results, Tryd.results31, go_sem, hc]) rfl ⟨?_, ?_⟩
              · refine nextIs_some (name_name HT.out hw' hn) ?_
                simp only [tokV, HA.out, mk_toList]
                rw [show i + (k - i) = k by omega]; rfl
              · exact below_set4 (below_new bel) _ _ _ _
            · have hn' : nameL t.data.toList = false := by simpa using hn
              clear hn
              go_wp2_with (first | (go_at_call 39; refine (l01Letter_any _ hb0 hb1 _).mono ?_; rintro e w' ⟨rfl, rfl⟩) | (go_at_call 35; refine (l01Digit_any _ hb0 hb1 _).mono ?_; rintro e w' ⟨rfl, rfl⟩) | (go_at_call 16; refine (spec_isWord _ _).mono ?_; rintro e w0 ⟨rfl, bel0⟩; have hz0 : w.heap.size < w0.heap.size := hlt_of bel0; have hb01 := below_alloc bel0; clear bel0) | (go_at_call 18; refine (spec_nameOk _ _ hts).mono ?_; rintro e w1 ⟨rfl, bel1⟩; have bel := below_cat hb01 bel1; obtain ⟨hc, hf⟩ := bcell bel))
              have hz : w.heap.size < w1.heap.size := hlt_of bel
              refine bodyPost_ret (v := .tuple #[.agg #[.int .i64 0, .string ⟨#[]⟩, .int .i64 0, .int .i64 0], .int .i64 (-1)]) (by simp [results, Tryd.results31, go_sem, hc]) rfl ⟨?_, ?_⟩
              · exact nextIs_none (name_none HT.out hw' hn') rfl
              · exact below_set4 (below_new bel) _ _ _ _
    · have HA : Hid (nlen (s.data.toList.drop i) = k - i) := by
        show _ = _
        rw [hd.out, nlen_end s k (by omega)]; omega
      clear hd
      obtain ⟨t, ht⟩ : ∃ t, s.extract i k = t := ⟨_, rfl⟩
      have HT : Hid (t.data.toList = (s.data.toList.drop i).take (nlen (s.data.toList.drop i))) := by
        show _ = _; rw [← ht, Lib.extract_data, HA.out]
      have hts : t.size ≤ maxLen := by unfold maxLen; rw [← ht, ByteArray.size_extract]; omega
      by_cases hw : isWordL t.data.toList = true
      · go_wp2_with (first | (go_at_call 16; refine (spec_isWord _ _).mono ?_; rintro e w1 ⟨rfl, bel⟩; obtain ⟨hc, hf⟩ := bcell bel))
        have hz : w.heap.size < w1.heap.size := by have := bel.size; simp at this; omega
        refine bodyPost_ret (v := .tuple #[.agg #[.int .i64 2, .string t, .int .i64 0, .int .i64 0], .int .i64 k]) (by simp [results, Tryd.results31, go_sem, hc]) rfl ⟨?_, ?_⟩
        · refine nextIs_some (name_word HT.out hw) ?_
          simp only [tokV, HA.out, mk_toList]
          rw [show i + (k - i) = k by omega]; rfl
        · exact below_set4 (below_new bel) _ _ _ _
      · have hw' : isWordL t.data.toList = false := by simpa using hw
        clear hw
        by_cases hn : nameL t.data.toList = true
        · go_wp2_with (first | (go_at_call 16; refine (spec_isWord _ _).mono ?_; rintro e w0 ⟨rfl, bel0⟩; have hz0 : w.heap.size < w0.heap.size := hlt_of bel0; have hb01 := below_alloc bel0; clear bel0) | (go_at_call 18; refine (spec_nameOk _ _ hts).mono ?_; rintro e w1 ⟨rfl, bel1⟩; have bel := below_cat hb01 bel1; obtain ⟨hc, hf⟩ := bcell bel))
          have hz : w.heap.size < w1.heap.size := hlt_of bel
          refine bodyPost_ret (v := .tuple #[.agg #[.int .i64 0, .string t, .int .i64 0, .int .i64 0], .int .i64 k]) (by simp [results, Tryd.results31, go_sem, hc]) rfl ⟨?_, ?_⟩
          · refine nextIs_some (name_name HT.out hw' hn) ?_
            simp only [tokV, HA.out, mk_toList]
            rw [show i + (k - i) = k by omega]; rfl
          · exact below_set4 (below_new bel) _ _ _ _
        · have hn' : nameL t.data.toList = false := by simpa using hn
          clear hn
          go_wp2_with (first | (go_at_call 16; refine (spec_isWord _ _).mono ?_; rintro e w0 ⟨rfl, bel0⟩; have hz0 : w.heap.size < w0.heap.size := hlt_of bel0; have hb01 := below_alloc bel0; clear bel0) | (go_at_call 18; refine (spec_nameOk _ _ hts).mono ?_; rintro e w1 ⟨rfl, bel1⟩; have bel := below_cat hb01 bel1; obtain ⟨hc, hf⟩ := bcell bel))
          have hz : w.heap.size < w1.heap.size := hlt_of bel
          refine bodyPost_ret (v := .tuple #[.agg #[.int .i64 0, .string ⟨#[]⟩, .int .i64 0, .int .i64 0], .int .i64 (-1)]) (by simp [results, Tryd.results31, go_sem, hc]) rfl ⟨?_, ?_⟩
          · exact nextIs_none (name_none HT.out hw' hn') rfl
          · exact below_set4 (below_new bel) _ _ _ _
end Go.Proofs.YtjgiohhfhncepaaDoor
