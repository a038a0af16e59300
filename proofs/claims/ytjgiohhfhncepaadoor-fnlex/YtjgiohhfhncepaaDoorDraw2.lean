/- The contracts of the draws: each answers a text that is not too long, or a number of 64 bits, and keeps all that was there. -/
import Derived.Test.YtjgiohhfhncepaaDoorDraw1
import Derived.Test.YtjgiohhfhncepaaDoorDec
namespace Go.Proofs.YtjgiohhfhncepaaDoor
open Go.ChangeShapes Go.WideShapes Go.ChangeAt Go.RowKit

def theVars : List ByteArray := [wd [120], wd [121], wd [122], wd [112]]
theorem theVars_small : ∀ s ∈ theVars, s.size ≤ 20 := by decide
/-- The size of the text in a slot. -/
def txtSize : Value → Nat | .string r => r.size | _ => 0

set_option maxHeartbeats 1000000 in
theorem program_any (c : Nat) (a : Option Addr) (len cap : Nat) (hl : len ≤ 1048576) (w : World) (hcur : Cur w c a len cap) :
    Calls Tryd.prog 25 #[.pointer (some ⟨c, 0, none⟩)] w fun e w' => ∃ s : ByteArray, e = .returned (.string s) ∧ s.size ≤ 25000 ∧ But c w w' ∧ Cur w' c a len cap := by
  have HC0 := hideP hcur
  clear hcur
  go_enter Tryd.func25, Tryd.ntmps25
  go_wp2_with fail
  refine (pick_lit 20 _ _ _ c a len cap _ (by kernel_rfl) (by rfl) (by decide) (by decide) (by rfl) hl HC0.out).mono ?_
  rintro e w1 ⟨s1, rfl, hs1, b1, hc1⟩
  have hw1 := b1.size
  have HB1 := hideP b1
  have HC1 := hideP hc1
  clear b1 hc1
  go_wp2_with fail
  refine (pick_lit 20 _ _ _ c a len cap _ (by kernel_rfl) (by rfl) (by decide) (by decide) (by rfl) hl HC1.out).mono ?_
  rintro e w2 ⟨s2, rfl, hs2, b2, hc2⟩
  have hw2 := b2.size
  have HB2 := hideP b2
  have HC2 := hideP hc2
  clear b2 hc2
  go_wp2_with fail
  refine (pick_lit 20 _ _ _ c a len cap _ (by kernel_rfl) (by rfl) (by decide) (by decide) (by rfl) hl HC2.out).mono ?_
  rintro e w3 ⟨s3, rfl, hs3, b3, hc3⟩
  have hw3 := b3.size
  have HB3 := hideP b3
  have HC3 := hideP hc3
  clear b3 hc3
  go_wp2_with fail
  refine (pick_lit 20 _ _ _ c a len cap _ (by kernel_rfl) (by rfl) (by decide) (by decide) (by rfl) hl HC3.out).mono ?_
  rintro e w4 ⟨s4, rfl, hs4, b4, hc4⟩
  have hw4 := b4.size
  have HB4 := hideP b4
  have HC4 := hideP hc4
  clear b4 hc4
  go_wp2_with fail
  refine (l01Below_any 8 c a len cap _ (by decide) (by decide) hl HC4.out).mono ?_
  rintro e w5 ⟨x5, rfl, hx5, b5, hc5⟩
  have hw5 := b5.size
  have HB5 := hideP b5
  have HC5 := hideP hc5
  clear b5 hc5
  go_wp2
  go_loopw [3, 5] (fun o i wr => ∃ (k : Nat) (t : ByteArray), k ≤ 1 + x5 ∧ i = .int .i64 k ∧ o = .string t ∧ t.size ≤ 1000 + 2400 * k ∧ Hid (But c w wr) ∧ Hid (Cur wr c a len cap)) (fun _ i _ => 1 + x5 - (intOf i).toNat)
  case atStart => exact ⟨0, _, Nat.zero_le _, rfl, rfl, by first | omega | (simp; done) | (simp; omega) | (simp [size_lit]; done) | (simp [size_lit]; omega), ((((HB1.out).trans HB2.out).trans HB3.out).trans HB4.out).trans HB5.out, HC5.out⟩
  case round =>
    obtain ⟨k, t, hk, rfl, rfl, ht, hbw, hcw⟩ := hrel
    clear hs1 hs2 hs3 hs4 hw1 hw2 hw3 hw4 hw5
    by_cases hlt : k < 1 + x5
    · go_wp2_with fail
      refine (stmt_one theVars wr.heap.size 4 c a len cap hl (by decide) (by decide) theVars_small (Nat.ne_of_gt hcw.out.lt) _ (by simp) (fun i hi => lit_cells wr theVars _ 9 rfl i hi) (hcw.out.alloc _)).mono ?_
      rintro e w6 ⟨s6, rfl, hs6, b6, hc6⟩
      have HB6 := hideP ((hbw.out.alloc _).trans b6)
      have HC6 := hideP hc6
      clear b6 hc6
      go_wp2
      go_roundw
      case rel => exact ⟨k + 1, _, by omega, by go_num, rfl, by simp; omega, HB6, HC6⟩
      case measure => simp [intOf]; omega
    · go_wp2_with fail
      refine (l01Once_any 2 c a len cap _ (by decide) (by decide) hl hcw.out).mono ?_
      rintro e w6 ⟨x6, rfl, b6, hc6⟩
      have HB6 := hideP (hbw.out.trans b6)
      have HC6 := hideP hc6
      clear b6 hc6
      cases x6 with
      | true =>
        go_wp2
        go_ret
        exact ⟨_, rfl, by simp [size_lit]; omega, HB6.out, HC6.out⟩
      | false =>
        go_wp2
        go_ret
        exact ⟨_, rfl, by simp [size_lit]; omega, HB6.out, HC6.out⟩

set_option maxHeartbeats 400000 in
theorem pick_at (k : Nat) (cs : Array Value) (n b c : Nat) (a : Option Addr) (len cap : Nat) (w : World) (hk : litsB k cs.toList = true) (hn : cs.size = n) (h1 : 1 ≤ n) (h1000 : n ≤ 1000) (hbw : b < w.heap.size) (hbc : b ≠ c) (hcell : ∀ i, i < n → w.cell? ⟨b, i, none⟩ = cs[i]?) (hl : len ≤ 1048576) (hc : Cur w c a len cap) :
    Calls Tryd.prog 28 #[.pointer (some ⟨c, 0, none⟩), .slice (some ⟨b, 0, none⟩) n n] w fun e w' => ∃ s : ByteArray, e = .returned (.string s) ∧ s.size ≤ k ∧ But c w w' ∧ Cur w' c a len cap := by
  subst hn
  obtain ⟨ss, hss, hsz⟩ := litsB_list hk
  have hlen : cs.size = ss.length := by rw [← Array.length_toList, hss, List.length_map]
  have hat : StrsAt w b ss := fun i hi => by
    rw [hcell i (by omega), ← Array.getElem?_toList, hss, List.getElem?_map, List.getElem?_eq_getElem hi]; rfl
  rw [hlen] at h1 h1000 ⊢
  refine (l01Pick_any ss b ss.length c a len cap _ h1 h1000 hl hbw hbc hat hc).mono ?_
  rintro e w' ⟨s, rfl, hs, hbut, hcur⟩
  exact ⟨s, rfl, hsz s hs, hbut, hcur⟩

theorem pick_drew (k : Nat) (cs : Array Value) (n b c : Nat) (a : Option Addr) (len cap : Nat) (w : World) (hk : litsB k cs.toList = true) (hn : cs.size = n) (h1 : 1 ≤ n) (h1000 : n ≤ 1000) (hb : b = w.heap.size) (hl : len ≤ 1048576) (hc : Cur w c a len cap) :
    Calls Tryd.prog 28 #[.pointer (some ⟨c, 0, none⟩), .slice (some ⟨b, 0, none⟩) n n] (w.alloc (.cells cs 9)).drew fun e w' => ∃ s : ByteArray, e = .returned (.string s) ∧ s.size ≤ k ∧ But c w w' ∧ Cur w' c a len cap := by
  subst hb
  refine (pick_at k cs n w.heap.size c a len cap _ hk hn h1 h1000 ?_ (Nat.ne_of_gt hc.lt) ?_ hl ?_).mono ?_
  · show w.heap.size < (w.alloc (.cells cs 9)).heap.size
    simp
  · intro i _
    show (w.alloc (.cells cs 9)).cell? _ = _
    rw [World.cell?_alloc_new]
  · exact (hc.alloc _).below ((Below.refl _ _).drew)
  · rintro e w' ⟨s, rfl, hs, hbut, hcur⟩
    exact ⟨s, rfl, hs, (((But.refl c w).alloc (.cells cs 9)).on ((Below.refl _ _).drew)).trans hbut, hcur⟩

set_option maxHeartbeats 1000000 in
theorem spoil_any (t : ByteArray) (c : Nat) (a : Option Addr) (len cap : Nat) (hl : len ≤ 1048576) (ht : t.size ≤ 100000) (w : World) (hcur : Cur w c a len cap) :
    Calls Tryd.prog 27 #[.pointer (some ⟨c, 0, none⟩), .string t] w fun e w' => ∃ s : ByteArray, e = .returned (.string s) ∧ s.size ≤ t.size + 20 ∧ But c w w' ∧ Cur w' c a len cap := by
  have HC0 := hideP hcur
  clear hcur
  go_enter Tryd.func27, Tryd.ntmps27
  go_wp2_with fail
  rw [show ((t.size : Int) + 1) = ((t.size + 1 : Nat) : Int) by omega]
  refine (l01Below_any (t.size + 1) c a len cap _ (by omega) (by omega) hl HC0.out).mono ?_
  rintro e w1 ⟨x1, rfl, hx1, b1, hc1⟩
  have hw1 := b1.size
  have HB1 := hideP b1
  have HC1 := hideP hc1
  clear b1 hc1
  have hx1t : x1 ≤ t.size := by omega
  go_wp2_with fail
  refine (l01Below_any 6 c a len cap _ (by decide) (by decide) hl HC1.out).mono ?_
  rintro e w2 ⟨x2, rfl, hx2, b2, hc2⟩
  have hw2 := b2.size
  have HB2 := hideP b2
  have HC2 := hideP hc2
  clear b2 hc2
  by_cases q2_0 : ((x2 : Int) == 0) = true
  · go_wp2
    go_ret
    exact ⟨_, rfl, by simp; omega, (HB1.out).trans HB2.out, HC2.out⟩
  · have q2_0' : ((x2 : Int) == 0) = false := by simpa using q2_0
    clear q2_0
    by_cases q2_1 : ((x2 : Int) == 1) = true
    · have hcl := HC2.out.lt
      go_wp2
      go_region_with (go_at_call 28; refine (pick_drew 20 _ _ _ c a len cap _ (by kernel_rfl) (by rfl) (by decide) (by decide) (by rfl) hl HC2.out).mono ?_; rintro e w3 ⟨s3, rfl, hs3, b3, hc3⟩)
      all_goals
        have HB3 := hideP b3
        have HC3 := hideP hc3
        clear b3 hc3
        go_wp2
        go_ret
        exact ⟨_, rfl, by simp; omega, (HB1.out.trans HB2.out).trans HB3.out, HC3.out⟩
    · have q2_1' : ((x2 : Int) == 1) = false := by simpa using q2_1
      clear q2_1
      go_wp2
      go_ret
      exact ⟨_, rfl, by omega, (HB1.out).trans HB2.out, HC2.out⟩

set_option maxHeartbeats 1000000 in
theorem drawIsWord_any (a : Option Addr) (len cap : Nat) (hl : len ≤ 1048576) (w : World) (hcode : CodeIn w a len) :
    Calls Tryd.prog 8 #[.slice a len cap] w fun e w' => ∃ s : ByteArray, e = .returned (.string s) ∧ s.size ≤ 20 ∧ Below w.heap.size w w' := by
  have HCODE := hideP hcode
  clear hcode
  go_enter Tryd.func8, Tryd.ntmps8
  go_wp2_with fail
  refine (l01New_any a len cap _ hl HCODE.out).mono ?_
  rintro e w1 ⟨c, rfl, hcw, hc1, bel⟩
  have hsb := bel.size
  have BEL := hideP bel
  have HC1 := hideP hc1
  clear bel hc1
  go_wp2_with fail
  refine (pick_lit 20 _ _ _ c a len cap _ (by kernel_rfl) (by rfl) (by decide) (by decide) (by rfl) hl HC1.out).mono ?_
  rintro e w2 ⟨s2, rfl, hs2, b2, hc2⟩
  have hw2 := b2.size
  have HB2 := hideP b2
  have HC2 := hideP hc2
  clear b2 hc2
  go_wp2
  go_ret
  exact ⟨_, rfl, by first | omega | (simp; done) | (simp; omega) | (simp [size_lit]; done) | (simp [size_lit]; omega), BEL.out.trans ((HB2.out).below hcw hsb)⟩

set_option maxHeartbeats 1000000 in
theorem drawNameOk_any (a : Option Addr) (len cap : Nat) (hl : len ≤ 1048576) (w : World) (hcode : CodeIn w a len) :
    Calls Tryd.prog 9 #[.slice a len cap] w fun e w' => ∃ s : ByteArray, e = .returned (.string s) ∧ s.size ≤ 20 ∧ Below w.heap.size w w' := by
  have HCODE := hideP hcode
  clear hcode
  go_enter Tryd.func9, Tryd.ntmps9
  go_wp2_with fail
  refine (l01New_any a len cap _ hl HCODE.out).mono ?_
  rintro e w1 ⟨c, rfl, hcw, hc1, bel⟩
  have hsb := bel.size
  have BEL := hideP bel
  have HC1 := hideP hc1
  clear bel hc1
  go_wp2_with fail
  refine (pick_lit 20 _ _ _ c a len cap _ (by kernel_rfl) (by rfl) (by decide) (by decide) (by rfl) hl HC1.out).mono ?_
  rintro e w2 ⟨s2, rfl, hs2, b2, hc2⟩
  have hw2 := b2.size
  have HB2 := hideP b2
  have HC2 := hideP hc2
  clear b2 hc2
  go_wp2
  go_ret
  exact ⟨_, rfl, by first | omega | (simp; done) | (simp; omega) | (simp [size_lit]; done) | (simp [size_lit]; omega), BEL.out.trans ((HB2.out).below hcw hsb)⟩

theorem itoa_short (n : Int) (h0 : -9223372036854775808 < n) (h1 : n ≤ 9223372036854775807) : (ByteArray.mk (Lib.itoa n).toArray).size ≤ 30 := by
  rw [size_lit]
  have h2 : (Lib.itoa n).length ≤ 21 := by
    unfold Lib.itoa
    split
    · rw [List.length_cons, Lib.decDigits_length]; have := nDigits_20 n.natAbs (by omega) (by omega); omega
    · rw [Lib.decDigits_length]
      by_cases hz : n = 0
      · subst hz; rw [Lib.nDigits_small (by decide)]; decide
      · have := nDigits_20 n.toNat (by omega) (by omega); omega
  simp; omega

set_option maxHeartbeats 1000000 in
theorem drawReadInt_any (a : Option Addr) (len cap : Nat) (hl : len ≤ 1048576) (w : World) (hcode : CodeIn w a len) :
    Calls Tryd.prog 11 #[.slice a len cap] w fun e w' => ∃ s : ByteArray, e = .returned (.string s) ∧ s.size ≤ 30 ∧ Below w.heap.size w w' := by
  have HCODE := hideP hcode
  clear hcode
  go_enter Tryd.func11, Tryd.ntmps11
  go_wp2_with fail
  refine (l01New_any a len cap _ hl HCODE.out).mono ?_
  rintro e w1 ⟨c, rfl, hcw, hc1, bel⟩
  have hsb := bel.size
  have BEL := hideP bel
  have HC1 := hideP hc1
  clear bel hc1
  go_wp2_with fail
  refine (l01Once_any 3 c a len cap _ (by decide) (by decide) hl HC1.out).mono ?_
  rintro e w2 ⟨x2, rfl, b2, hc2⟩
  have hw2 := b2.size
  have HB2 := hideP b2
  have HC2 := hideP hc2
  clear b2 hc2
  by_cases q2_0 : x2 = true
  · go_wp2_with fail
    refine (pick_lit 20 _ _ _ c a len cap _ (by kernel_rfl) (by rfl) (by decide) (by decide) (by rfl) hl HC2.out).mono ?_
    rintro e w3 ⟨s3, rfl, hs3, b3, hc3⟩
    have hw3 := b3.size
    have HB3 := hideP b3
    have HC3 := hideP hc3
    clear b3 hc3
    go_wp2
    go_ret
    exact ⟨_, rfl, by first | omega | (simp; done) | (simp; omega) | (simp [size_lit]; done) | (simp [size_lit]; omega), BEL.out.trans (((HB2.out).trans HB3.out).below hcw hsb)⟩
  · have q2_0' : x2 = false := by simpa using q2_0
    clear q2_0
    go_wp2_with fail
    refine (l01Below_any 100000 c a len cap _ (by decide) (by decide) hl HC2.out).mono ?_
    rintro e w3 ⟨x3, rfl, hx3, b3, hc3⟩
    have hw3 := b3.size
    have HB3 := hideP b3
    have HC3 := hideP hc3
    clear b3 hc3
    go_wp2_with fail
    refine (spec_dec _ _ (by omega) (by omega)).mono ?_
    rintro e w' ⟨rfl, rfl⟩
    have hlen := itoa_short ((x3 : Int) - 50000) (by omega) (by omega)
    go_wp2
    go_ret
    exact ⟨_, rfl, hlen, BEL.out.trans (((HB2.out).trans HB3.out).below hcw hsb)⟩

set_option maxHeartbeats 1000000 in
theorem drawWords_any (a : Option Addr) (len cap : Nat) (hl : len ≤ 1048576) (w : World) (hcode : CodeIn w a len) :
    Calls Tryd.prog 12 #[.slice a len cap] w fun e w' => ∃ s : ByteArray, e = .returned (.string s) ∧ s.size ≤ 200 ∧ Below w.heap.size w w' := by
  have HCODE := hideP hcode
  clear hcode
  go_enter Tryd.func12, Tryd.ntmps12
  go_wp2_with fail
  refine (l01New_any a len cap _ hl HCODE.out).mono ?_
  rintro e w1 ⟨c, rfl, hcw, hc1, bel⟩
  have hsb := bel.size
  have BEL := hideP bel
  have HC1 := hideP hc1
  clear bel hc1
  go_wp2_with fail
  refine (l01Below_any 6 c a len cap _ (by decide) (by decide) hl HC1.out).mono ?_
  rintro e w2 ⟨x2, rfl, hx2, b2, hc2⟩
  have hw2 := b2.size
  have HB2 := hideP b2
  have HC2 := hideP hc2
  clear b2 hc2
  go_wp2
  go_loopw [4, 6] (fun o i wr => ∃ (k : Nat) (t : ByteArray), k ≤ x2 ∧ i = .int .i64 k ∧ o = .string t ∧ t.size ≤ 20 * k ∧ Hid (But c w1 wr) ∧ Hid (Cur wr c a len cap)) (fun _ i _ => x2 - (intOf i).toNat)
  case atStart => exact ⟨0, _, Nat.zero_le _, rfl, rfl, by simp [size_lit], HB2.out, HC2.out⟩
  case round =>
    obtain ⟨k, t, hk, rfl, rfl, ht, hbw, hcw2⟩ := hrel
    by_cases hlt : k < x2
    · go_wp2_with fail
      refine (pick_lit 20 _ _ _ c a len cap _ (by kernel_rfl) (by rfl) (by decide) (by decide) (by rfl) hl hcw2.out).mono ?_
      rintro e w3 ⟨s3, rfl, hs3, b3, hc3⟩
      have HB3 := hideP (hbw.out.trans b3)
      have HC3 := hideP hc3
      clear b3 hc3
      go_wp2
      go_roundw
      case rel => exact ⟨k + 1, _, by omega, by go_num, rfl, by simp; omega, HB3, HC3⟩
      case measure => simp [intOf]; omega
    · go_wp2
      go_ret
      exact ⟨_, rfl, by omega, BEL.out.trans (hbw.out.below hcw hsb)⟩

set_option maxHeartbeats 1000000 in
theorem drawLex_any (a : Option Addr) (len cap : Nat) (hl : len ≤ 1048576) (w : World) (hcode : CodeIn w a len) :
    Calls Tryd.prog 5 #[.slice a len cap] w fun e w' => ∃ s : ByteArray, e = .returned (.string s) ∧ s.size ≤ 100000 ∧ Below w.heap.size w w' := by
  have HCODE := hideP hcode
  clear hcode
  go_enter Tryd.func5, Tryd.ntmps5
  go_wp2_with fail
  refine (l01New_any a len cap _ hl HCODE.out).mono ?_
  rintro e w1 ⟨c, rfl, hcw, hc1, bel⟩
  have hsb := bel.size
  have BEL := hideP bel
  have HC1 := hideP hc1
  clear bel hc1
  go_wp2_with fail
  refine (program_any c a len cap hl _ HC1.out).mono ?_
  rintro e w2 ⟨s2, rfl, hs2, b2, hc2⟩
  have hw2 := b2.size
  have HB2 := hideP b2
  have HC2 := hideP hc2
  clear b2 hc2
  go_wp2_with fail
  refine (l01Below_any 12 c a len cap _ (by decide) (by decide) hl HC2.out).mono ?_
  rintro e w3 ⟨x3, rfl, hx3, b3, hc3⟩
  have hw3 := b3.size
  have HB3 := hideP b3
  have HC3 := hideP hc3
  clear b3 hc3
  by_cases q3_0 : ((x3 : Int) == 0) = true
  · go_wp2_with fail
    refine (spoil_any s2 c a len cap hl (by omega) _ HC3.out).mono ?_
    rintro e w4 ⟨s4, rfl, hs4, b4, hc4⟩
    have hw4 := b4.size
    have HB4 := hideP b4
    have HC4 := hideP hc4
    clear b4 hc4
    go_wp2
    go_ret
    exact ⟨_, rfl, by first | omega | (simp; done) | (simp; omega) | (simp [size_lit]; done) | (simp [size_lit]; omega), BEL.out.trans ((((HB2.out).trans HB3.out).trans HB4.out).below hcw hsb)⟩
  · have q3_0' : ((x3 : Int) == 0) = false := by simpa using q3_0
    clear q3_0
    by_cases q3_1 : ((x3 : Int) == 1) = true
    · go_wp2
      go_loopw [4] (fun o wr => ∃ t : ByteArray, o = .string t ∧ t.size ≤ 50000 ∧ Hid (But c w1 wr) ∧ Hid (Cur wr c a len cap)) (fun o _ => 3001 - txtSize o)
      case atStart => exact ⟨_, rfl, by omega, (HB2.out).trans HB3.out, HC3.out⟩
      case round =>
        obtain ⟨t, rfl, ht, hbw, hcw2⟩ := hrel
        go_wp2_with fail
        refine (l01Below_any 2 c a len cap _ (by decide) (by decide) hl hcw2.out).mono ?_
        rintro e w4 ⟨x4, rfl, hx4, b4, hc4⟩
        have HB4 := hideP (hbw.out.trans b4)
        have HC4 := hideP hc4
        clear b4 hc4
        by_cases hlt : t.size < 3000 + x4
        · have hlt' : (t.size : Int) < 3000 + x4 := by omega
          go_wp2
          go_roundw
          case rel => exact ⟨_, rfl, by simp [size_lit]; omega, HB4, HC4⟩
          case measure => simp [txtSize, size_lit]; omega
        · have hlt' : ¬ (t.size : Int) < 3000 + x4 := by omega
          go_wp2
          go_ret
          exact ⟨_, rfl, by omega, BEL.out.trans (HB4.out.below hcw hsb)⟩
    · have q3_1' : ((x3 : Int) == 1) = false := by simpa using q3_1
      clear q3_1
      by_cases q3_2 : ((x3 : Int) == 2) = true
      · go_wp2_with fail
        refine (pick_lit 20 _ _ _ c a len cap _ (by kernel_rfl) (by rfl) (by decide) (by decide) (by rfl) hl HC3.out).mono ?_
        rintro e w4 ⟨s4, rfl, hs4, b4, hc4⟩
        have hw4 := b4.size
        have HB4 := hideP b4
        have HC4 := hideP hc4
        clear b4 hc4
        go_wp2
        go_ret
        exact ⟨_, rfl, by first | omega | (simp; done) | (simp; omega) | (simp [size_lit]; done) | (simp [size_lit]; omega), BEL.out.trans ((((HB2.out).trans HB3.out).trans HB4.out).below hcw hsb)⟩
      · have q3_2' : ((x3 : Int) == 2) = false := by simpa using q3_2
        clear q3_2
        go_wp2
        go_ret
        exact ⟨_, rfl, by first | omega | (simp; done) | (simp; omega) | (simp [size_lit]; done) | (simp [size_lit]; omega), BEL.out.trans (((HB2.out).trans HB3.out).below hcw hsb)⟩

theorem int_cells (w : World) (zs : List Int) (cs : Array Value) (t : TypeId) (hcs : cs = (zs.map (Value.int .i64)).toArray) (i : Nat) (h : i < zs.length) : (w.alloc (.cells cs t)).cell? ⟨w.heap.size, i, none⟩ = some (.int .i64 zs[i]) := by
  subst hcs
  rw [World.cell?_alloc_new]
  simp [h]
set_option maxHeartbeats 1000000 in
theorem drawDecText_any (a : Option Addr) (len cap : Nat) (hl : len ≤ 1048576) (w : World) (hcode : CodeIn w a len) :
    Calls Tryd.prog 10 #[.slice a len cap] w fun e w' => ∃ z : Int, e = .returned (.int .i64 z) ∧ (-9223372036854775808 ≤ z ∧ z ≤ 9223372036854775807) ∧ Below w.heap.size w w' := by
  have HCODE := hideP hcode
  clear hcode
  go_enter Tryd.func10, Tryd.ntmps10
  go_wp2_with fail
  refine (l01New_any a len cap _ hl HCODE.out).mono ?_
  rintro e w1 ⟨c, rfl, hcw, hc1, bel⟩
  have hsb := bel.size
  have BEL := hideP bel
  have HC1 := hideP hc1
  clear bel hc1
  go_wp2_with fail
  refine (l01Below_any 100000 c a len cap _ (by decide) (by decide) hl HC1.out).mono ?_
  rintro e w2 ⟨x2, rfl, hx2, b2, hc2⟩
  have hw2 := b2.size
  have HB2 := hideP b2
  have HC2 := hideP hc2
  clear b2 hc2
  have hcl := HC2.out.lt
  go_wp2_with fail
  refine (l01PickInt_any [0, -1, 10, 9223372036854775807, -9223372036854775808, (x2 : Int)] w2.heap.size 6 c a len cap _ (by simp) (by simp) hl (by simp) (Nat.ne_of_gt hcl) (fun i hi => int_cells w2 _ _ _ rfl i hi) (HC2.out.alloc _)).mono ?_
  rintro e w3 ⟨z, rfl, hz, b3, hc3⟩
  have HB3 := hideP (((But.refl c w2).alloc _).trans b3)
  clear b3 hc3
  have hzb : -9223372036854775808 ≤ z ∧ z ≤ 9223372036854775807 := by
    simp only [List.mem_cons, List.not_mem_nil, or_false] at hz
    omega
  have HZ := hideP hzb
  clear hz hzb
  go_wp2
  go_ret
  exact ⟨z, rfl, HZ.out, BEL.out.trans ((HB2.out.trans HB3.out).below hcw hsb)⟩
end Go.Proofs.YtjgiohhfhncepaaDoor
