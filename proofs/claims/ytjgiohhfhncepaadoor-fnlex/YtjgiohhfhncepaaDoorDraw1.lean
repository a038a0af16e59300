/- The contracts of the functions that draw a program's text: each answers a text that is not too long, and writes into the cursor alone. -/
import Derived.Test.YtjgiohhfhncepaaDoorCur
import Derived.Test.YtjgiohhfhncepaaDoorIsWord
namespace Go.Proofs.YtjgiohhfhncepaaDoor
open Go.ChangeShapes Go.WideShapes Go.ChangeAt Go.RowKit

/-- Every value of a literal list is a text of at most k bytes. -/
def litsB (k : Nat) (cs : List Value) : Bool := cs.all fun v => match v with
  | .string s => decide (s.size ≤ k)
  | _ => false
theorem litsB_get {k : Nat} {cs : List Value} (h : litsB k cs = true) (i : Nat) (hi : i < cs.length) : ∃ s, cs[i] = .string s ∧ s.size ≤ k := by
  have h1 := List.all_eq_true.1 h cs[i] (List.getElem_mem hi)
  split at h1
  · rename_i s hs; exact ⟨s, hs, of_decide_eq_true h1⟩
  · cases h1
theorem litsB_list {k : Nat} : ∀ {l : List Value}, litsB k l = true → ∃ ss : List ByteArray, l = ss.map Value.string ∧ ∀ s ∈ ss, s.size ≤ k
  | [], _ => ⟨[], rfl, by simp⟩
  | v :: l, h => by
    obtain ⟨s, hs, hs2⟩ := litsB_get h 0 (by simp)
    obtain ⟨ss, e1, e2⟩ := litsB_list (k := k) (l := l) (by unfold litsB at h ⊢; rw [List.all_cons] at h; exact (Bool.and_eq_true _ _ ▸ h).2)
    refine ⟨s :: ss, by rw [List.map_cons, ← e1]; simp at hs; rw [hs], ?_⟩
    intro x hx
    rcases List.mem_cons.1 hx with rfl | hx
    · exact hs2
    · exact e2 x hx
set_option maxHeartbeats 400000 in
theorem pick_lit (k : Nat) (cs : Array Value) (n b c : Nat) (a : Option Addr) (len cap : Nat) (w : World) (hk : litsB k cs.toList = true) (hn : cs.size = n) (h1 : 1 ≤ n) (h1000 : n ≤ 1000) (hb : b = w.heap.size) (hl : len ≤ 1048576) (hc : Cur w c a len cap) :
    Calls Tryd.prog 28 #[.pointer (some ⟨c, 0, none⟩), .slice (some ⟨b, 0, none⟩) n n] (w.alloc (.cells cs 9)) fun e w' => ∃ s : ByteArray, e = .returned (.string s) ∧ s.size ≤ k ∧ But c w w' ∧ Cur w' c a len cap := by
  subst hb; subst hn
  obtain ⟨ss, hss, hsz⟩ := litsB_list hk
  have hlen : cs.size = ss.length := by rw [← Array.length_toList, hss, List.length_map]
  have hat : StrsAt (w.alloc (.cells cs 9)) w.heap.size ss := fun i hi => lit_cells w ss cs 9 (by apply Array.ext'; rw [hss]) i hi
  rw [hlen] at h1 h1000 ⊢
  refine (l01Pick_any ss w.heap.size ss.length c a len cap _ h1 h1000 hl (by simp) (Nat.ne_of_gt hc.lt) hat (hc.alloc _)).mono ?_
  rintro e w' ⟨s, rfl, hs, hbut, hcur⟩
  exact ⟨s, rfl, hsz s hs, ((But.refl c w).alloc _).trans hbut, hcur⟩
theorem lits_var {e0 : Nat} {s : ByteArray} (h20 : 20 ≤ e0) (hs : s.size ≤ e0) : litsB e0 [.string ⟨#[48]⟩, .string ⟨#[49]⟩, .string ⟨#[120]⟩, .string ⟨#[120, 32, 43, 32, 49]⟩, .string ⟨#[121, 32, 38, 32, 51]⟩, .string ⟨#[50]⟩, .string s] = true := by
  have h1 : ∀ l : Array UInt8, l.size ≤ 20 → (ByteArray.mk l).size ≤ e0 := fun l h => Nat.le_trans h h20
  simp [litsB, hs, h1]
/-- A literal's size. -/
theorem size_lit (l : Array UInt8) : (ByteArray.mk l).size = l.size := rfl

set_option maxHeartbeats 1000000 in
theorem exp_zero (ss : List ByteArray) (vb cp c : Nat) (a : Option Addr) (len cap : Nat) (hl : len ≤ 1048576) (hss : 1 ≤ ss.length) (hs9 : ss.length ≤ 100) (hsv : ∀ s ∈ ss, s.size ≤ 20) (hvc : vb ≠ c)
    (w : World) (hv0 : vb < w.heap.size) (hvars : StrsAt w vb ss) (hcur : Cur w c a len cap) :
    Calls Tryd.prog 53 #[.pointer (some ⟨c, 0, none⟩), .slice (some ⟨vb, 0, none⟩) ss.length cp, .int .i64 (0 : Nat)] w fun e w' => ∃ s : ByteArray, e = .returned (.string s) ∧ s.size ≤ 20 ∧ But c w w' ∧ Cur w' c a len cap := by
  have HC0 := hideP hcur
  have HV0 := hideP hvars
  clear hcur hvars
  go_enter Tryd.func53, Tryd.ntmps53
  go_wp2_with fail
  refine (l01Once_any 3 c a len cap _ (by decide) (by decide) hl HC0.out).mono ?_
  rintro e w1 ⟨x1, rfl, b1, hc1⟩
  have hw1 := b1.size
  have HB1 := hideP b1
  have HC1 := hideP hc1
  have HV1 := hideP (HV0.out.but hv0 hvc b1)
  have hv1 : vb < w1.heap.size := by omega
  clear b1 hc1
  by_cases q1 : x1 = true
  · go_wp2_with fail
    refine (pick_lit 20 _ _ _ c a len cap _ (by kernel_rfl) (by rfl) (by decide) (by decide) (by rfl) hl HC1.out).mono ?_
    rintro e w2 ⟨s2, rfl, hs2, b2, hc2⟩
    have hw2 := b2.size
    have HB2 := hideP b2
    have HC2 := hideP hc2
    have HV2 := hideP (HV1.out.but hv1 hvc b2)
    have hv2 : vb < w2.heap.size := by omega
    clear b2 hc2
    go_wp2
    go_ret
    exact ⟨_, rfl, by first | omega | (simp [size_lit]; done) | (simp [size_lit]; omega), (HB1.out).trans HB2.out, HC2.out⟩
  · have q1' : x1 = false := by simpa using q1
    clear q1
    go_wp2_with fail
    refine (l01Pick_any ss vb _ c a len cap _ hss (by omega) hl hv1 hvc HV1.out HC1.out).mono ?_
    rintro e w2 ⟨s2, rfl, hm2, b2, hc2⟩
    have hs2 : s2.size ≤ 20 := hsv s2 hm2
    have hw2 := b2.size
    have HB2 := hideP b2
    have HC2 := hideP hc2
    have HV2 := hideP (HV1.out.but hv1 hvc b2)
    have hv2 : vb < w2.heap.size := by omega
    clear b2 hc2
    go_wp2
    go_ret
    exact ⟨_, rfl, by first | omega | (simp [size_lit]; done) | (simp [size_lit]; omega), (HB1.out).trans HB2.out, HC2.out⟩

set_option maxHeartbeats 1000000 in
theorem exp_succ (ss : List ByteArray) (vb cp c : Nat) (a : Option Addr) (len cap : Nat) (hl : len ≤ 1048576) (hss : 1 ≤ ss.length) (hs9 : ss.length ≤ 100) (hsv : ∀ s ∈ ss, s.size ≤ 20) (hvc : vb ≠ c)
    (d e0 : Nat) (hd : d ≤ 10) (he0 : e0 ≤ 100000) (h20 : 20 ≤ e0)
    (ih : ∀ W, vb < W.heap.size → StrsAt W vb ss → Cur W c a len cap → Calls Tryd.prog 53 #[.pointer (some ⟨c, 0, none⟩), .slice (some ⟨vb, 0, none⟩) ss.length cp, .int .i64 (d : Nat)] W fun e w' => ∃ s : ByteArray, e = .returned (.string s) ∧ s.size ≤ e0 ∧ But c W w' ∧ Cur w' c a len cap)
    (w : World) (hv0 : vb < w.heap.size) (hvars : StrsAt w vb ss) (hcur : Cur w c a len cap) :
    Calls Tryd.prog 53 #[.pointer (some ⟨c, 0, none⟩), .slice (some ⟨vb, 0, none⟩) ss.length cp, .int .i64 ((d : Int) + 1)] w fun e w' => ∃ s : ByteArray, e = .returned (.string s) ∧ s.size ≤ 2 * e0 + 100 ∧ But c w w' ∧ Cur w' c a len cap := by
  have HC0 := hideP hcur
  have HV0 := hideP hvars
  clear hcur hvars
  have IHH := hideP ih
  clear ih
  go_enter Tryd.func53, Tryd.ntmps53
  go_wp2_with fail
  refine (l01Once_any 4 c a len cap _ (by decide) (by decide) hl HC0.out).mono ?_
  rintro e w1 ⟨x1, rfl, b1, hc1⟩
  have hw1 := b1.size
  have HB1 := hideP b1
  have HC1 := hideP hc1
  have HV1 := hideP (HV0.out.but hv0 hvc b1)
  have hv1 : vb < w1.heap.size := by omega
  clear b1 hc1
  by_cases q1_0 : x1 = true
  · go_wp2_with fail
    refine (l01Once_any 3 c a len cap _ (by decide) (by decide) hl HC1.out).mono ?_
    rintro e w2 ⟨x2, rfl, b2, hc2⟩
    have hw2 := b2.size
    have HB2 := hideP b2
    have HC2 := hideP hc2
    have HV2 := hideP (HV1.out.but hv1 hvc b2)
    have hv2 : vb < w2.heap.size := by omega
    clear b2 hc2
    by_cases q2_0 : x2 = true
    · go_wp2_with fail
      refine (pick_lit 20 _ _ _ c a len cap _ (by kernel_rfl) (by rfl) (by decide) (by decide) (by rfl) hl HC2.out).mono ?_
      rintro e w3 ⟨s3, rfl, hs3, b3, hc3⟩
      have hw3 := b3.size
      have HB3 := hideP b3
      have HC3 := hideP hc3
      have HV3 := hideP (HV2.out.but hv2 hvc b3)
      have hv3 : vb < w3.heap.size := by omega
      clear b3 hc3
      go_wp2
      go_ret
      exact ⟨_, rfl, by first | omega | (simp [size_lit]; done) | (simp [size_lit]; omega), ((HB1.out).trans HB2.out).trans HB3.out, HC3.out⟩
    · have q2_0' : x2 = false := by simpa using q2_0
      clear q2_0
      go_wp2_with fail
      refine (l01Pick_any ss vb _ c a len cap _ hss (by omega) hl hv2 hvc HV2.out HC2.out).mono ?_
      rintro e w3 ⟨s3, rfl, hm3, b3, hc3⟩
      have hs3 : s3.size ≤ 20 := hsv s3 hm3
      have hw3 := b3.size
      have HB3 := hideP b3
      have HC3 := hideP hc3
      have HV3 := hideP (HV2.out.but hv2 hvc b3)
      have hv3 : vb < w3.heap.size := by omega
      clear b3 hc3
      go_wp2
      go_ret
      exact ⟨_, rfl, by first | omega | (simp [size_lit]; done) | (simp [size_lit]; omega), ((HB1.out).trans HB2.out).trans HB3.out, HC3.out⟩
  · have q1_0' : x1 = false := by simpa using q1_0
    clear q1_0
    go_wp2_with fail
    try rw [show ((d : Int) + 1 - 1) = (d : Int) by omega]
    refine (IHH.out _ hv1 HV1.out HC1.out).mono ?_
    rintro e w2 ⟨s2, rfl, hs2, b2, hc2⟩
    have hw2 := b2.size
    have HB2 := hideP b2
    have HC2 := hideP hc2
    have HV2 := hideP (HV1.out.but hv1 hvc b2)
    have hv2 : vb < w2.heap.size := by omega
    clear b2 hc2
    go_wp2_with fail
    refine (l01Below_any 6 c a len cap _ (by decide) (by decide) hl HC2.out).mono ?_
    rintro e w3 ⟨x3, rfl, hx3, b3, hc3⟩
    have hw3 := b3.size
    have HB3 := hideP b3
    have HC3 := hideP hc3
    have HV3 := hideP (HV2.out.but hv2 hvc b3)
    have hv3 : vb < w3.heap.size := by omega
    clear b3 hc3
    by_cases q3_0 : ((x3 : Int) == 0) = true
    · go_wp2_with fail
      refine (pick_lit 20 _ _ _ c a len cap _ (by kernel_rfl) (by rfl) (by decide) (by decide) (by rfl) hl HC3.out).mono ?_
      rintro e w4 ⟨s4, rfl, hs4, b4, hc4⟩
      have hw4 := b4.size
      have HB4 := hideP b4
      have HC4 := hideP hc4
      have HV4 := hideP (HV3.out.but hv3 hvc b4)
      have hv4 : vb < w4.heap.size := by omega
      clear b4 hc4
      go_wp2_with fail
      refine (pick_lit e0 _ _ _ c a len cap _ (by exact lits_var h20 hs2) (by rfl) (by decide) (by decide) (by rfl) hl HC4.out).mono ?_
      rintro e w5 ⟨s5, rfl, hs5, b5, hc5⟩
      have hw5 := b5.size
      have HB5 := hideP b5
      have HC5 := hideP hc5
      have HV5 := hideP (HV4.out.but hv4 hvc b5)
      have hv5 : vb < w5.heap.size := by omega
      clear b5 hc5
      go_wp2
      go_ret
      exact ⟨_, rfl, by first | omega | (simp [size_lit]; done) | (simp [size_lit]; omega), ((((HB1.out).trans HB2.out).trans HB3.out).trans HB4.out).trans HB5.out, HC5.out⟩
    · have q3_0' : ((x3 : Int) == 0) = false := by simpa using q3_0
      clear q3_0
      by_cases q3_0 : ((x3 : Int) == 1) = true
      · go_wp2_with fail
        refine (pick_lit 20 _ _ _ c a len cap _ (by kernel_rfl) (by rfl) (by decide) (by decide) (by rfl) hl HC3.out).mono ?_
        rintro e w4 ⟨s4, rfl, hs4, b4, hc4⟩
        have hw4 := b4.size
        have HB4 := hideP b4
        have HC4 := hideP hc4
        have HV4 := hideP (HV3.out.but hv3 hvc b4)
        have hv4 : vb < w4.heap.size := by omega
        clear b4 hc4
        go_wp2_with fail
        try rw [show ((d : Int) + 1 - 1) = (d : Int) by omega]
        refine (IHH.out _ hv4 HV4.out HC4.out).mono ?_
        rintro e w5 ⟨s5, rfl, hs5, b5, hc5⟩
        have hw5 := b5.size
        have HB5 := hideP b5
        have HC5 := hideP hc5
        have HV5 := hideP (HV4.out.but hv4 hvc b5)
        have hv5 : vb < w5.heap.size := by omega
        clear b5 hc5
        go_wp2
        go_ret
        exact ⟨_, rfl, by first | omega | (simp [size_lit]; done) | (simp [size_lit]; omega), ((((HB1.out).trans HB2.out).trans HB3.out).trans HB4.out).trans HB5.out, HC5.out⟩
      · have q3_0' : ((x3 : Int) == 1) = false := by simpa using q3_0
        clear q3_0
        by_cases q3_2 : ((x3 : Int) == 2) = true
        · go_wp2_with fail
          refine (pick_lit 20 _ _ _ c a len cap _ (by kernel_rfl) (by rfl) (by decide) (by decide) (by rfl) hl HC3.out).mono ?_
          rintro e w4 ⟨s4, rfl, hs4, b4, hc4⟩
          have hw4 := b4.size
          have HB4 := hideP b4
          have HC4 := hideP hc4
          have HV4 := hideP (HV3.out.but hv3 hvc b4)
          have hv4 : vb < w4.heap.size := by omega
          clear b4 hc4
          go_wp2_with fail
          try rw [show ((d : Int) + 1 - 1) = (d : Int) by omega]
          refine (IHH.out _ hv4 HV4.out HC4.out).mono ?_
          rintro e w5 ⟨s5, rfl, hs5, b5, hc5⟩
          have hw5 := b5.size
          have HB5 := hideP b5
          have HC5 := hideP hc5
          have HV5 := hideP (HV4.out.but hv4 hvc b5)
          have hv5 : vb < w5.heap.size := by omega
          clear b5 hc5
          go_wp2
          go_ret
          exact ⟨_, rfl, by first | omega | (simp [size_lit]; done) | (simp [size_lit]; omega), ((((HB1.out).trans HB2.out).trans HB3.out).trans HB4.out).trans HB5.out, HC5.out⟩
        · have q3_2' : ((x3 : Int) == 2) = false := by simpa using q3_2
          clear q3_2
          by_cases q3_3 : ((x3 : Int) == 3) = true
          · go_wp2
            go_ret
            exact ⟨_, rfl, by first | omega | (simp [size_lit]; done) | (simp [size_lit]; omega), ((HB1.out).trans HB2.out).trans HB3.out, HC3.out⟩
          · have q3_3' : ((x3 : Int) == 3) = false := by simpa using q3_3
            clear q3_3
            go_wp2
            go_ret
            exact ⟨_, rfl, by first | omega | (simp [size_lit]; done) | (simp [size_lit]; omega), ((HB1.out).trans HB2.out).trans HB3.out, HC3.out⟩

theorem exp_two (ss : List ByteArray) (vb cp c : Nat) (a : Option Addr) (len cap : Nat) (hl : len ≤ 1048576) (hss : 1 ≤ ss.length) (hs9 : ss.length ≤ 100) (hsv : ∀ s ∈ ss, s.size ≤ 20) (hvc : vb ≠ c) (w : World) (hv0 : vb < w.heap.size) (hvars : StrsAt w vb ss) (hcur : Cur w c a len cap) :
    Calls Tryd.prog 53 #[.pointer (some ⟨c, 0, none⟩), .slice (some ⟨vb, 0, none⟩) ss.length cp, .int .i64 2] w fun e w' => ∃ s : ByteArray, e = .returned (.string s) ∧ s.size ≤ 380 ∧ But c w w' ∧ Cur w' c a len cap :=
  exp_succ ss vb cp c a len cap hl hss hs9 hsv hvc 1 140 (by decide) (by decide) (by decide) (fun W h1 h2 h3 => exp_succ ss vb cp c a len cap hl hss hs9 hsv hvc 0 20 (by decide) (by decide) (by decide) (fun W h1 h2 h3 => exp_zero ss vb cp c a len cap hl hss hs9 hsv hvc W h1 h2 h3) W h1 h2 h3) w hv0 hvars hcur

set_option maxHeartbeats 1000000 in
theorem stmt_zero (ss : List ByteArray) (vb cp c : Nat) (a : Option Addr) (len cap : Nat) (hl : len ≤ 1048576) (hss : 1 ≤ ss.length) (hs9 : ss.length ≤ 100) (hsv : ∀ s ∈ ss, s.size ≤ 20) (hvc : vb ≠ c)
    (w : World) (hv0 : vb < w.heap.size) (hvars : StrsAt w vb ss) (hcur : Cur w c a len cap) :
    Calls Tryd.prog 43 #[.pointer (some ⟨c, 0, none⟩), .slice (some ⟨vb, 0, none⟩) ss.length cp, .int .i64 0] w fun e w' => ∃ s : ByteArray, e = .returned (.string s) ∧ s.size ≤ 600 ∧ But c w w' ∧ Cur w' c a len cap := by
  have HC0 := hideP hcur
  have HV0 := hideP hvars
  clear hcur hvars
  go_enter Tryd.func43, Tryd.ntmps43
  go_wp2_with fail
  refine (exp_two ss vb cp c a len cap hl hss hs9 hsv hvc _ hv0 HV0.out HC0.out).mono ?_
  rintro e w1 ⟨s1, rfl, hs1, b1, hc1⟩
  have hw1 := b1.size
  have HB1 := hideP b1
  have HC1 := hideP hc1
  have HV1 := hideP (HV0.out.but hv0 hvc b1)
  have hv1 : vb < w1.heap.size := by omega
  clear b1 hc1
  go_wp2_with fail
  refine (l01Below_any 13 c a len cap _ (by decide) (by decide) hl HC1.out).mono ?_
  rintro e w2 ⟨x2, rfl, hx2, b2, hc2⟩
  have hw2 := b2.size
  have HB2 := hideP b2
  have HC2 := hideP hc2
  have HV2 := hideP (HV1.out.but hv1 hvc b2)
  have hv2 : vb < w2.heap.size := by omega
  clear b2 hc2
  by_cases q2_0 : ((x2 : Int) == 0) = true
  · go_wp2_with fail
    refine (pick_lit 20 _ _ _ c a len cap _ (by kernel_rfl) (by rfl) (by decide) (by decide) (by rfl) hl HC2.out).mono ?_
    rintro e w3 ⟨s3, rfl, hs3, b3, hc3⟩
    have hw3 := b3.size
    have HB3 := hideP b3
    have HC3 := hideP hc3
    have HV3 := hideP (HV2.out.but hv2 hvc b3)
    have hv3 : vb < w3.heap.size := by omega
    clear b3 hc3
    go_wp2_with fail
    refine (pick_lit 20 _ _ _ c a len cap _ (by kernel_rfl) (by rfl) (by decide) (by decide) (by rfl) hl HC3.out).mono ?_
    rintro e w4 ⟨s4, rfl, hs4, b4, hc4⟩
    have hw4 := b4.size
    have HB4 := hideP b4
    have HC4 := hideP hc4
    have HV4 := hideP (HV3.out.but hv3 hvc b4)
    have hv4 : vb < w4.heap.size := by omega
    clear b4 hc4
    go_wp2
    go_ret
    exact ⟨_, rfl, by first | omega | (simp [size_lit]; done) | (simp [size_lit]; omega), (((HB1.out).trans HB2.out).trans HB3.out).trans HB4.out, HC4.out⟩
  · have q2_0' : ((x2 : Int) == 0) = false := by simpa using q2_0
    clear q2_0
    by_cases q2_1 : ((x2 : Int) == 1) = true
    · go_wp2_with fail
      refine (pick_lit 20 _ _ _ c a len cap _ (by kernel_rfl) (by rfl) (by decide) (by decide) (by rfl) hl HC2.out).mono ?_
      rintro e w3 ⟨s3, rfl, hs3, b3, hc3⟩
      have hw3 := b3.size
      have HB3 := hideP b3
      have HC3 := hideP hc3
      have HV3 := hideP (HV2.out.but hv2 hvc b3)
      have hv3 : vb < w3.heap.size := by omega
      clear b3 hc3
      go_wp2_with fail
      refine (pick_lit 20 _ _ _ c a len cap _ (by kernel_rfl) (by rfl) (by decide) (by decide) (by rfl) hl HC3.out).mono ?_
      rintro e w4 ⟨s4, rfl, hs4, b4, hc4⟩
      have hw4 := b4.size
      have HB4 := hideP b4
      have HC4 := hideP hc4
      have HV4 := hideP (HV3.out.but hv3 hvc b4)
      have hv4 : vb < w4.heap.size := by omega
      clear b4 hc4
      go_wp2
      go_ret
      exact ⟨_, rfl, by first | omega | (simp [size_lit]; done) | (simp [size_lit]; omega), (((HB1.out).trans HB2.out).trans HB3.out).trans HB4.out, HC4.out⟩
    · have q2_1' : ((x2 : Int) == 1) = false := by simpa using q2_1
      clear q2_1
      by_cases q2_2 : ((x2 : Int) == 2) = true
      · go_wp2_with fail
        refine (pick_lit 20 _ _ _ c a len cap _ (by kernel_rfl) (by rfl) (by decide) (by decide) (by rfl) hl HC2.out).mono ?_
        rintro e w3 ⟨s3, rfl, hs3, b3, hc3⟩
        have hw3 := b3.size
        have HB3 := hideP b3
        have HC3 := hideP hc3
        have HV3 := hideP (HV2.out.but hv2 hvc b3)
        have hv3 : vb < w3.heap.size := by omega
        clear b3 hc3
        go_wp2_with fail
        refine (pick_lit 20 _ _ _ c a len cap _ (by kernel_rfl) (by rfl) (by decide) (by decide) (by rfl) hl HC3.out).mono ?_
        rintro e w4 ⟨s4, rfl, hs4, b4, hc4⟩
        have hw4 := b4.size
        have HB4 := hideP b4
        have HC4 := hideP hc4
        have HV4 := hideP (HV3.out.but hv3 hvc b4)
        have hv4 : vb < w4.heap.size := by omega
        clear b4 hc4
        go_wp2
        go_ret
        exact ⟨_, rfl, by first | omega | (simp [size_lit]; done) | (simp [size_lit]; omega), (((HB1.out).trans HB2.out).trans HB3.out).trans HB4.out, HC4.out⟩
      · have q2_2' : ((x2 : Int) == 2) = false := by simpa using q2_2
        clear q2_2
        by_cases q2_3 : ((x2 : Int) == 3) = true
        · go_wp2_with fail
          refine (pick_lit 20 _ _ _ c a len cap _ (by kernel_rfl) (by rfl) (by decide) (by decide) (by rfl) hl HC2.out).mono ?_
          rintro e w3 ⟨s3, rfl, hs3, b3, hc3⟩
          have hw3 := b3.size
          have HB3 := hideP b3
          have HC3 := hideP hc3
          have HV3 := hideP (HV2.out.but hv2 hvc b3)
          have hv3 : vb < w3.heap.size := by omega
          clear b3 hc3
          go_wp2_with fail
          refine (pick_lit 20 _ _ _ c a len cap _ (by kernel_rfl) (by rfl) (by decide) (by decide) (by rfl) hl HC3.out).mono ?_
          rintro e w4 ⟨s4, rfl, hs4, b4, hc4⟩
          have hw4 := b4.size
          have HB4 := hideP b4
          have HC4 := hideP hc4
          have HV4 := hideP (HV3.out.but hv3 hvc b4)
          have hv4 : vb < w4.heap.size := by omega
          clear b4 hc4
          go_wp2_with fail
          refine (pick_lit 20 _ _ _ c a len cap _ (by kernel_rfl) (by rfl) (by decide) (by decide) (by rfl) hl HC4.out).mono ?_
          rintro e w5 ⟨s5, rfl, hs5, b5, hc5⟩
          have hw5 := b5.size
          have HB5 := hideP b5
          have HC5 := hideP hc5
          have HV5 := hideP (HV4.out.but hv4 hvc b5)
          have hv5 : vb < w5.heap.size := by omega
          clear b5 hc5
          go_wp2
          go_ret
          exact ⟨_, rfl, by first | omega | (simp [size_lit]; done) | (simp [size_lit]; omega), ((((HB1.out).trans HB2.out).trans HB3.out).trans HB4.out).trans HB5.out, HC5.out⟩
        · have q2_3' : ((x2 : Int) == 3) = false := by simpa using q2_3
          clear q2_3
          by_cases q2_4 : ((x2 : Int) == 4) = true
          · go_wp2_with fail
            refine (pick_lit 20 _ _ _ c a len cap _ (by kernel_rfl) (by rfl) (by decide) (by decide) (by rfl) hl HC2.out).mono ?_
            rintro e w3 ⟨s3, rfl, hs3, b3, hc3⟩
            have hw3 := b3.size
            have HB3 := hideP b3
            have HC3 := hideP hc3
            have HV3 := hideP (HV2.out.but hv2 hvc b3)
            have hv3 : vb < w3.heap.size := by omega
            clear b3 hc3
            go_wp2_with fail
            refine (pick_lit 20 _ _ _ c a len cap _ (by kernel_rfl) (by rfl) (by decide) (by decide) (by rfl) hl HC3.out).mono ?_
            rintro e w4 ⟨s4, rfl, hs4, b4, hc4⟩
            have hw4 := b4.size
            have HB4 := hideP b4
            have HC4 := hideP hc4
            have HV4 := hideP (HV3.out.but hv3 hvc b4)
            have hv4 : vb < w4.heap.size := by omega
            clear b4 hc4
            go_wp2_with fail
            refine (pick_lit 20 _ _ _ c a len cap _ (by kernel_rfl) (by rfl) (by decide) (by decide) (by rfl) hl HC4.out).mono ?_
            rintro e w5 ⟨s5, rfl, hs5, b5, hc5⟩
            have hw5 := b5.size
            have HB5 := hideP b5
            have HC5 := hideP hc5
            have HV5 := hideP (HV4.out.but hv4 hvc b5)
            have hv5 : vb < w5.heap.size := by omega
            clear b5 hc5
            go_wp2
            go_ret
            exact ⟨_, rfl, by first | omega | (simp [size_lit]; done) | (simp [size_lit]; omega), ((((HB1.out).trans HB2.out).trans HB3.out).trans HB4.out).trans HB5.out, HC5.out⟩
          · have q2_4' : ((x2 : Int) == 4) = false := by simpa using q2_4
            clear q2_4
            by_cases q2_5 : ((x2 : Int) == 5) = true
            · go_wp2
              go_ret
              exact ⟨_, rfl, by first | omega | (simp [size_lit]; done) | (simp [size_lit]; omega), (HB1.out).trans HB2.out, HC2.out⟩
            · have q2_5' : ((x2 : Int) == 5) = false := by simpa using q2_5
              clear q2_5
              by_cases q2_6 : ((x2 : Int) == 6) = true
              · go_wp2_with fail
                refine (pick_lit 20 _ _ _ c a len cap _ (by kernel_rfl) (by rfl) (by decide) (by decide) (by rfl) hl HC2.out).mono ?_
                rintro e w3 ⟨s3, rfl, hs3, b3, hc3⟩
                have hw3 := b3.size
                have HB3 := hideP b3
                have HC3 := hideP hc3
                have HV3 := hideP (HV2.out.but hv2 hvc b3)
                have hv3 : vb < w3.heap.size := by omega
                clear b3 hc3
                go_wp2
                go_ret
                exact ⟨_, rfl, by first | omega | (simp [size_lit]; done) | (simp [size_lit]; omega), ((HB1.out).trans HB2.out).trans HB3.out, HC3.out⟩
              · have q2_6' : ((x2 : Int) == 6) = false := by simpa using q2_6
                clear q2_6
                by_cases q2_7 : ((x2 : Int) == 7) = true
                · go_wp2_with fail
                  refine (pick_lit 20 _ _ _ c a len cap _ (by kernel_rfl) (by rfl) (by decide) (by decide) (by rfl) hl HC2.out).mono ?_
                  rintro e w3 ⟨s3, rfl, hs3, b3, hc3⟩
                  have hw3 := b3.size
                  have HB3 := hideP b3
                  have HC3 := hideP hc3
                  have HV3 := hideP (HV2.out.but hv2 hvc b3)
                  have hv3 : vb < w3.heap.size := by omega
                  clear b3 hc3
                  go_wp2
                  go_ret
                  exact ⟨_, rfl, by first | omega | (simp [size_lit]; done) | (simp [size_lit]; omega), ((HB1.out).trans HB2.out).trans HB3.out, HC3.out⟩
                · have q2_7' : ((x2 : Int) == 7) = false := by simpa using q2_7
                  clear q2_7
                  by_cases q2_8 : ((x2 : Int) == 8) = true
                  · go_wp2_with fail
                    refine (pick_lit 20 _ _ _ c a len cap _ (by kernel_rfl) (by rfl) (by decide) (by decide) (by rfl) hl HC2.out).mono ?_
                    rintro e w3 ⟨s3, rfl, hs3, b3, hc3⟩
                    have hw3 := b3.size
                    have HB3 := hideP b3
                    have HC3 := hideP hc3
                    have HV3 := hideP (HV2.out.but hv2 hvc b3)
                    have hv3 : vb < w3.heap.size := by omega
                    clear b3 hc3
                    go_wp2
                    go_ret
                    exact ⟨_, rfl, by first | omega | (simp [size_lit]; done) | (simp [size_lit]; omega), ((HB1.out).trans HB2.out).trans HB3.out, HC3.out⟩
                  · have q2_8' : ((x2 : Int) == 8) = false := by simpa using q2_8
                    clear q2_8
                    by_cases q2_9 : ((x2 : Int) == 9) = true
                    · go_wp2_with fail
                      refine (l01Once_any 3 c a len cap _ (by decide) (by decide) hl HC2.out).mono ?_
                      rintro e w3 ⟨x3, rfl, b3, hc3⟩
                      have hw3 := b3.size
                      have HB3 := hideP b3
                      have HC3 := hideP hc3
                      have HV3 := hideP (HV2.out.but hv2 hvc b3)
                      have hv3 : vb < w3.heap.size := by omega
                      clear b3 hc3
                      by_cases q3_11 : x3 = true
                      · go_wp2
                        go_ret
                        exact ⟨_, rfl, by first | omega | (simp [size_lit]; done) | (simp [size_lit]; omega), ((HB1.out).trans HB2.out).trans HB3.out, HC3.out⟩
                      · have q3_11' : x3 = false := by simpa using q3_11
                        clear q3_11
                        go_wp2_with fail
                        refine (pick_lit 20 _ _ _ c a len cap _ (by kernel_rfl) (by rfl) (by decide) (by decide) (by rfl) hl HC3.out).mono ?_
                        rintro e w4 ⟨s4, rfl, hs4, b4, hc4⟩
                        have hw4 := b4.size
                        have HB4 := hideP b4
                        have HC4 := hideP hc4
                        have HV4 := hideP (HV3.out.but hv3 hvc b4)
                        have hv4 : vb < w4.heap.size := by omega
                        clear b4 hc4
                        go_wp2
                        go_ret
                        exact ⟨_, rfl, by first | omega | (simp [size_lit]; done) | (simp [size_lit]; omega), (((HB1.out).trans HB2.out).trans HB3.out).trans HB4.out, HC4.out⟩
                    · have q2_9' : ((x2 : Int) == 9) = false := by simpa using q2_9
                      clear q2_9
                      go_wp2_with fail
                      refine (pick_lit 20 _ _ _ c a len cap _ (by kernel_rfl) (by rfl) (by decide) (by decide) (by rfl) hl HC2.out).mono ?_
                      rintro e w3 ⟨s3, rfl, hs3, b3, hc3⟩
                      have hw3 := b3.size
                      have HB3 := hideP b3
                      have HC3 := hideP hc3
                      have HV3 := hideP (HV2.out.but hv2 hvc b3)
                      have hv3 : vb < w3.heap.size := by omega
                      clear b3 hc3
                      go_wp2
                      go_ret
                      exact ⟨_, rfl, by first | omega | (simp [size_lit]; done) | (simp [size_lit]; omega), ((HB1.out).trans HB2.out).trans HB3.out, HC3.out⟩

set_option maxHeartbeats 1000000 in
theorem stmt_one (ss : List ByteArray) (vb cp c : Nat) (a : Option Addr) (len cap : Nat) (hl : len ≤ 1048576) (hss : 1 ≤ ss.length) (hs9 : ss.length ≤ 100) (hsv : ∀ s ∈ ss, s.size ≤ 20) (hvc : vb ≠ c)
    (w : World) (hv0 : vb < w.heap.size) (hvars : StrsAt w vb ss) (hcur : Cur w c a len cap) :
    Calls Tryd.prog 43 #[.pointer (some ⟨c, 0, none⟩), .slice (some ⟨vb, 0, none⟩) ss.length cp, .int .i64 1] w fun e w' => ∃ s : ByteArray, e = .returned (.string s) ∧ s.size ≤ 2400 ∧ But c w w' ∧ Cur w' c a len cap := by
  have HC0 := hideP hcur
  have HV0 := hideP hvars
  clear hcur hvars
  go_enter Tryd.func43, Tryd.ntmps43
  go_wp2_with fail
  refine (exp_two ss vb cp c a len cap hl hss hs9 hsv hvc _ hv0 HV0.out HC0.out).mono ?_
  rintro e w1 ⟨s1, rfl, hs1, b1, hc1⟩
  have hw1 := b1.size
  have HB1 := hideP b1
  have HC1 := hideP hc1
  have HV1 := hideP (HV0.out.but hv0 hvc b1)
  have hv1 : vb < w1.heap.size := by omega
  clear b1 hc1
  go_wp2_with fail
  refine (l01Below_any 13 c a len cap _ (by decide) (by decide) hl HC1.out).mono ?_
  rintro e w2 ⟨x2, rfl, hx2, b2, hc2⟩
  have hw2 := b2.size
  have HB2 := hideP b2
  have HC2 := hideP hc2
  have HV2 := hideP (HV1.out.but hv1 hvc b2)
  have hv2 : vb < w2.heap.size := by omega
  clear b2 hc2
  by_cases q2_0 : ((x2 : Int) == 0) = true
  · go_wp2_with fail
    refine (pick_lit 20 _ _ _ c a len cap _ (by kernel_rfl) (by rfl) (by decide) (by decide) (by rfl) hl HC2.out).mono ?_
    rintro e w3 ⟨s3, rfl, hs3, b3, hc3⟩
    have hw3 := b3.size
    have HB3 := hideP b3
    have HC3 := hideP hc3
    have HV3 := hideP (HV2.out.but hv2 hvc b3)
    have hv3 : vb < w3.heap.size := by omega
    clear b3 hc3
    go_wp2_with fail
    refine (pick_lit 20 _ _ _ c a len cap _ (by kernel_rfl) (by rfl) (by decide) (by decide) (by rfl) hl HC3.out).mono ?_
    rintro e w4 ⟨s4, rfl, hs4, b4, hc4⟩
    have hw4 := b4.size
    have HB4 := hideP b4
    have HC4 := hideP hc4
    have HV4 := hideP (HV3.out.but hv3 hvc b4)
    have hv4 : vb < w4.heap.size := by omega
    clear b4 hc4
    go_wp2
    go_ret
    exact ⟨_, rfl, by first | omega | (simp [size_lit]; done) | (simp [size_lit]; omega), (((HB1.out).trans HB2.out).trans HB3.out).trans HB4.out, HC4.out⟩
  · have q2_0' : ((x2 : Int) == 0) = false := by simpa using q2_0
    clear q2_0
    by_cases q2_1 : ((x2 : Int) == 1) = true
    · go_wp2_with fail
      refine (pick_lit 20 _ _ _ c a len cap _ (by kernel_rfl) (by rfl) (by decide) (by decide) (by rfl) hl HC2.out).mono ?_
      rintro e w3 ⟨s3, rfl, hs3, b3, hc3⟩
      have hw3 := b3.size
      have HB3 := hideP b3
      have HC3 := hideP hc3
      have HV3 := hideP (HV2.out.but hv2 hvc b3)
      have hv3 : vb < w3.heap.size := by omega
      clear b3 hc3
      go_wp2_with fail
      refine (pick_lit 20 _ _ _ c a len cap _ (by kernel_rfl) (by rfl) (by decide) (by decide) (by rfl) hl HC3.out).mono ?_
      rintro e w4 ⟨s4, rfl, hs4, b4, hc4⟩
      have hw4 := b4.size
      have HB4 := hideP b4
      have HC4 := hideP hc4
      have HV4 := hideP (HV3.out.but hv3 hvc b4)
      have hv4 : vb < w4.heap.size := by omega
      clear b4 hc4
      go_wp2
      go_ret
      exact ⟨_, rfl, by first | omega | (simp [size_lit]; done) | (simp [size_lit]; omega), (((HB1.out).trans HB2.out).trans HB3.out).trans HB4.out, HC4.out⟩
    · have q2_1' : ((x2 : Int) == 1) = false := by simpa using q2_1
      clear q2_1
      by_cases q2_2 : ((x2 : Int) == 2) = true
      · go_wp2_with fail
        refine (pick_lit 20 _ _ _ c a len cap _ (by kernel_rfl) (by rfl) (by decide) (by decide) (by rfl) hl HC2.out).mono ?_
        rintro e w3 ⟨s3, rfl, hs3, b3, hc3⟩
        have hw3 := b3.size
        have HB3 := hideP b3
        have HC3 := hideP hc3
        have HV3 := hideP (HV2.out.but hv2 hvc b3)
        have hv3 : vb < w3.heap.size := by omega
        clear b3 hc3
        go_wp2_with fail
        refine (pick_lit 20 _ _ _ c a len cap _ (by kernel_rfl) (by rfl) (by decide) (by decide) (by rfl) hl HC3.out).mono ?_
        rintro e w4 ⟨s4, rfl, hs4, b4, hc4⟩
        have hw4 := b4.size
        have HB4 := hideP b4
        have HC4 := hideP hc4
        have HV4 := hideP (HV3.out.but hv3 hvc b4)
        have hv4 : vb < w4.heap.size := by omega
        clear b4 hc4
        go_wp2
        go_ret
        exact ⟨_, rfl, by first | omega | (simp [size_lit]; done) | (simp [size_lit]; omega), (((HB1.out).trans HB2.out).trans HB3.out).trans HB4.out, HC4.out⟩
      · have q2_2' : ((x2 : Int) == 2) = false := by simpa using q2_2
        clear q2_2
        by_cases q2_3 : ((x2 : Int) == 3) = true
        · go_wp2_with fail
          refine (pick_lit 20 _ _ _ c a len cap _ (by kernel_rfl) (by rfl) (by decide) (by decide) (by rfl) hl HC2.out).mono ?_
          rintro e w3 ⟨s3, rfl, hs3, b3, hc3⟩
          have hw3 := b3.size
          have HB3 := hideP b3
          have HC3 := hideP hc3
          have HV3 := hideP (HV2.out.but hv2 hvc b3)
          have hv3 : vb < w3.heap.size := by omega
          clear b3 hc3
          go_wp2_with fail
          refine (pick_lit 20 _ _ _ c a len cap _ (by kernel_rfl) (by rfl) (by decide) (by decide) (by rfl) hl HC3.out).mono ?_
          rintro e w4 ⟨s4, rfl, hs4, b4, hc4⟩
          have hw4 := b4.size
          have HB4 := hideP b4
          have HC4 := hideP hc4
          have HV4 := hideP (HV3.out.but hv3 hvc b4)
          have hv4 : vb < w4.heap.size := by omega
          clear b4 hc4
          go_wp2_with fail
          refine (pick_lit 20 _ _ _ c a len cap _ (by kernel_rfl) (by rfl) (by decide) (by decide) (by rfl) hl HC4.out).mono ?_
          rintro e w5 ⟨s5, rfl, hs5, b5, hc5⟩
          have hw5 := b5.size
          have HB5 := hideP b5
          have HC5 := hideP hc5
          have HV5 := hideP (HV4.out.but hv4 hvc b5)
          have hv5 : vb < w5.heap.size := by omega
          clear b5 hc5
          go_wp2
          go_ret
          exact ⟨_, rfl, by first | omega | (simp [size_lit]; done) | (simp [size_lit]; omega), ((((HB1.out).trans HB2.out).trans HB3.out).trans HB4.out).trans HB5.out, HC5.out⟩
        · have q2_3' : ((x2 : Int) == 3) = false := by simpa using q2_3
          clear q2_3
          by_cases q2_4 : ((x2 : Int) == 4) = true
          · go_wp2_with fail
            refine (pick_lit 20 _ _ _ c a len cap _ (by kernel_rfl) (by rfl) (by decide) (by decide) (by rfl) hl HC2.out).mono ?_
            rintro e w3 ⟨s3, rfl, hs3, b3, hc3⟩
            have hw3 := b3.size
            have HB3 := hideP b3
            have HC3 := hideP hc3
            have HV3 := hideP (HV2.out.but hv2 hvc b3)
            have hv3 : vb < w3.heap.size := by omega
            clear b3 hc3
            go_wp2_with fail
            refine (pick_lit 20 _ _ _ c a len cap _ (by kernel_rfl) (by rfl) (by decide) (by decide) (by rfl) hl HC3.out).mono ?_
            rintro e w4 ⟨s4, rfl, hs4, b4, hc4⟩
            have hw4 := b4.size
            have HB4 := hideP b4
            have HC4 := hideP hc4
            have HV4 := hideP (HV3.out.but hv3 hvc b4)
            have hv4 : vb < w4.heap.size := by omega
            clear b4 hc4
            go_wp2_with fail
            refine (pick_lit 20 _ _ _ c a len cap _ (by kernel_rfl) (by rfl) (by decide) (by decide) (by rfl) hl HC4.out).mono ?_
            rintro e w5 ⟨s5, rfl, hs5, b5, hc5⟩
            have hw5 := b5.size
            have HB5 := hideP b5
            have HC5 := hideP hc5
            have HV5 := hideP (HV4.out.but hv4 hvc b5)
            have hv5 : vb < w5.heap.size := by omega
            clear b5 hc5
            go_wp2
            go_ret
            exact ⟨_, rfl, by first | omega | (simp [size_lit]; done) | (simp [size_lit]; omega), ((((HB1.out).trans HB2.out).trans HB3.out).trans HB4.out).trans HB5.out, HC5.out⟩
          · have q2_4' : ((x2 : Int) == 4) = false := by simpa using q2_4
            clear q2_4
            by_cases q2_5 : ((x2 : Int) == 5) = true
            · go_wp2
              go_ret
              exact ⟨_, rfl, by first | omega | (simp [size_lit]; done) | (simp [size_lit]; omega), (HB1.out).trans HB2.out, HC2.out⟩
            · have q2_5' : ((x2 : Int) == 5) = false := by simpa using q2_5
              clear q2_5
              by_cases q2_6 : ((x2 : Int) == 6) = true
              · go_wp2_with fail
                refine (stmt_zero ss vb cp c a len cap hl hss hs9 hsv hvc _ hv2 HV2.out HC2.out).mono ?_
                rintro e w3 ⟨s3, rfl, hs3, b3, hc3⟩
                have hw3 := b3.size
                have HB3 := hideP b3
                have HC3 := hideP hc3
                have HV3 := hideP (HV2.out.but hv2 hvc b3)
                have hv3 : vb < w3.heap.size := by omega
                clear b3 hc3
                go_wp2_with fail
                refine (stmt_zero ss vb cp c a len cap hl hss hs9 hsv hvc _ hv3 HV3.out HC3.out).mono ?_
                rintro e w4 ⟨s4, rfl, hs4, b4, hc4⟩
                have hw4 := b4.size
                have HB4 := hideP b4
                have HC4 := hideP hc4
                have HV4 := hideP (HV3.out.but hv3 hvc b4)
                have hv4 : vb < w4.heap.size := by omega
                clear b4 hc4
                go_wp2_with fail
                refine (stmt_zero ss vb cp c a len cap hl hss hs9 hsv hvc _ hv4 HV4.out HC4.out).mono ?_
                rintro e w5 ⟨s5, rfl, hs5, b5, hc5⟩
                have hw5 := b5.size
                have HB5 := hideP b5
                have HC5 := hideP hc5
                have HV5 := hideP (HV4.out.but hv4 hvc b5)
                have hv5 : vb < w5.heap.size := by omega
                clear b5 hc5
                go_wp2
                go_ret
                exact ⟨_, rfl, by first | omega | (simp [size_lit]; done) | (simp [size_lit]; omega), ((((HB1.out).trans HB2.out).trans HB3.out).trans HB4.out).trans HB5.out, HC5.out⟩
              · have q2_6' : ((x2 : Int) == 6) = false := by simpa using q2_6
                clear q2_6
                by_cases q2_7 : ((x2 : Int) == 7) = true
                · go_wp2_with fail
                  refine (pick_lit 20 _ _ _ c a len cap _ (by kernel_rfl) (by rfl) (by decide) (by decide) (by rfl) hl HC2.out).mono ?_
                  rintro e w3 ⟨s3, rfl, hs3, b3, hc3⟩
                  have hw3 := b3.size
                  have HB3 := hideP b3
                  have HC3 := hideP hc3
                  have HV3 := hideP (HV2.out.but hv2 hvc b3)
                  have hv3 : vb < w3.heap.size := by omega
                  clear b3 hc3
                  go_wp2_with fail
                  refine (stmt_zero ss vb cp c a len cap hl hss hs9 hsv hvc _ hv3 HV3.out HC3.out).mono ?_
                  rintro e w4 ⟨s4, rfl, hs4, b4, hc4⟩
                  have hw4 := b4.size
                  have HB4 := hideP b4
                  have HC4 := hideP hc4
                  have HV4 := hideP (HV3.out.but hv3 hvc b4)
                  have hv4 : vb < w4.heap.size := by omega
                  clear b4 hc4
                  go_wp2_with fail
                  refine (stmt_zero ss vb cp c a len cap hl hss hs9 hsv hvc _ hv4 HV4.out HC4.out).mono ?_
                  rintro e w5 ⟨s5, rfl, hs5, b5, hc5⟩
                  have hw5 := b5.size
                  have HB5 := hideP b5
                  have HC5 := hideP hc5
                  have HV5 := hideP (HV4.out.but hv4 hvc b5)
                  have hv5 : vb < w5.heap.size := by omega
                  clear b5 hc5
                  go_wp2
                  go_ret
                  exact ⟨_, rfl, by first | omega | (simp [size_lit]; done) | (simp [size_lit]; omega), ((((HB1.out).trans HB2.out).trans HB3.out).trans HB4.out).trans HB5.out, HC5.out⟩
                · have q2_7' : ((x2 : Int) == 7) = false := by simpa using q2_7
                  clear q2_7
                  by_cases q2_8 : ((x2 : Int) == 8) = true
                  · go_wp2_with fail
                    refine (pick_lit 20 _ _ _ c a len cap _ (by kernel_rfl) (by rfl) (by decide) (by decide) (by rfl) hl HC2.out).mono ?_
                    rintro e w3 ⟨s3, rfl, hs3, b3, hc3⟩
                    have hw3 := b3.size
                    have HB3 := hideP b3
                    have HC3 := hideP hc3
                    have HV3 := hideP (HV2.out.but hv2 hvc b3)
                    have hv3 : vb < w3.heap.size := by omega
                    clear b3 hc3
                    go_wp2
                    go_ret
                    exact ⟨_, rfl, by first | omega | (simp [size_lit]; done) | (simp [size_lit]; omega), ((HB1.out).trans HB2.out).trans HB3.out, HC3.out⟩
                  · have q2_8' : ((x2 : Int) == 8) = false := by simpa using q2_8
                    clear q2_8
                    by_cases q2_9 : ((x2 : Int) == 9) = true
                    · go_wp2_with fail
                      refine (l01Once_any 3 c a len cap _ (by decide) (by decide) hl HC2.out).mono ?_
                      rintro e w3 ⟨x3, rfl, b3, hc3⟩
                      have hw3 := b3.size
                      have HB3 := hideP b3
                      have HC3 := hideP hc3
                      have HV3 := hideP (HV2.out.but hv2 hvc b3)
                      have hv3 : vb < w3.heap.size := by omega
                      clear b3 hc3
                      by_cases q3_11 : x3 = true
                      · go_wp2
                        go_ret
                        exact ⟨_, rfl, by first | omega | (simp [size_lit]; done) | (simp [size_lit]; omega), ((HB1.out).trans HB2.out).trans HB3.out, HC3.out⟩
                      · have q3_11' : x3 = false := by simpa using q3_11
                        clear q3_11
                        go_wp2_with fail
                        refine (pick_lit 20 _ _ _ c a len cap _ (by kernel_rfl) (by rfl) (by decide) (by decide) (by rfl) hl HC3.out).mono ?_
                        rintro e w4 ⟨s4, rfl, hs4, b4, hc4⟩
                        have hw4 := b4.size
                        have HB4 := hideP b4
                        have HC4 := hideP hc4
                        have HV4 := hideP (HV3.out.but hv3 hvc b4)
                        have hv4 : vb < w4.heap.size := by omega
                        clear b4 hc4
                        go_wp2
                        go_ret
                        exact ⟨_, rfl, by first | omega | (simp [size_lit]; done) | (simp [size_lit]; omega), (((HB1.out).trans HB2.out).trans HB3.out).trans HB4.out, HC4.out⟩
                    · have q2_9' : ((x2 : Int) == 9) = false := by simpa using q2_9
                      clear q2_9
                      go_wp2_with fail
                      refine (pick_lit 20 _ _ _ c a len cap _ (by kernel_rfl) (by rfl) (by decide) (by decide) (by rfl) hl HC2.out).mono ?_
                      rintro e w3 ⟨s3, rfl, hs3, b3, hc3⟩
                      have hw3 := b3.size
                      have HB3 := hideP b3
                      have HC3 := hideP hc3
                      have HV3 := hideP (HV2.out.but hv2 hvc b3)
                      have hv3 : vb < w3.heap.size := by omega
                      clear b3 hc3
                      go_wp2
                      go_ret
                      exact ⟨_, rfl, by first | omega | (simp [size_lit]; done) | (simp [size_lit]; omega), ((HB1.out).trans HB2.out).trans HB3.out, HC3.out⟩
end Go.Proofs.YtjgiohhfhncepaaDoor
