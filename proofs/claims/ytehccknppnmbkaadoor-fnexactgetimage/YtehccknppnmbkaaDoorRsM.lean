/- The contract of spec.GetImage where its conditions hold (written by wip/mkrss.py). -/
import Derived.Test.YtehccknppnmbkaaDoorRsGH
import Derived.Test.YtehccknppnmbkaaDoorRdN
import Derived.Test.YtehccknppnmbkaaDoorPuS
import Derived.Test.YtehccknppnmbkaaDoorImgS
import Derived.Conc.WalkWords
namespace Go.Proofs.YtehccknppnmbkaaDoor
open Go.ChangeShapes Go.WideShapes Go.ChangeAt Go.RowKit
theorem inB_iff (x a b : Int) : inB x a b = decide (a ≤ x ∧ x ≤ b) := rfl
set_option maxHeartbeats 16000000 in
set_option maxRecDepth 100000 in
theorem spec_getMain (s : ByteArray) (w : World) (hs : s.size ≤ 1048576) (N k c : Nat) (hN : s.size / 8 = N) (hv0 : numAt s 0 = (k : Int)) (hv3 : numAt s (8 * k + 24) = (c : Int)) (h2 : 1 ≤ (k : Int) ∧ (k : Int) ≤ 4) (h4 : 1 ≤ (c : Int) ∧ (c : Int) ≤ 6000) (h5 : N = k + 5 + 5 * c) :
    Calls Tryd.prog 20 #[.string s] w fun en w' => GetRes w s en w' := by
  have i2 : Hid (inB (k : Int) 1 4 = true) := by show _ = _; rw [inB_iff]; exact decide_eq_true h2
  have i4 : Hid (inB (c : Int) 1 6000 = true) := by show _ = _; rw [inB_iff]; exact decide_eq_true h4
  have hd1 : (s.size : Int) / 8 = (N : Int) := by omega
  have G0 : Hid (∀ W, Calls Tryd.prog 34 #[.string s, .int .i64 0] W fun e w' => e = .returned (.int .i64 (k : Int)) ∧ w' = W) := fun W => by rw [← hv0]; exact l14Get_at s 0 0 W hs (by omega) rfl
  have G3 : Hid (∀ W, Calls Tryd.prog 34 #[.string s, .int .i64 (8 * (k : Int) + 24)] W fun e w' => e = .returned (.int .i64 (c : Int)) ∧ w' = W) := fun W => by rw [← hv3]; exact l14Get_at s (8 * k + 24) _ W hs (by omega) (by omega)
  obtain ⟨n, hn⟩ : ∃ n, w.heap.size = n := ⟨_, rfl⟩
  have HNN := hideP hn
  have IN := hideP l01In_any
  have al := (Below.refl w.heap.size w).alloc (Nat.le_refl _) (.cells zC 32)
  have Z0 := hideP (newR w (.cells zC 32))
  have HAL := hideP al
  clear al
  obtain ⟨W0, hW0⟩ : ∃ W, w.alloc (.cells zC 32) = W := ⟨_, rfl⟩
  have hz0 : W0.heap.size = w.heap.size + 1 := by rw [← hW0]; simp
  have HZ : Hid (W0.heap.size = n + 1) := by show _ = _; rw [hz0, hn]
  rw [hW0] at Z0 HAL
  rw [hn] at Z0
  unfold zC at hW0
  clear hz0
  have r0 := (cells_of Z0.out).1 0
  have r1 := (cells_of Z0.out).1 1
  have r2 := (cells_of Z0.out).1 2
  have r3 := (cells_of Z0.out).1 3
  have f0 := (cells_of Z0.out).2
  simp [zC] at r0 r1 r2 r3
  have EN : Hid (okI s = false → GetRes w s (.returned (.tuple #[.agg zC, .bool false])) (put4 W0 n (.slice none 0 0) (.int .i64 0) (.int .i64 0) (.slice none 0 0))) := fun h => get_none h (HAL.out.trans ((put4_but W0 n (.slice none 0 0) (.int .i64 0) (.int .i64 0) (.slice none 0 0)).below (by rw [HNN.out]; exact Nat.le_refl _) HAL.out.size))
  have PN := hideP (put4_box Z0.out (.slice none 0 0) (.int .i64 0) (.int .i64 0) (.slice none 0 0))
  have hc : condS s = true := by
    unfold condS
    rw [hv0, hN, Int.toNat_natCast, hv3]
    simp only [Bool.and_eq_true, decide_eq_true_eq]
    omega
  obtain ⟨q0, q1, q2, q3, q4⟩ := cond_has hc
  rw [hv0] at q0
  have hk : kI s = k := by omega
  rw [hk, hv3] at q2
  have hcI : cI s = c := by omega
  have heq : ((N : Int) != (k : Int) + 5 + 5 * (c : Int)) = false := by rw [bne_eq_false_iff_eq]; omega
  have hk10 : (k : Int) + 10 ≤ (N : Int) := by omega
  have hn1 : 1 ≤ (N : Int) := by omega
  have OKI : Hid (okI s = decide (putS (pI s) = s)) := cond_okI hc
  have V1 : Hid (valI s (1 + kI s) = numAt s (8 * k + 8)) := by
    have := valI_in (s := s) (i := 1 + kI s) (by omega)
    rw [hk, show 8 * (1 + k) = 8 * k + 8 by omega] at this
    rw [hk]; exact this
  have V2 : Hid (valI s (2 + kI s) = numAt s (8 * k + 16)) := by
    have := valI_in (s := s) (i := 2 + kI s) (by omega)
    rw [hk, show 8 * (2 + k) = 8 * k + 16 by omega] at this
    rw [hk]; exact this
  obtain ⟨p, hp⟩ : ∃ p, numAt s (8 * k + 8) = p := ⟨_, rfl⟩
  obtain ⟨q, hq⟩ : ∃ q, numAt s (8 * k + 16) = q := ⟨_, rfl⟩
  have G1 : Hid (∀ W, Calls Tryd.prog 34 #[.string s, .int .i64 (8 * (k : Int) + 8)] W fun e w' => e = .returned (.int .i64 p) ∧ w' = W) := fun W => by rw [← hp]; exact l14Get_at s (8 * k + 8) _ W hs (by omega) (by omega)
  have G2 : Hid (∀ W, Calls Tryd.prog 34 #[.string s, .int .i64 (8 * (k : Int) + 16)] W fun e w' => e = .returned (.int .i64 q) ∧ w' = W) := fun W => by rw [← hq]; exact l14Get_at s (8 * k + 16) _ W hs (by omega) (by omega)
  rw [hp] at V1
  rw [hq] at V2
  have HK := hideP hk
  have HC := hideP hcI
  have HSZ : Hid (8 * (k + 5 + 5 * c) ≤ s.size) := by show _ ≤ _; omega
  have HN5 := hideP h5
  clear hp hq hv0 hv3 q0 q1 q2 q3 q4 hk hcI hc hN h5 EN PN
  go_enter Tryd.func20, Tryd.ntmps20
  go_wp2_with fail
  refine (G0.out _).mono ?_
  rintro ea wa ⟨rfl, rfl⟩
  go_wp2_with fail
  refine (IN.out _ _ _ _).mono ?_
  rintro eb wb ⟨rfl, rfl⟩
  rw [i2.out]
  go_wp2_with fail
  refine (G0.out _).mono ?_
  rintro ea wa ⟨rfl, rfl⟩
  go_wp2_with fail
  refine (G3.out _).mono ?_
  rintro ea wa ⟨rfl, rfl⟩
  go_wp2_with fail
  refine (IN.out _ _ _ _).mono ?_
  rintro eb wb ⟨rfl, rfl⟩
  rw [i4.out]
  go_wp2_with fail
  refine (G3.out _).mono ?_
  rintro ea wa ⟨rfl, rfl⟩
  go_wp2_with fail
  refine (G1.out _).mono ?_
  rintro ea wa ⟨rfl, rfl⟩
  go_wp2_with fail
  refine (G2.out _).mono ?_
  rintro ea wa ⟨rfl, rfl⟩
  go_upto_region 9 with fail
  rw [HZ.out]
  have S0 : Hid (RsAt n (.slice none 0 0) p q (.slice none 0 0) [] [] w (wa.alloc (.cells #[.slice none 0 0, .int .i64 p, .int .i64 q, .slice none 0 0] 32))) := by
    have al := (Below.refl wa.heap.size wa).alloc (Nat.le_refl _) (.cells #[.slice none 0 0, .int .i64 p, .int .i64 q, .slice none 0 0] 32)
    refine ⟨keepR Z0.out al, ?_, OwnN.nil, OwnN.nil, ?_⟩
    · have := newR wa (.cells #[.slice none 0 0, .int .i64 p, .int .i64 q, .slice none 0 0] 32)
      rw [HZ.out] at this; exact this
    · have h0 := HAL.out
      rw [HNN.out] at h0
      exact h0.trans (al.mono (by rw [HZ.out]; omega))
  obtain ⟨W1, hW1⟩ : ∃ W, wa.alloc (.cells #[.slice none 0 0, .int .i64 p, .int .i64 q, .slice none 0 0] 32) = W := ⟨_, rfl⟩
  rw [hW1] at S0 ⊢
  clear hW1 hW0 r0 r1 r2 r3 f0 Z0 HAL HZ G0 G1 G2 G3 IN i2 i4 heq
  go_loopg [7] k (fun gk x wr => ∃ (j : Nat) (vS : Value), gk + j = k ∧ x = .int .i64 ((j + 1 : Nat) : Int) ∧ Hid (RsAt n vS p q (.slice none 0 0) (valsI s 1 j) [] w wr))
  case atStart => exact ⟨0, _, by simp, rfl, S0.out⟩
  case round =>
    obtain ⟨j, vS, hj, rfl, hS⟩ := hrel
    clear S0
    by_cases hlt : j < k
    · have hjk : ((j : Nat) : Int) < (k : Int) := by omega
      have GJ : Hid (∀ W, Calls Tryd.prog 34 #[.string s, .int .i64 (8 * ((j : Int) + 1))] W fun e w' => e = .returned (.int .i64 (valI s (1 + j))) ∧ w' = W) := fun W => by
        have hz := HSZ.out
        rw [valI_in (by omega)]
        exact l14Get_at s (8 * (1 + j)) _ W hs (by omega) (by omega)
      go_upto_region 11 with fail
      have S := hideP hS.out.drew
      clear hS
      refine wp_region_held_drew (S := fun _ => True) (by kernel_rfl) trivial (fun hHeld => ?_)
      generalize wr.drew = wd at S ⊢
      refine wpAnyH_take (i := 0) (v := (.pointer (some ⟨n + 1, 0, none⟩))) rfl (by kernel_rfl) (by kernel_rfl) (by kernel_rfl) (fun _ _ _ h => h) (Or.inl ⟨by rfl, ?_⟩) hHeld ?_
      · (intro w hSw; (try dsimp only at hSw); go_simp)
      walk_nrm
      refine wpAnyH_take (i := 2) (v := (.string s)) rfl (by kernel_rfl) (by kernel_rfl) (by kernel_rfl) (fun _ _ _ h => h) (Or.inl ⟨by rfl, ?_⟩) hHeld ?_
      · (intro w hSw; (try dsimp only at hSw); go_simp)
      walk_nrm
      refine wpAnyH_take (i := 3) (v := (.int .i64 ((j : Int) + 1))) rfl (by kernel_rfl) (by kernel_rfl) (by kernel_rfl) (fun _ _ _ h => h) (Or.inl ⟨by rfl, ?_⟩) hHeld ?_
      · (intro w hSw; (try dsimp only at hSw); go_simp)
      walk_nrm
      refine wpAnyH_take (i := 4) (v := (.int .i64 (8 * ((j : Int) + 1)))) rfl (by kernel_rfl) (by kernel_rfl) (by kernel_rfl) (fun _ _ _ h => h) (Or.inl ⟨by rfl, ?_⟩) hHeld ?_
      · (intro w hSw; (try dsimp only at hSw); go_simp; try (simp [IntKind.wrap, IntKind.bits, IntKind.signed]; omega))
      walk_nrm
      refine wpAnyH_ready (rs := [1, 5]) (by kernel_rfl) (by simp) ?_
      refine AllReadyH.cons rfl (fun K hK => ?_) (AllReadyH.cons rfl (fun K hK => ?_) (AllReadyH.nil))
      · have lc := (cells_of S.out.im).1 0
        simp at lc
        go_simp
        refine hK.out _ _ trivial (fun hHeld => ?_)
        clear hK K
        clear lc
        refine wpAnyH_ready (rs := [5]) (by kernel_rfl) (by simp) ?_
        refine AllReadyH.cons rfl (fun K hK => ?_) (AllReadyH.nil)
        go_simp
        go_at_call 34
        refine (GJ.out _).mono ?_
        rintro ea wa ⟨rfl, hwa⟩
        have hwb := hwa.symm
        subst hwb
        go_wp2_with fail
        refine hK.out _ _ trivial (fun hHeld => ?_)
        clear hK K
        refine wpAnyH_ready (rs := [6]) (by kernel_rfl) (by simp) ?_
        refine AllReadyH.cons rfl (fun K hK => ?_) (AllReadyH.nil)
        have al := (Below.refl wd.heap.size wd).alloc (Nat.le_refl _) (.cells #[.int .i64 (valI s (1 + j))] 3)
        have NA := hideP (newR wd (.cells #[.int .i64 (valI s (1 + j))] 3))
        replace S := hideP (S.out.stays al)
        clear al
        go_simp
        refine hK.out _ _ trivial (fun hHeld => ?_)
        clear hK K
        refine wpAnyH_ready (rs := [7]) (by kernel_rfl) (by simp) ?_
        refine AllReadyH.cons rfl (fun K hK => ?_) (AllReadyH.nil)
        refine step_appN IntOk _ rfl _ _ rfl (n + 2) _ (valsI s 1 j) (valI s (1 + j)) wd.heap.size 0 1 rfl rfl S.out.o1 (one_int NA.out) (by rw [valsI_len]; omega) (Nat.le_trans (Nat.le_refl _) S.out.few) ?_
        intro v6 w6 o6 g6
        obtain ⟨u6, n6, c6, rfl⟩ := o6.shape
        obtain ⟨S6, lc6, fc6⟩ := S.out.app1 g6 o6
        have S7 := hideP S6
        clear S6 o6 g6 NA S
        go_wp2_with fail
        refine hK.out _ _ trivial (fun hHeld => ?_)
        clear hK K
        refine wpAnyH_take (i := 8) (v := (.pointer (some ⟨n + 1, 0, none⟩))) rfl (by kernel_rfl) (by kernel_rfl) (by kernel_rfl) (fun _ _ _ h => h) (Or.inl ⟨by rfl, ?_⟩) hHeld ?_
        · (intro w hSw; (try dsimp only at hSw); go_simp)
        walk_nrm
        refine wpAnyH_ready (rs := [9]) (by kernel_rfl) (by simp) ?_
        refine AllReadyH.cons rfl (fun K hK => ?_) (AllReadyH.nil)
        go_simp
        refine hK.out _ _ trivial (fun hHeld => ?_)
        clear hK K
        refine wpAnyH_done (by kernel_rfl) ?_ _
        clear hHeld lc6 fc6
        go_wp2
        go_roundg (k - (j + 1))
        case rel => exact ⟨j + 1, _, by omega, by go_num, S7.out⟩
        case measure => omega
      · go_simp
        go_at_call 34
        refine (GJ.out _).mono ?_
        rintro ea wa ⟨rfl, hwa⟩
        have hwb := hwa.symm
        subst hwb
        go_wp2_with fail
        refine hK.out _ _ trivial (fun hHeld => ?_)
        clear hK K
        refine wpAnyH_ready (rs := [1, 6]) (by kernel_rfl) (by simp) ?_
        refine AllReadyH.cons rfl (fun K hK => ?_) (AllReadyH.cons rfl (fun K hK => ?_) (AllReadyH.nil))
        · have lc := (cells_of S.out.im).1 0
          simp at lc
          go_simp
          refine hK.out _ _ trivial (fun hHeld => ?_)
          clear hK K
          clear lc
          refine wpAnyH_ready (rs := [6]) (by kernel_rfl) (by simp) ?_
          refine AllReadyH.cons rfl (fun K hK => ?_) (AllReadyH.nil)
          have al := (Below.refl wd.heap.size wd).alloc (Nat.le_refl _) (.cells #[.int .i64 (valI s (1 + j))] 3)
          have NA := hideP (newR wd (.cells #[.int .i64 (valI s (1 + j))] 3))
          replace S := hideP (S.out.stays al)
          clear al
          go_simp
          refine hK.out _ _ trivial (fun hHeld => ?_)
          clear hK K
          refine wpAnyH_ready (rs := [7]) (by kernel_rfl) (by simp) ?_
          refine AllReadyH.cons rfl (fun K hK => ?_) (AllReadyH.nil)
          refine step_appN IntOk _ rfl _ _ rfl (n + 2) _ (valsI s 1 j) (valI s (1 + j)) wd.heap.size 0 1 rfl rfl S.out.o1 (one_int NA.out) (by rw [valsI_len]; omega) (Nat.le_trans (Nat.le_refl _) S.out.few) ?_
          intro v6 w6 o6 g6
          obtain ⟨u6, n6, c6, rfl⟩ := o6.shape
          obtain ⟨S6, lc6, fc6⟩ := S.out.app1 g6 o6
          have S7 := hideP S6
          clear S6 o6 g6 NA S
          go_wp2_with fail
          refine hK.out _ _ trivial (fun hHeld => ?_)
          clear hK K
          refine wpAnyH_take (i := 8) (v := (.pointer (some ⟨n + 1, 0, none⟩))) rfl (by kernel_rfl) (by kernel_rfl) (by kernel_rfl) (fun _ _ _ h => h) (Or.inl ⟨by rfl, ?_⟩) hHeld ?_
          · (intro w hSw; (try dsimp only at hSw); go_simp)
          walk_nrm
          refine wpAnyH_ready (rs := [9]) (by kernel_rfl) (by simp) ?_
          refine AllReadyH.cons rfl (fun K hK => ?_) (AllReadyH.nil)
          go_simp
          refine hK.out _ _ trivial (fun hHeld => ?_)
          clear hK K
          refine wpAnyH_done (by kernel_rfl) ?_ _
          clear hHeld lc6 fc6
          go_wp2
          go_roundg (k - (j + 1))
          case rel => exact ⟨j + 1, _, by omega, by go_num, S7.out⟩
          case measure => omega
        · have al := (Below.refl wd.heap.size wd).alloc (Nat.le_refl _) (.cells #[.int .i64 (valI s (1 + j))] 3)
          have NA := hideP (newR wd (.cells #[.int .i64 (valI s (1 + j))] 3))
          replace S := hideP (S.out.stays al)
          clear al
          go_simp
          refine hK.out _ _ trivial (fun hHeld => ?_)
          clear hK K
          refine wpAnyH_ready (rs := [1]) (by kernel_rfl) (by simp) ?_
          refine AllReadyH.cons rfl (fun K hK => ?_) (AllReadyH.nil)
          have lc := (cells_of S.out.im).1 0
          simp at lc
          go_simp
          refine hK.out _ _ trivial (fun hHeld => ?_)
          clear hK K
          clear lc
          refine wpAnyH_ready (rs := [7]) (by kernel_rfl) (by simp) ?_
          refine AllReadyH.cons rfl (fun K hK => ?_) (AllReadyH.nil)
          refine step_appN IntOk _ rfl _ _ rfl (n + 2) _ (valsI s 1 j) (valI s (1 + j)) wd.heap.size 0 1 rfl rfl S.out.o1 (one_int NA.out) (by rw [valsI_len]; omega) (Nat.le_trans (Nat.le_refl _) S.out.few) ?_
          intro v6 w6 o6 g6
          obtain ⟨u6, n6, c6, rfl⟩ := o6.shape
          obtain ⟨S6, lc6, fc6⟩ := S.out.app1 g6 o6
          have S7 := hideP S6
          clear S6 o6 g6 NA S
          go_wp2_with fail
          refine hK.out _ _ trivial (fun hHeld => ?_)
          clear hK K
          refine wpAnyH_take (i := 8) (v := (.pointer (some ⟨n + 1, 0, none⟩))) rfl (by kernel_rfl) (by kernel_rfl) (by kernel_rfl) (fun _ _ _ h => h) (Or.inl ⟨by rfl, ?_⟩) hHeld ?_
          · (intro w hSw; (try dsimp only at hSw); go_simp)
          walk_nrm
          refine wpAnyH_ready (rs := [9]) (by kernel_rfl) (by simp) ?_
          refine AllReadyH.cons rfl (fun K hK => ?_) (AllReadyH.nil)
          go_simp
          refine hK.out _ _ trivial (fun hHeld => ?_)
          clear hK K
          refine wpAnyH_done (by kernel_rfl) ?_ _
          clear hHeld lc6 fc6
          go_wp2
          go_roundg (k - (j + 1))
          case rel => exact ⟨j + 1, _, by omega, by go_num, S7.out⟩
          case measure => omega
    · have hjn : k = j := by omega
      subst hjn
      have hnk : ¬ ((k : Nat) : Int) + 1 ≤ (k : Int) := by omega
      have S := hideP hS.out
      clear hS
      go_wp2
      go_loopg [8] c (fun gk x wr => ∃ (j I : Nat) (vC : Value), gk + j = c ∧ Hid (I = k + 4 + 5 * j) ∧ x = .int .i64 (I : Int) ∧ Hid (RsAt n vS p q vC (valsI s 1 k) (wrdsI s (4 + k) j) w wr))
      case atStart => exact ⟨0, k + 4, _, by omega, rfl, by push_cast; rfl, S.out⟩
      case round =>
        obtain ⟨j, I, vC, hj, hI, rfl, hS⟩ := hrel
        clear S
        by_cases hlt : j < c
        · have hlm : (I : Int) + 5 < (N : Int) := by have := hI.out; have := HN5.out; omega
          have hI4 : (I : Int) ≤ 40000 := by have := hI.out; omega
          have GA : Hid (∀ W, Calls Tryd.prog 34 #[.string s, .int .i64 (8 * (I : Int))] W fun e w' => e = .returned (.int .i64 (valI s (4 + k + 5 * j))) ∧ w' = W) := fun W => by
            have hz := HSZ.out
            have h1 := hI.out
            rw [valI_in (by omega)]
            exact l14Get_at s (8 * (4 + k + 5 * j)) _ W hs (by omega) (by omega)
          have GB : Hid (∀ W, Calls Tryd.prog 34 #[.string s, .int .i64 (8 * (I : Int) + 8)] W fun e w' => e = .returned (.int .i64 (valI s (4 + k + 5 * j + 1))) ∧ w' = W) := fun W => by
            have hz := HSZ.out
            have h1 := hI.out
            rw [valI_in (by omega)]
            exact l14Get_at s (8 * (4 + k + 5 * j + 1)) _ W hs (by omega) (by omega)
          have GC : Hid (∀ W, Calls Tryd.prog 34 #[.string s, .int .i64 (8 * (I : Int) + 16)] W fun e w' => e = .returned (.int .i64 (valI s (4 + k + 5 * j + 2))) ∧ w' = W) := fun W => by
            have hz := HSZ.out
            have h1 := hI.out
            rw [valI_in (by omega)]
            exact l14Get_at s (8 * (4 + k + 5 * j + 2)) _ W hs (by omega) (by omega)
          have GD : Hid (∀ W, Calls Tryd.prog 34 #[.string s, .int .i64 (8 * (I : Int) + 24)] W fun e w' => e = .returned (.int .i64 (valI s (4 + k + 5 * j + 3))) ∧ w' = W) := fun W => by
            have hz := HSZ.out
            have h1 := hI.out
            rw [valI_in (by omega)]
            exact l14Get_at s (8 * (4 + k + 5 * j + 3)) _ W hs (by omega) (by omega)
          have GE : Hid (∀ W, Calls Tryd.prog 34 #[.string s, .int .i64 (8 * (I : Int) + 32)] W fun e w' => e = .returned (.int .i64 (valI s (4 + k + 5 * j + 4))) ∧ w' = W) := fun W => by
            have hz := HSZ.out
            have h1 := hI.out
            rw [valI_in (by omega)]
            exact l14Get_at s (8 * (4 + k + 5 * j + 4)) _ W hs (by omega) (by omega)
          go_upto_region 15 with fail
          have S := hideP hS.out.drew
          clear hS
          refine wp_region_held_drew (S := fun _ => True) (by kernel_rfl) trivial (fun hHeld => ?_)
          generalize wr.drew = wd at S ⊢
          refine wpAnyH_take (i := 0) (v := (.pointer (some ⟨n + 1, 3, none⟩))) rfl (by kernel_rfl) (by kernel_rfl) (by kernel_rfl) (fun _ _ _ h => h) (Or.inl ⟨by rfl, ?_⟩) hHeld ?_
          · (intro w hSw; (try dsimp only at hSw); go_simp)
          walk_nrm
          refine wpAnyH_take (i := 2) (v := (.string s)) rfl (by kernel_rfl) (by kernel_rfl) (by kernel_rfl) (fun _ _ _ h => h) (Or.inl ⟨by rfl, ?_⟩) hHeld ?_
          · (intro w hSw; (try dsimp only at hSw); go_simp)
          walk_nrm
          refine wpAnyH_take (i := 3) (v := (.int .i64 (I : Int))) rfl (by kernel_rfl) (by kernel_rfl) (by kernel_rfl) (fun _ _ _ h => h) (Or.inl ⟨by rfl, ?_⟩) hHeld ?_
          · (intro w hSw; (try dsimp only at hSw); go_simp)
          walk_nrm
          refine wpAnyH_take (i := 4) (v := (.int .i64 (8 * (I : Int)))) rfl (by kernel_rfl) (by kernel_rfl) (by kernel_rfl) (fun _ _ _ h => h) (Or.inl ⟨by rfl, ?_⟩) hHeld ?_
          · (intro w hSw; (try dsimp only at hSw); go_simp; try (simp [IntKind.wrap, IntKind.bits, IntKind.signed]; omega))
          walk_nrm
          refine wpAnyH_take (i := 6) (v := (.string s)) rfl (by kernel_rfl) (by kernel_rfl) (by kernel_rfl) (fun _ _ _ h => h) (Or.inl ⟨by rfl, ?_⟩) hHeld ?_
          · (intro w hSw; (try dsimp only at hSw); go_simp)
          walk_nrm
          refine wpAnyH_take (i := 7) (v := (.int .i64 (I : Int))) rfl (by kernel_rfl) (by kernel_rfl) (by kernel_rfl) (fun _ _ _ h => h) (Or.inl ⟨by rfl, ?_⟩) hHeld ?_
          · (intro w hSw; (try dsimp only at hSw); go_simp)
          walk_nrm
          refine wpAnyH_take (i := 8) (v := (.int .i64 (8 * (I : Int)))) rfl (by kernel_rfl) (by kernel_rfl) (by kernel_rfl) (fun _ _ _ h => h) (Or.inl ⟨by rfl, ?_⟩) hHeld ?_
          · (intro w hSw; (try dsimp only at hSw); go_simp; try (simp [IntKind.wrap, IntKind.bits, IntKind.signed]; omega))
          walk_nrm
          refine wpAnyH_take (i := 9) (v := (.int .i64 (8 * (I : Int) + 8))) rfl (by kernel_rfl) (by kernel_rfl) (by kernel_rfl) (fun _ _ _ h => h) (Or.inl ⟨by rfl, ?_⟩) hHeld ?_
          · (intro w hSw; (try dsimp only at hSw); go_simp; try (simp [IntKind.wrap, IntKind.bits, IntKind.signed]; omega))
          walk_nrm
          refine wpAnyH_take (i := 11) (v := (.string s)) rfl (by kernel_rfl) (by kernel_rfl) (by kernel_rfl) (fun _ _ _ h => h) (Or.inl ⟨by rfl, ?_⟩) hHeld ?_
          · (intro w hSw; (try dsimp only at hSw); go_simp)
          walk_nrm
          refine wpAnyH_take (i := 12) (v := (.int .i64 (I : Int))) rfl (by kernel_rfl) (by kernel_rfl) (by kernel_rfl) (fun _ _ _ h => h) (Or.inl ⟨by rfl, ?_⟩) hHeld ?_
          · (intro w hSw; (try dsimp only at hSw); go_simp)
          walk_nrm
          refine wpAnyH_take (i := 13) (v := (.int .i64 (8 * (I : Int)))) rfl (by kernel_rfl) (by kernel_rfl) (by kernel_rfl) (fun _ _ _ h => h) (Or.inl ⟨by rfl, ?_⟩) hHeld ?_
          · (intro w hSw; (try dsimp only at hSw); go_simp; try (simp [IntKind.wrap, IntKind.bits, IntKind.signed]; omega))
          walk_nrm
          refine wpAnyH_take (i := 14) (v := (.int .i64 (8 * (I : Int) + 16))) rfl (by kernel_rfl) (by kernel_rfl) (by kernel_rfl) (fun _ _ _ h => h) (Or.inl ⟨by rfl, ?_⟩) hHeld ?_
          · (intro w hSw; (try dsimp only at hSw); go_simp; try (simp [IntKind.wrap, IntKind.bits, IntKind.signed]; omega))
          walk_nrm
          refine wpAnyH_take (i := 16) (v := (.string s)) rfl (by kernel_rfl) (by kernel_rfl) (by kernel_rfl) (fun _ _ _ h => h) (Or.inl ⟨by rfl, ?_⟩) hHeld ?_
          · (intro w hSw; (try dsimp only at hSw); go_simp)
          walk_nrm
          refine wpAnyH_take (i := 17) (v := (.int .i64 (I : Int))) rfl (by kernel_rfl) (by kernel_rfl) (by kernel_rfl) (fun _ _ _ h => h) (Or.inl ⟨by rfl, ?_⟩) hHeld ?_
          · (intro w hSw; (try dsimp only at hSw); go_simp)
          walk_nrm
          refine wpAnyH_take (i := 18) (v := (.int .i64 (8 * (I : Int)))) rfl (by kernel_rfl) (by kernel_rfl) (by kernel_rfl) (fun _ _ _ h => h) (Or.inl ⟨by rfl, ?_⟩) hHeld ?_
          · (intro w hSw; (try dsimp only at hSw); go_simp; try (simp [IntKind.wrap, IntKind.bits, IntKind.signed]; omega))
          walk_nrm
          refine wpAnyH_take (i := 19) (v := (.int .i64 (8 * (I : Int) + 24))) rfl (by kernel_rfl) (by kernel_rfl) (by kernel_rfl) (fun _ _ _ h => h) (Or.inl ⟨by rfl, ?_⟩) hHeld ?_
          · (intro w hSw; (try dsimp only at hSw); go_simp; try (simp [IntKind.wrap, IntKind.bits, IntKind.signed]; omega))
          walk_nrm
          refine wpAnyH_take (i := 21) (v := (.string s)) rfl (by kernel_rfl) (by kernel_rfl) (by kernel_rfl) (fun _ _ _ h => h) (Or.inl ⟨by rfl, ?_⟩) hHeld ?_
          · (intro w hSw; (try dsimp only at hSw); go_simp)
          walk_nrm
          refine wpAnyH_take (i := 22) (v := (.int .i64 (I : Int))) rfl (by kernel_rfl) (by kernel_rfl) (by kernel_rfl) (fun _ _ _ h => h) (Or.inl ⟨by rfl, ?_⟩) hHeld ?_
          · (intro w hSw; (try dsimp only at hSw); go_simp)
          walk_nrm
          refine wpAnyH_take (i := 23) (v := (.int .i64 (8 * (I : Int)))) rfl (by kernel_rfl) (by kernel_rfl) (by kernel_rfl) (fun _ _ _ h => h) (Or.inl ⟨by rfl, ?_⟩) hHeld ?_
          · (intro w hSw; (try dsimp only at hSw); go_simp; try (simp [IntKind.wrap, IntKind.bits, IntKind.signed]; omega))
          walk_nrm
          refine wpAnyH_take (i := 24) (v := (.int .i64 (8 * (I : Int) + 32))) rfl (by kernel_rfl) (by kernel_rfl) (by kernel_rfl) (fun _ _ _ h => h) (Or.inl ⟨by rfl, ?_⟩) hHeld ?_
          · (intro w hSw; (try dsimp only at hSw); go_simp; try (simp [IntKind.wrap, IntKind.bits, IntKind.signed]; omega))
          walk_nrm
          refine wpAnyH_ready (rs := [1, 5]) (by kernel_rfl) (by simp) ?_
          refine AllReadyH.cons rfl (fun K hK => ?_) (AllReadyH.cons rfl (fun K hK => ?_) (AllReadyH.nil))
          · have lc := (cells_of S.out.im).1 3
            simp at lc
            go_simp
            refine hK.out _ _ trivial (fun hHeld => ?_)
            clear hK K
            clear lc
            refine wpAnyH_ready (rs := [5]) (by kernel_rfl) (by simp) ?_
            refine AllReadyH.cons rfl (fun K hK => ?_) (AllReadyH.nil)
            go_simp
            go_at_call 34
            refine (GA.out _).mono ?_
            rintro ea wa ⟨rfl, hwa⟩
            have hwb := hwa.symm
            subst hwb
            go_wp2_with fail
            refine hK.out _ _ trivial (fun hHeld => ?_)
            clear hK K
            refine wpAnyH_ready (rs := [10]) (by kernel_rfl) (by simp) ?_
            refine AllReadyH.cons rfl (fun K hK => ?_) (AllReadyH.nil)
            go_simp
            go_at_call 34
            refine (GB.out _).mono ?_
            rintro ea wa ⟨rfl, hwa⟩
            have hwb := hwa.symm
            subst hwb
            go_wp2_with fail
            refine hK.out _ _ trivial (fun hHeld => ?_)
            clear hK K
            refine wpAnyH_ready (rs := [15]) (by kernel_rfl) (by simp) ?_
            refine AllReadyH.cons rfl (fun K hK => ?_) (AllReadyH.nil)
            go_simp
            go_at_call 34
            refine (GC.out _).mono ?_
            rintro ea wa ⟨rfl, hwa⟩
            have hwb := hwa.symm
            subst hwb
            go_wp2_with fail
            refine hK.out _ _ trivial (fun hHeld => ?_)
            clear hK K
            refine wpAnyH_ready (rs := [20]) (by kernel_rfl) (by simp) ?_
            refine AllReadyH.cons rfl (fun K hK => ?_) (AllReadyH.nil)
            go_simp
            go_at_call 34
            refine (GD.out _).mono ?_
            rintro ea wa ⟨rfl, hwa⟩
            have hwb := hwa.symm
            subst hwb
            go_wp2_with fail
            refine hK.out _ _ trivial (fun hHeld => ?_)
            clear hK K
            refine wpAnyH_ready (rs := [25]) (by kernel_rfl) (by simp) ?_
            refine AllReadyH.cons rfl (fun K hK => ?_) (AllReadyH.nil)
            go_simp
            go_at_call 34
            refine (GE.out _).mono ?_
            rintro ea wa ⟨rfl, hwa⟩
            have hwb := hwa.symm
            subst hwb
            go_wp2_with fail
            refine hK.out _ _ trivial (fun hHeld => ?_)
            clear hK K
            refine wpAnyH_take (i := 26) (v := (.agg #[.int .i64 (valI s (4 + k + 5 * j)), .int .i64 (valI s (4 + k + 5 * j + 1)), .int .i64 (valI s (4 + k + 5 * j + 2)), .int .i64 (valI s (4 + k + 5 * j + 3)), .int .i64 (valI s (4 + k + 5 * j + 4))])) rfl (by kernel_rfl) (by kernel_rfl) (by kernel_rfl) (fun _ _ _ h => h) (Or.inl ⟨by rfl, ?_⟩) hHeld ?_
            · (intro w hSw; (try dsimp only at hSw); go_simp; try (simp [IntKind.wrap, IntKind.bits, IntKind.signed]; omega))
            walk_nrm
            refine wpAnyH_ready (rs := [27]) (by kernel_rfl) (by simp) ?_
            refine AllReadyH.cons rfl (fun K hK => ?_) (AllReadyH.nil)
            have al := (Below.refl wd.heap.size wd).alloc (Nat.le_refl _) (.cells #[.int .i64 (valI s (4 + k + 5 * j)), .int .i64 (valI s (4 + k + 5 * j + 1)), .int .i64 (valI s (4 + k + 5 * j + 2)), .int .i64 (valI s (4 + k + 5 * j + 3)), .int .i64 (valI s (4 + k + 5 * j + 4))] 69)
            have NA := hideP (newR wd (.cells #[.int .i64 (valI s (4 + k + 5 * j)), .int .i64 (valI s (4 + k + 5 * j + 1)), .int .i64 (valI s (4 + k + 5 * j + 2)), .int .i64 (valI s (4 + k + 5 * j + 3)), .int .i64 (valI s (4 + k + 5 * j + 4))] 69))
            replace S := hideP (S.out.stays al)
            clear al
            go_simp
            refine hK.out _ _ trivial (fun hHeld => ?_)
            clear hK K
            refine wpAnyH_ready (rs := [28]) (by kernel_rfl) (by simp) ?_
            refine AllReadyH.cons rfl (fun K hK => ?_) (AllReadyH.nil)
            refine step_appN WrOk _ rfl _ _ rfl (n + 2) _ (wrdsI s (4 + k) j) (wrdI s (4 + k + 5 * j)) wd.heap.size 0 1 rfl rfl S.out.o2 (one_wrd NA.out) (by rw [wrdsI_len]; omega) (Nat.le_trans (Nat.le_refl _) S.out.few) ?_
            intro v6 w6 o6 g6
            obtain ⟨u6, n6, c6, rfl⟩ := o6.shape
            obtain ⟨S6, lc6, fc6⟩ := S.out.app2 g6 o6
            have S7 := hideP S6
            clear S6 o6 g6 NA S
            go_wp2_with fail
            refine hK.out _ _ trivial (fun hHeld => ?_)
            clear hK K
            refine wpAnyH_take (i := 29) (v := (.pointer (some ⟨n + 1, 3, none⟩))) rfl (by kernel_rfl) (by kernel_rfl) (by kernel_rfl) (fun _ _ _ h => h) (Or.inl ⟨by rfl, ?_⟩) hHeld ?_
            · (intro w hSw; (try dsimp only at hSw); go_simp)
            walk_nrm
            refine wpAnyH_ready (rs := [30]) (by kernel_rfl) (by simp) ?_
            refine AllReadyH.cons rfl (fun K hK => ?_) (AllReadyH.nil)
            go_simp
            refine hK.out _ _ trivial (fun hHeld => ?_)
            clear hK K
            refine wpAnyH_done (by kernel_rfl) ?_ _
            clear hHeld lc6 fc6
            go_wp2
            go_roundg (c - (j + 1))
            case rel => exact ⟨j + 1, I + 5, _, by omega, by show _ = _; rw [hI.out]; omega, by push_cast; rfl, S7.out⟩
            case measure => omega
          · go_simp
            go_at_call 34
            refine (GA.out _).mono ?_
            rintro ea wa ⟨rfl, hwa⟩
            have hwb := hwa.symm
            subst hwb
            go_wp2_with fail
            refine hK.out _ _ trivial (fun hHeld => ?_)
            clear hK K
            refine wpAnyH_ready (rs := [1, 10]) (by kernel_rfl) (by simp) ?_
            refine AllReadyH.cons rfl (fun K hK => ?_) (AllReadyH.cons rfl (fun K hK => ?_) (AllReadyH.nil))
            · have lc := (cells_of S.out.im).1 3
              simp at lc
              go_simp
              refine hK.out _ _ trivial (fun hHeld => ?_)
              clear hK K
              clear lc
              refine wpAnyH_ready (rs := [10]) (by kernel_rfl) (by simp) ?_
              refine AllReadyH.cons rfl (fun K hK => ?_) (AllReadyH.nil)
              go_simp
              go_at_call 34
              refine (GB.out _).mono ?_
              rintro ea wa ⟨rfl, hwa⟩
              have hwb := hwa.symm
              subst hwb
              go_wp2_with fail
              refine hK.out _ _ trivial (fun hHeld => ?_)
              clear hK K
              refine wpAnyH_ready (rs := [15]) (by kernel_rfl) (by simp) ?_
              refine AllReadyH.cons rfl (fun K hK => ?_) (AllReadyH.nil)
              go_simp
              go_at_call 34
              refine (GC.out _).mono ?_
              rintro ea wa ⟨rfl, hwa⟩
              have hwb := hwa.symm
              subst hwb
              go_wp2_with fail
              refine hK.out _ _ trivial (fun hHeld => ?_)
              clear hK K
              refine wpAnyH_ready (rs := [20]) (by kernel_rfl) (by simp) ?_
              refine AllReadyH.cons rfl (fun K hK => ?_) (AllReadyH.nil)
              go_simp
              go_at_call 34
              refine (GD.out _).mono ?_
              rintro ea wa ⟨rfl, hwa⟩
              have hwb := hwa.symm
              subst hwb
              go_wp2_with fail
              refine hK.out _ _ trivial (fun hHeld => ?_)
              clear hK K
              refine wpAnyH_ready (rs := [25]) (by kernel_rfl) (by simp) ?_
              refine AllReadyH.cons rfl (fun K hK => ?_) (AllReadyH.nil)
              go_simp
              go_at_call 34
              refine (GE.out _).mono ?_
              rintro ea wa ⟨rfl, hwa⟩
              have hwb := hwa.symm
              subst hwb
              go_wp2_with fail
              refine hK.out _ _ trivial (fun hHeld => ?_)
              clear hK K
              refine wpAnyH_take (i := 26) (v := (.agg #[.int .i64 (valI s (4 + k + 5 * j)), .int .i64 (valI s (4 + k + 5 * j + 1)), .int .i64 (valI s (4 + k + 5 * j + 2)), .int .i64 (valI s (4 + k + 5 * j + 3)), .int .i64 (valI s (4 + k + 5 * j + 4))])) rfl (by kernel_rfl) (by kernel_rfl) (by kernel_rfl) (fun _ _ _ h => h) (Or.inl ⟨by rfl, ?_⟩) hHeld ?_
              · (intro w hSw; (try dsimp only at hSw); go_simp; try (simp [IntKind.wrap, IntKind.bits, IntKind.signed]; omega))
              walk_nrm
              refine wpAnyH_ready (rs := [27]) (by kernel_rfl) (by simp) ?_
              refine AllReadyH.cons rfl (fun K hK => ?_) (AllReadyH.nil)
              have al := (Below.refl wd.heap.size wd).alloc (Nat.le_refl _) (.cells #[.int .i64 (valI s (4 + k + 5 * j)), .int .i64 (valI s (4 + k + 5 * j + 1)), .int .i64 (valI s (4 + k + 5 * j + 2)), .int .i64 (valI s (4 + k + 5 * j + 3)), .int .i64 (valI s (4 + k + 5 * j + 4))] 69)
              have NA := hideP (newR wd (.cells #[.int .i64 (valI s (4 + k + 5 * j)), .int .i64 (valI s (4 + k + 5 * j + 1)), .int .i64 (valI s (4 + k + 5 * j + 2)), .int .i64 (valI s (4 + k + 5 * j + 3)), .int .i64 (valI s (4 + k + 5 * j + 4))] 69))
              replace S := hideP (S.out.stays al)
              clear al
              go_simp
              refine hK.out _ _ trivial (fun hHeld => ?_)
              clear hK K
              refine wpAnyH_ready (rs := [28]) (by kernel_rfl) (by simp) ?_
              refine AllReadyH.cons rfl (fun K hK => ?_) (AllReadyH.nil)
              refine step_appN WrOk _ rfl _ _ rfl (n + 2) _ (wrdsI s (4 + k) j) (wrdI s (4 + k + 5 * j)) wd.heap.size 0 1 rfl rfl S.out.o2 (one_wrd NA.out) (by rw [wrdsI_len]; omega) (Nat.le_trans (Nat.le_refl _) S.out.few) ?_
              intro v6 w6 o6 g6
              obtain ⟨u6, n6, c6, rfl⟩ := o6.shape
              obtain ⟨S6, lc6, fc6⟩ := S.out.app2 g6 o6
              have S7 := hideP S6
              clear S6 o6 g6 NA S
              go_wp2_with fail
              refine hK.out _ _ trivial (fun hHeld => ?_)
              clear hK K
              refine wpAnyH_take (i := 29) (v := (.pointer (some ⟨n + 1, 3, none⟩))) rfl (by kernel_rfl) (by kernel_rfl) (by kernel_rfl) (fun _ _ _ h => h) (Or.inl ⟨by rfl, ?_⟩) hHeld ?_
              · (intro w hSw; (try dsimp only at hSw); go_simp)
              walk_nrm
              refine wpAnyH_ready (rs := [30]) (by kernel_rfl) (by simp) ?_
              refine AllReadyH.cons rfl (fun K hK => ?_) (AllReadyH.nil)
              go_simp
              refine hK.out _ _ trivial (fun hHeld => ?_)
              clear hK K
              refine wpAnyH_done (by kernel_rfl) ?_ _
              clear hHeld lc6 fc6
              go_wp2
              go_roundg (c - (j + 1))
              case rel => exact ⟨j + 1, I + 5, _, by omega, by show _ = _; rw [hI.out]; omega, by push_cast; rfl, S7.out⟩
              case measure => omega
            · go_simp
              go_at_call 34
              refine (GB.out _).mono ?_
              rintro ea wa ⟨rfl, hwa⟩
              have hwb := hwa.symm
              subst hwb
              go_wp2_with fail
              refine hK.out _ _ trivial (fun hHeld => ?_)
              clear hK K
              refine wpAnyH_ready (rs := [1, 15]) (by kernel_rfl) (by simp) ?_
              refine AllReadyH.cons rfl (fun K hK => ?_) (AllReadyH.cons rfl (fun K hK => ?_) (AllReadyH.nil))
              · have lc := (cells_of S.out.im).1 3
                simp at lc
                go_simp
                refine hK.out _ _ trivial (fun hHeld => ?_)
                clear hK K
                clear lc
                refine wpAnyH_ready (rs := [15]) (by kernel_rfl) (by simp) ?_
                refine AllReadyH.cons rfl (fun K hK => ?_) (AllReadyH.nil)
                go_simp
                go_at_call 34
                refine (GC.out _).mono ?_
                rintro ea wa ⟨rfl, hwa⟩
                have hwb := hwa.symm
                subst hwb
                go_wp2_with fail
                refine hK.out _ _ trivial (fun hHeld => ?_)
                clear hK K
                refine wpAnyH_ready (rs := [20]) (by kernel_rfl) (by simp) ?_
                refine AllReadyH.cons rfl (fun K hK => ?_) (AllReadyH.nil)
                go_simp
                go_at_call 34
                refine (GD.out _).mono ?_
                rintro ea wa ⟨rfl, hwa⟩
                have hwb := hwa.symm
                subst hwb
                go_wp2_with fail
                refine hK.out _ _ trivial (fun hHeld => ?_)
                clear hK K
                refine wpAnyH_ready (rs := [25]) (by kernel_rfl) (by simp) ?_
                refine AllReadyH.cons rfl (fun K hK => ?_) (AllReadyH.nil)
                go_simp
                go_at_call 34
                refine (GE.out _).mono ?_
                rintro ea wa ⟨rfl, hwa⟩
                have hwb := hwa.symm
                subst hwb
                go_wp2_with fail
                refine hK.out _ _ trivial (fun hHeld => ?_)
                clear hK K
                refine wpAnyH_take (i := 26) (v := (.agg #[.int .i64 (valI s (4 + k + 5 * j)), .int .i64 (valI s (4 + k + 5 * j + 1)), .int .i64 (valI s (4 + k + 5 * j + 2)), .int .i64 (valI s (4 + k + 5 * j + 3)), .int .i64 (valI s (4 + k + 5 * j + 4))])) rfl (by kernel_rfl) (by kernel_rfl) (by kernel_rfl) (fun _ _ _ h => h) (Or.inl ⟨by rfl, ?_⟩) hHeld ?_
                · (intro w hSw; (try dsimp only at hSw); go_simp; try (simp [IntKind.wrap, IntKind.bits, IntKind.signed]; omega))
                walk_nrm
                refine wpAnyH_ready (rs := [27]) (by kernel_rfl) (by simp) ?_
                refine AllReadyH.cons rfl (fun K hK => ?_) (AllReadyH.nil)
                have al := (Below.refl wd.heap.size wd).alloc (Nat.le_refl _) (.cells #[.int .i64 (valI s (4 + k + 5 * j)), .int .i64 (valI s (4 + k + 5 * j + 1)), .int .i64 (valI s (4 + k + 5 * j + 2)), .int .i64 (valI s (4 + k + 5 * j + 3)), .int .i64 (valI s (4 + k + 5 * j + 4))] 69)
                have NA := hideP (newR wd (.cells #[.int .i64 (valI s (4 + k + 5 * j)), .int .i64 (valI s (4 + k + 5 * j + 1)), .int .i64 (valI s (4 + k + 5 * j + 2)), .int .i64 (valI s (4 + k + 5 * j + 3)), .int .i64 (valI s (4 + k + 5 * j + 4))] 69))
                replace S := hideP (S.out.stays al)
                clear al
                go_simp
                refine hK.out _ _ trivial (fun hHeld => ?_)
                clear hK K
                refine wpAnyH_ready (rs := [28]) (by kernel_rfl) (by simp) ?_
                refine AllReadyH.cons rfl (fun K hK => ?_) (AllReadyH.nil)
                refine step_appN WrOk _ rfl _ _ rfl (n + 2) _ (wrdsI s (4 + k) j) (wrdI s (4 + k + 5 * j)) wd.heap.size 0 1 rfl rfl S.out.o2 (one_wrd NA.out) (by rw [wrdsI_len]; omega) (Nat.le_trans (Nat.le_refl _) S.out.few) ?_
                intro v6 w6 o6 g6
                obtain ⟨u6, n6, c6, rfl⟩ := o6.shape
                obtain ⟨S6, lc6, fc6⟩ := S.out.app2 g6 o6
                have S7 := hideP S6
                clear S6 o6 g6 NA S
                go_wp2_with fail
                refine hK.out _ _ trivial (fun hHeld => ?_)
                clear hK K
                refine wpAnyH_take (i := 29) (v := (.pointer (some ⟨n + 1, 3, none⟩))) rfl (by kernel_rfl) (by kernel_rfl) (by kernel_rfl) (fun _ _ _ h => h) (Or.inl ⟨by rfl, ?_⟩) hHeld ?_
                · (intro w hSw; (try dsimp only at hSw); go_simp)
                walk_nrm
                refine wpAnyH_ready (rs := [30]) (by kernel_rfl) (by simp) ?_
                refine AllReadyH.cons rfl (fun K hK => ?_) (AllReadyH.nil)
                go_simp
                refine hK.out _ _ trivial (fun hHeld => ?_)
                clear hK K
                refine wpAnyH_done (by kernel_rfl) ?_ _
                clear hHeld lc6 fc6
                go_wp2
                go_roundg (c - (j + 1))
                case rel => exact ⟨j + 1, I + 5, _, by omega, by show _ = _; rw [hI.out]; omega, by push_cast; rfl, S7.out⟩
                case measure => omega
              · go_simp
                go_at_call 34
                refine (GC.out _).mono ?_
                rintro ea wa ⟨rfl, hwa⟩
                have hwb := hwa.symm
                subst hwb
                go_wp2_with fail
                refine hK.out _ _ trivial (fun hHeld => ?_)
                clear hK K
                refine wpAnyH_ready (rs := [1, 20]) (by kernel_rfl) (by simp) ?_
                refine AllReadyH.cons rfl (fun K hK => ?_) (AllReadyH.cons rfl (fun K hK => ?_) (AllReadyH.nil))
                · have lc := (cells_of S.out.im).1 3
                  simp at lc
                  go_simp
                  refine hK.out _ _ trivial (fun hHeld => ?_)
                  clear hK K
                  clear lc
                  refine wpAnyH_ready (rs := [20]) (by kernel_rfl) (by simp) ?_
                  refine AllReadyH.cons rfl (fun K hK => ?_) (AllReadyH.nil)
                  go_simp
                  go_at_call 34
                  refine (GD.out _).mono ?_
                  rintro ea wa ⟨rfl, hwa⟩
                  have hwb := hwa.symm
                  subst hwb
                  go_wp2_with fail
                  refine hK.out _ _ trivial (fun hHeld => ?_)
                  clear hK K
                  refine wpAnyH_ready (rs := [25]) (by kernel_rfl) (by simp) ?_
                  refine AllReadyH.cons rfl (fun K hK => ?_) (AllReadyH.nil)
                  go_simp
                  go_at_call 34
                  refine (GE.out _).mono ?_
                  rintro ea wa ⟨rfl, hwa⟩
                  have hwb := hwa.symm
                  subst hwb
                  go_wp2_with fail
                  refine hK.out _ _ trivial (fun hHeld => ?_)
                  clear hK K
                  refine wpAnyH_take (i := 26) (v := (.agg #[.int .i64 (valI s (4 + k + 5 * j)), .int .i64 (valI s (4 + k + 5 * j + 1)), .int .i64 (valI s (4 + k + 5 * j + 2)), .int .i64 (valI s (4 + k + 5 * j + 3)), .int .i64 (valI s (4 + k + 5 * j + 4))])) rfl (by kernel_rfl) (by kernel_rfl) (by kernel_rfl) (fun _ _ _ h => h) (Or.inl ⟨by rfl, ?_⟩) hHeld ?_
                  · (intro w hSw; (try dsimp only at hSw); go_simp; try (simp [IntKind.wrap, IntKind.bits, IntKind.signed]; omega))
                  walk_nrm
                  refine wpAnyH_ready (rs := [27]) (by kernel_rfl) (by simp) ?_
                  refine AllReadyH.cons rfl (fun K hK => ?_) (AllReadyH.nil)
                  have al := (Below.refl wd.heap.size wd).alloc (Nat.le_refl _) (.cells #[.int .i64 (valI s (4 + k + 5 * j)), .int .i64 (valI s (4 + k + 5 * j + 1)), .int .i64 (valI s (4 + k + 5 * j + 2)), .int .i64 (valI s (4 + k + 5 * j + 3)), .int .i64 (valI s (4 + k + 5 * j + 4))] 69)
                  have NA := hideP (newR wd (.cells #[.int .i64 (valI s (4 + k + 5 * j)), .int .i64 (valI s (4 + k + 5 * j + 1)), .int .i64 (valI s (4 + k + 5 * j + 2)), .int .i64 (valI s (4 + k + 5 * j + 3)), .int .i64 (valI s (4 + k + 5 * j + 4))] 69))
                  replace S := hideP (S.out.stays al)
                  clear al
                  go_simp
                  refine hK.out _ _ trivial (fun hHeld => ?_)
                  clear hK K
                  refine wpAnyH_ready (rs := [28]) (by kernel_rfl) (by simp) ?_
                  refine AllReadyH.cons rfl (fun K hK => ?_) (AllReadyH.nil)
                  refine step_appN WrOk _ rfl _ _ rfl (n + 2) _ (wrdsI s (4 + k) j) (wrdI s (4 + k + 5 * j)) wd.heap.size 0 1 rfl rfl S.out.o2 (one_wrd NA.out) (by rw [wrdsI_len]; omega) (Nat.le_trans (Nat.le_refl _) S.out.few) ?_
                  intro v6 w6 o6 g6
                  obtain ⟨u6, n6, c6, rfl⟩ := o6.shape
                  obtain ⟨S6, lc6, fc6⟩ := S.out.app2 g6 o6
                  have S7 := hideP S6
                  clear S6 o6 g6 NA S
                  go_wp2_with fail
                  refine hK.out _ _ trivial (fun hHeld => ?_)
                  clear hK K
                  refine wpAnyH_take (i := 29) (v := (.pointer (some ⟨n + 1, 3, none⟩))) rfl (by kernel_rfl) (by kernel_rfl) (by kernel_rfl) (fun _ _ _ h => h) (Or.inl ⟨by rfl, ?_⟩) hHeld ?_
                  · (intro w hSw; (try dsimp only at hSw); go_simp)
                  walk_nrm
                  refine wpAnyH_ready (rs := [30]) (by kernel_rfl) (by simp) ?_
                  refine AllReadyH.cons rfl (fun K hK => ?_) (AllReadyH.nil)
                  go_simp
                  refine hK.out _ _ trivial (fun hHeld => ?_)
                  clear hK K
                  refine wpAnyH_done (by kernel_rfl) ?_ _
                  clear hHeld lc6 fc6
                  go_wp2
                  go_roundg (c - (j + 1))
                  case rel => exact ⟨j + 1, I + 5, _, by omega, by show _ = _; rw [hI.out]; omega, by push_cast; rfl, S7.out⟩
                  case measure => omega
                · go_simp
                  go_at_call 34
                  refine (GD.out _).mono ?_
                  rintro ea wa ⟨rfl, hwa⟩
                  have hwb := hwa.symm
                  subst hwb
                  go_wp2_with fail
                  refine hK.out _ _ trivial (fun hHeld => ?_)
                  clear hK K
                  refine wpAnyH_ready (rs := [1, 25]) (by kernel_rfl) (by simp) ?_
                  refine AllReadyH.cons rfl (fun K hK => ?_) (AllReadyH.cons rfl (fun K hK => ?_) (AllReadyH.nil))
                  · have lc := (cells_of S.out.im).1 3
                    simp at lc
                    go_simp
                    refine hK.out _ _ trivial (fun hHeld => ?_)
                    clear hK K
                    clear lc
                    refine wpAnyH_ready (rs := [25]) (by kernel_rfl) (by simp) ?_
                    refine AllReadyH.cons rfl (fun K hK => ?_) (AllReadyH.nil)
                    go_simp
                    go_at_call 34
                    refine (GE.out _).mono ?_
                    rintro ea wa ⟨rfl, hwa⟩
                    have hwb := hwa.symm
                    subst hwb
                    go_wp2_with fail
                    refine hK.out _ _ trivial (fun hHeld => ?_)
                    clear hK K
                    refine wpAnyH_take (i := 26) (v := (.agg #[.int .i64 (valI s (4 + k + 5 * j)), .int .i64 (valI s (4 + k + 5 * j + 1)), .int .i64 (valI s (4 + k + 5 * j + 2)), .int .i64 (valI s (4 + k + 5 * j + 3)), .int .i64 (valI s (4 + k + 5 * j + 4))])) rfl (by kernel_rfl) (by kernel_rfl) (by kernel_rfl) (fun _ _ _ h => h) (Or.inl ⟨by rfl, ?_⟩) hHeld ?_
                    · (intro w hSw; (try dsimp only at hSw); go_simp; try (simp [IntKind.wrap, IntKind.bits, IntKind.signed]; omega))
                    walk_nrm
                    refine wpAnyH_ready (rs := [27]) (by kernel_rfl) (by simp) ?_
                    refine AllReadyH.cons rfl (fun K hK => ?_) (AllReadyH.nil)
                    have al := (Below.refl wd.heap.size wd).alloc (Nat.le_refl _) (.cells #[.int .i64 (valI s (4 + k + 5 * j)), .int .i64 (valI s (4 + k + 5 * j + 1)), .int .i64 (valI s (4 + k + 5 * j + 2)), .int .i64 (valI s (4 + k + 5 * j + 3)), .int .i64 (valI s (4 + k + 5 * j + 4))] 69)
                    have NA := hideP (newR wd (.cells #[.int .i64 (valI s (4 + k + 5 * j)), .int .i64 (valI s (4 + k + 5 * j + 1)), .int .i64 (valI s (4 + k + 5 * j + 2)), .int .i64 (valI s (4 + k + 5 * j + 3)), .int .i64 (valI s (4 + k + 5 * j + 4))] 69))
                    replace S := hideP (S.out.stays al)
                    clear al
                    go_simp
                    refine hK.out _ _ trivial (fun hHeld => ?_)
                    clear hK K
                    refine wpAnyH_ready (rs := [28]) (by kernel_rfl) (by simp) ?_
                    refine AllReadyH.cons rfl (fun K hK => ?_) (AllReadyH.nil)
                    refine step_appN WrOk _ rfl _ _ rfl (n + 2) _ (wrdsI s (4 + k) j) (wrdI s (4 + k + 5 * j)) wd.heap.size 0 1 rfl rfl S.out.o2 (one_wrd NA.out) (by rw [wrdsI_len]; omega) (Nat.le_trans (Nat.le_refl _) S.out.few) ?_
                    intro v6 w6 o6 g6
                    obtain ⟨u6, n6, c6, rfl⟩ := o6.shape
                    obtain ⟨S6, lc6, fc6⟩ := S.out.app2 g6 o6
                    have S7 := hideP S6
                    clear S6 o6 g6 NA S
                    go_wp2_with fail
                    refine hK.out _ _ trivial (fun hHeld => ?_)
                    clear hK K
                    refine wpAnyH_take (i := 29) (v := (.pointer (some ⟨n + 1, 3, none⟩))) rfl (by kernel_rfl) (by kernel_rfl) (by kernel_rfl) (fun _ _ _ h => h) (Or.inl ⟨by rfl, ?_⟩) hHeld ?_
                    · (intro w hSw; (try dsimp only at hSw); go_simp)
                    walk_nrm
                    refine wpAnyH_ready (rs := [30]) (by kernel_rfl) (by simp) ?_
                    refine AllReadyH.cons rfl (fun K hK => ?_) (AllReadyH.nil)
                    go_simp
                    refine hK.out _ _ trivial (fun hHeld => ?_)
                    clear hK K
                    refine wpAnyH_done (by kernel_rfl) ?_ _
                    clear hHeld lc6 fc6
                    go_wp2
                    go_roundg (c - (j + 1))
                    case rel => exact ⟨j + 1, I + 5, _, by omega, by show _ = _; rw [hI.out]; omega, by push_cast; rfl, S7.out⟩
                    case measure => omega
                  · go_simp
                    go_at_call 34
                    refine (GE.out _).mono ?_
                    rintro ea wa ⟨rfl, hwa⟩
                    have hwb := hwa.symm
                    subst hwb
                    go_wp2_with fail
                    refine hK.out _ _ trivial (fun hHeld => ?_)
                    clear hK K
                    refine wpAnyH_take (i := 26) (v := (.agg #[.int .i64 (valI s (4 + k + 5 * j)), .int .i64 (valI s (4 + k + 5 * j + 1)), .int .i64 (valI s (4 + k + 5 * j + 2)), .int .i64 (valI s (4 + k + 5 * j + 3)), .int .i64 (valI s (4 + k + 5 * j + 4))])) rfl (by kernel_rfl) (by kernel_rfl) (by kernel_rfl) (fun _ _ _ h => h) (Or.inl ⟨by rfl, ?_⟩) hHeld ?_
                    · (intro w hSw; (try dsimp only at hSw); go_simp; try (simp [IntKind.wrap, IntKind.bits, IntKind.signed]; omega))
                    walk_nrm
                    refine wpAnyH_ready (rs := [1, 27]) (by kernel_rfl) (by simp) ?_
                    refine AllReadyH.cons rfl (fun K hK => ?_) (AllReadyH.cons rfl (fun K hK => ?_) (AllReadyH.nil))
                    · have lc := (cells_of S.out.im).1 3
                      simp at lc
                      go_simp
                      refine hK.out _ _ trivial (fun hHeld => ?_)
                      clear hK K
                      clear lc
                      refine wpAnyH_ready (rs := [27]) (by kernel_rfl) (by simp) ?_
                      refine AllReadyH.cons rfl (fun K hK => ?_) (AllReadyH.nil)
                      have al := (Below.refl wd.heap.size wd).alloc (Nat.le_refl _) (.cells #[.int .i64 (valI s (4 + k + 5 * j)), .int .i64 (valI s (4 + k + 5 * j + 1)), .int .i64 (valI s (4 + k + 5 * j + 2)), .int .i64 (valI s (4 + k + 5 * j + 3)), .int .i64 (valI s (4 + k + 5 * j + 4))] 69)
                      have NA := hideP (newR wd (.cells #[.int .i64 (valI s (4 + k + 5 * j)), .int .i64 (valI s (4 + k + 5 * j + 1)), .int .i64 (valI s (4 + k + 5 * j + 2)), .int .i64 (valI s (4 + k + 5 * j + 3)), .int .i64 (valI s (4 + k + 5 * j + 4))] 69))
                      replace S := hideP (S.out.stays al)
                      clear al
                      go_simp
                      refine hK.out _ _ trivial (fun hHeld => ?_)
                      clear hK K
                      refine wpAnyH_ready (rs := [28]) (by kernel_rfl) (by simp) ?_
                      refine AllReadyH.cons rfl (fun K hK => ?_) (AllReadyH.nil)
                      refine step_appN WrOk _ rfl _ _ rfl (n + 2) _ (wrdsI s (4 + k) j) (wrdI s (4 + k + 5 * j)) wd.heap.size 0 1 rfl rfl S.out.o2 (one_wrd NA.out) (by rw [wrdsI_len]; omega) (Nat.le_trans (Nat.le_refl _) S.out.few) ?_
                      intro v6 w6 o6 g6
                      obtain ⟨u6, n6, c6, rfl⟩ := o6.shape
                      obtain ⟨S6, lc6, fc6⟩ := S.out.app2 g6 o6
                      have S7 := hideP S6
                      clear S6 o6 g6 NA S
                      go_wp2_with fail
                      refine hK.out _ _ trivial (fun hHeld => ?_)
                      clear hK K
                      refine wpAnyH_take (i := 29) (v := (.pointer (some ⟨n + 1, 3, none⟩))) rfl (by kernel_rfl) (by kernel_rfl) (by kernel_rfl) (fun _ _ _ h => h) (Or.inl ⟨by rfl, ?_⟩) hHeld ?_
                      · (intro w hSw; (try dsimp only at hSw); go_simp)
                      walk_nrm
                      refine wpAnyH_ready (rs := [30]) (by kernel_rfl) (by simp) ?_
                      refine AllReadyH.cons rfl (fun K hK => ?_) (AllReadyH.nil)
                      go_simp
                      refine hK.out _ _ trivial (fun hHeld => ?_)
                      clear hK K
                      refine wpAnyH_done (by kernel_rfl) ?_ _
                      clear hHeld lc6 fc6
                      go_wp2
                      go_roundg (c - (j + 1))
                      case rel => exact ⟨j + 1, I + 5, _, by omega, by show _ = _; rw [hI.out]; omega, by push_cast; rfl, S7.out⟩
                      case measure => omega
                    · have al := (Below.refl wd.heap.size wd).alloc (Nat.le_refl _) (.cells #[.int .i64 (valI s (4 + k + 5 * j)), .int .i64 (valI s (4 + k + 5 * j + 1)), .int .i64 (valI s (4 + k + 5 * j + 2)), .int .i64 (valI s (4 + k + 5 * j + 3)), .int .i64 (valI s (4 + k + 5 * j + 4))] 69)
                      have NA := hideP (newR wd (.cells #[.int .i64 (valI s (4 + k + 5 * j)), .int .i64 (valI s (4 + k + 5 * j + 1)), .int .i64 (valI s (4 + k + 5 * j + 2)), .int .i64 (valI s (4 + k + 5 * j + 3)), .int .i64 (valI s (4 + k + 5 * j + 4))] 69))
                      replace S := hideP (S.out.stays al)
                      clear al
                      go_simp
                      refine hK.out _ _ trivial (fun hHeld => ?_)
                      clear hK K
                      refine wpAnyH_ready (rs := [1]) (by kernel_rfl) (by simp) ?_
                      refine AllReadyH.cons rfl (fun K hK => ?_) (AllReadyH.nil)
                      have lc := (cells_of S.out.im).1 3
                      simp at lc
                      go_simp
                      refine hK.out _ _ trivial (fun hHeld => ?_)
                      clear hK K
                      clear lc
                      refine wpAnyH_ready (rs := [28]) (by kernel_rfl) (by simp) ?_
                      refine AllReadyH.cons rfl (fun K hK => ?_) (AllReadyH.nil)
                      refine step_appN WrOk _ rfl _ _ rfl (n + 2) _ (wrdsI s (4 + k) j) (wrdI s (4 + k + 5 * j)) wd.heap.size 0 1 rfl rfl S.out.o2 (one_wrd NA.out) (by rw [wrdsI_len]; omega) (Nat.le_trans (Nat.le_refl _) S.out.few) ?_
                      intro v6 w6 o6 g6
                      obtain ⟨u6, n6, c6, rfl⟩ := o6.shape
                      obtain ⟨S6, lc6, fc6⟩ := S.out.app2 g6 o6
                      have S7 := hideP S6
                      clear S6 o6 g6 NA S
                      go_wp2_with fail
                      refine hK.out _ _ trivial (fun hHeld => ?_)
                      clear hK K
                      refine wpAnyH_take (i := 29) (v := (.pointer (some ⟨n + 1, 3, none⟩))) rfl (by kernel_rfl) (by kernel_rfl) (by kernel_rfl) (fun _ _ _ h => h) (Or.inl ⟨by rfl, ?_⟩) hHeld ?_
                      · (intro w hSw; (try dsimp only at hSw); go_simp)
                      walk_nrm
                      refine wpAnyH_ready (rs := [30]) (by kernel_rfl) (by simp) ?_
                      refine AllReadyH.cons rfl (fun K hK => ?_) (AllReadyH.nil)
                      go_simp
                      refine hK.out _ _ trivial (fun hHeld => ?_)
                      clear hK K
                      refine wpAnyH_done (by kernel_rfl) ?_ _
                      clear hHeld lc6 fc6
                      go_wp2
                      go_roundg (c - (j + 1))
                      case rel => exact ⟨j + 1, I + 5, _, by omega, by show _ = _; rw [hI.out]; omega, by push_cast; rfl, S7.out⟩
                      case measure => omega
        · have hjn : c = j := by omega
          subst hjn
          have hnk2 : ¬ (I : Int) + 5 < (N : Int) := by have := hI.out; have := HN5.out; omega
          have hI4 : (I : Int) ≤ 40000 := by have := hI.out; omega
          have S := hideP hS.out
          clear hS
          go_upto_region 16 with fail
          obtain ⟨us, cs, rfl, hIs⟩ := S.out.o1.ints
          obtain ⟨uc, cc, rfl, hW⟩ := S.out.o2.wrds (wrdsI_wf _ _ _)
          obtain ⟨l1, h1⟩ : ∃ l, valsI s 1 k = l := ⟨_, rfl⟩
          obtain ⟨l2, h2w⟩ : ∃ l, wrdsI s (4 + k) c = l := ⟨_, rfl⟩
          have PI : Hid (pI s = ⟨l1, p, q, l2⟩) := by show _ = _; unfold pI; rw [V1.out, V2.out, HC.out, HK.out, h1, h2w]
          rw [h1] at hIs S
          rw [h2w] at hW S
          try simp only [h1, h2w]
          clear h1 h2w V1 V2 HC HK
          have IM : Hid (ImgIs wr (n + 2) #[.slice us l1.length cs, .int .i64 p, .int .i64 q, .slice uc l2.length cc] ⟨l1, p, q, l2⟩) := ⟨us, cs, uc, cc, rfl, by have := pI_wf s; rw [PI.out] at this; exact this, hIs, hW⟩
          clear hIs hW
          have hn3 := S.out.few
          have c0 := (cells_of S.out.im).1 0
          have c1 := (cells_of S.out.im).1 1
          have c2 := (cells_of S.out.im).1 2
          have c3 := (cells_of S.out.im).1 3
          simp at c0 c1 c2 c3
          go_wp2_with fail
          refine (spec_putImage ⟨l1, p, q, l2⟩ wr (n + 2) _ IM.out (fun W A v h => spec_imageOk _ W A v h)).mono ?_
          rintro e3 w3 ⟨rfl, b3⟩
          have S2 := hideP (S.out.stays b3)
          clear c0 c1 c2 c3 b3 IM S
          have c0 := (cells_of S2.out.im).1 0
          have c1 := (cells_of S2.out.im).1 1
          have c2 := (cells_of S2.out.im).1 2
          have c3 := (cells_of S2.out.im).1 3
          have r0 := (cells_of S2.out.rs).1 0
          have r1 := (cells_of S2.out.rs).1 1
          have r2 := (cells_of S2.out.rs).1 2
          have r3 := (cells_of S2.out.rs).1 3
          have f0 := (cells_of S2.out.rs).2
          simp [zC] at c0 c1 c2 c3 r0 r1 r2 r3
          obtain ⟨P, hP⟩ : ∃ P, putS ⟨l1, p, q, l2⟩ = P := ⟨_, rfl⟩
          rw [hP]
          by_cases hps : P = s
          · have E : Hid (okI s = true) := by show _ = _; rw [OKI.out, PI.out, hP, hps]; simp
            have LNS : Hid (1 ≤ l1.length ∧ l1.length ≤ 4 ∧ 1 ≤ l2.length ∧ l2.length ≤ 6000) := by
              have h0 := E.out
              unfold okI at h0
              rw [Bool.and_eq_true, PI.out] at h0
              exact imgOk_lens h0.1
            clear hP
            subst hps
            have HO1 := hideP (S2.out.o1.ownI (fun e => by have := LNS.out.1; rw [e] at this; simp at this))
            have HO2 := hideP (S2.out.o2.own (fun e => by have := LNS.out.2.2.1; rw [e] at this; simp at this))
            obtain ⟨gs, ks, hv1, _⟩ := id HO1.out
            obtain ⟨gc, kc, hv2, _⟩ := id HO2.out
            cases hv1
            cases hv2
            have pb := put4_but w3 n (.slice (some ⟨gs, 0, none⟩) l1.length cs) (.int .i64 p) (.int .i64 q) (.slice (some ⟨gc, 0, none⟩) l2.length cc)
            have P2 := hideP (put4_box S2.out.rs (.slice (some ⟨gs, 0, none⟩) l1.length cs) (.int .i64 p) (.int .i64 q) (.slice (some ⟨gc, 0, none⟩) l2.length cc))
            have BE := hideP (S2.out.bel.trans (pb.below (Nat.le_refl _) (by have := S2.out.few; omega)))
            have N1 := hideP (HO1.out.butG pb (by intro e; have e1 := own_blk e; have := (S2.out.o1.low gs rfl).1; omega))
            have N2 := hideP (HO2.out.butG pb (by intro e; have e1 := own_blk e; have := (S2.out.o2.low gc rfl).1; omega))
            clear pb HO1 HO2
            go_wp2
            refine bodyPost_ret (results_cell_row2 rfl _ _ n #[.slice (some ⟨gs, 0, none⟩) l1.length cs, .int .i64 p, .int .i64 q, .slice (some ⟨gc, 0, none⟩) l2.length cc] rfl (run_loadVar_row _ n _ _ _ (0, 0) _ P2.out Tryd.underlying32 rfl (by kernel_rfl)) (.bool true) rfl) rfl ?_
            have k1 := N1.out.mono (show n ≤ n + 2 by omega)
            have k2 := N2.out.mono (show n ≤ n + 2 by omega)
            have key := @get_some w _ P E.out gs cs gc cc (by rw [PI.out, HNN.out]; exact k1) (by rw [PI.out, HNN.out]; exact k2) (by rw [HNN.out]; exact BE.out)
            rw [PI.out] at key
            exact key
          · have E : Hid (okI s = false) := by show _ = _; rw [OKI.out, PI.out, hP, decide_eq_false hps]
            have hps5 := txt_neR hps
            have pb := put4_but w3 n (.slice none 0 0) (.int .i64 0) (.int .i64 0) (.slice none 0 0)
            have P2 := hideP (put4_box S2.out.rs (.slice none 0 0) (.int .i64 0) (.int .i64 0) (.slice none 0 0))
            have BE := hideP (S2.out.bel.trans (pb.below (Nat.le_refl _) (by have := S2.out.few; omega)))
            clear pb c0 c1 c2 c3
            go_wp2
            refine bodyPost_ret (results_cell_row2 rfl _ _ n zC rfl (run_loadVar_row _ n _ _ _ (0, 0) _ P2.out Tryd.underlying32 rfl (by kernel_rfl)) (.bool false) rfl) rfl ?_
            exact get_none E.out (by rw [HNN.out]; exact BE.out)
end Go.Proofs.YtehccknppnmbkaaDoor
