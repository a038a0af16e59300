/- The contract of spec.GetImage (written by wip/mkrss.py). -/
import Derived.Test.YtehccknppnmbkaaDoorRsM
import Derived.Test.YtehccknppnmbkaaDoorRsGH
import Derived.Test.YtehccknppnmbkaaDoorRdN
import Derived.Test.YtehccknppnmbkaaDoorPuS
import Derived.Test.YtehccknppnmbkaaDoorImgS
import Derived.Conc.WalkWords
namespace Go.Proofs.YtehccknppnmbkaaDoor
open Go.ChangeShapes Go.WideShapes Go.ChangeAt Go.RowKit
set_option maxHeartbeats 16000000 in
set_option maxRecDepth 100000 in
theorem spec_getImage (s : ByteArray) (w : World) (hs : s.size ≤ 1048576) :
    Calls Tryd.prog 20 #[.string s] w fun en w' => GetRes w s en w' := by
  obtain ⟨n, hn⟩ : ∃ n, w.heap.size = n := ⟨_, rfl⟩
  have HNN := hideP hn
  have IN := hideP l01In_any
  have al := (Below.refl w.heap.size w).alloc (Nat.le_refl _) (.cells zC 32)
  have Z0 := hideP (newR w (.cells zC 32))
  have HAL := hideP al
  clear al
  obtain ⟨W0, hW0⟩ : ∃ W, w.alloc (.cells zC 32) = W := ⟨_, rfl⟩
  have hz0 : W0.heap.size = w.heap.size + 1 := by rw [← hW0]; simp
  have HZ : Hid (W0.heap.size = n + 1) := by show _ = _; rw [hz0, hn]
  rw [hW0] at Z0 HAL
  rw [hn] at Z0
  unfold zC at hW0
  clear hz0
  have r0 := (cells_of Z0.out).1 0
  have r1 := (cells_of Z0.out).1 1
  have r2 := (cells_of Z0.out).1 2
  have r3 := (cells_of Z0.out).1 3
  have f0 := (cells_of Z0.out).2
  simp [zC] at r0 r1 r2 r3
  have EN : Hid (okI s = false → GetRes w s (.returned (.tuple #[.agg zC, .bool false])) (put4 W0 n (.slice none 0 0) (.int .i64 0) (.int .i64 0) (.slice none 0 0))) := fun h => get_none h (HAL.out.trans ((put4_but W0 n (.slice none 0 0) (.int .i64 0) (.int .i64 0) (.slice none 0 0)).below (by rw [HNN.out]; exact Nat.le_refl _) HAL.out.size))
  have PN := hideP (put4_box Z0.out (.slice none 0 0) (.int .i64 0) (.int .i64 0) (.slice none 0 0))
  obtain ⟨N, hN⟩ : ∃ N, s.size / 8 = N := ⟨_, rfl⟩
  have hd1 : (s.size : Int) / 8 = (N : Int) := by omega
  have hN8 : 8 * N ≤ s.size := by omega
  by_cases h1 : N < 1
  · have E : Hid (okI s = false) := by
      refine ncond_okI ?_
      cases h : condS s with
      | false => rfl
      | true => have := (cond_parts h).1; omega
    go_enter Tryd.func20, Tryd.ntmps20
    go_wp2
    refine bodyPost_ret (results_cell_row2 rfl _ _ n zC rfl (run_loadVar_row _ n _ _ _ (0, 0) _ PN.out Tryd.underlying32 rfl (by kernel_rfl)) (.bool false) rfl) rfl ?_
    exact EN.out E.out
  · obtain ⟨v0, hv0⟩ : ∃ v, numAt s 0 = v := ⟨_, rfl⟩
    have G0 : Hid (∀ W, Calls Tryd.prog 34 #[.string s, .int .i64 0] W fun e w' => e = .returned (.int .i64 v0) ∧ w' = W) := fun W => by rw [← hv0]; exact l14Get_at s 0 0 W hs (by omega) rfl
    by_cases h2 : 1 ≤ v0 ∧ v0 ≤ 4
    · have i2 : Hid (inB v0 1 4 = true) := by show _ = _; rw [inB_iff]; exact decide_eq_true h2
      obtain ⟨k, rfl⟩ : ∃ k : Nat, v0 = (k : Int) := ⟨v0.toNat, by omega⟩
      have CP : Hid (condS s = true → (k : Int) + 10 ≤ (N : Int) ∧ (1 ≤ numAt s (8 * k + 24) ∧ numAt s (8 * k + 24) ≤ 6000) ∧ (N : Int) = k + 5 + 5 * numAt s (8 * k + 24)) := fun h => by
        obtain ⟨_, _, p3, p4, p5⟩ := cond_parts h
        rw [hv0, hN] at p3 p5
        rw [hv0] at p4
        rw [Int.toNat_natCast] at p4 p5
        exact ⟨p3, p4, p5⟩
      by_cases h3 : N < k + 10
      · have E : Hid (okI s = false) := by
          refine ncond_okI ?_
          cases h : condS s with
          | false => rfl
          | true => have := (CP.out h).1; omega
        have G3 := G0
        have i4 := i2
        clear CP
        go_enter Tryd.func20, Tryd.ntmps20
        go_wp2_with fail
        refine (G0.out _).mono ?_
        rintro ea wa ⟨rfl, rfl⟩
        go_wp2_with fail
        refine (IN.out _ _ _ _).mono ?_
        rintro eb wb ⟨rfl, rfl⟩
        rw [i2.out]
        go_wp2_with fail
        refine (G0.out _).mono ?_
        rintro ea wa ⟨rfl, rfl⟩
        go_wp2
        refine bodyPost_ret (results_cell_row2 rfl _ _ n zC rfl (run_loadVar_row _ n _ _ _ (0, 0) _ PN.out Tryd.underlying32 rfl (by kernel_rfl)) (.bool false) rfl) rfl ?_
        exact EN.out E.out
      · obtain ⟨v3, hv3⟩ : ∃ v, numAt s (8 * k + 24) = v := ⟨_, rfl⟩
        have G3 : Hid (∀ W, Calls Tryd.prog 34 #[.string s, .int .i64 (8 * (k : Int) + 24)] W fun e w' => e = .returned (.int .i64 v3) ∧ w' = W) := fun W => by rw [← hv3]; exact l14Get_at s (8 * k + 24) _ W hs (by omega) (by omega)
        rw [hv3] at CP
        by_cases h4 : 1 ≤ v3 ∧ v3 ≤ 6000
        · have i4 : Hid (inB v3 1 6000 = true) := by show _ = _; rw [inB_iff]; exact decide_eq_true h4
          obtain ⟨c, rfl⟩ : ∃ c : Nat, v3 = (c : Int) := ⟨v3.toNat, by omega⟩
          by_cases h5 : N = k + 5 + 5 * c
          · exact spec_getMain s w hs N k c hN hv0 hv3 h2 h4 h5
          · have E : Hid (okI s = false) := by
              refine ncond_okI ?_
              cases h : condS s with
              | false => rfl
              | true => exact absurd (by have := (CP.out h).2.2; omega) h5
            clear CP
            have hne : ((N : Int) != (k : Int) + 5 + 5 * (c : Int)) = true := by rw [bne_iff_ne]; omega
            have hk10 : (k : Int) + 10 ≤ (N : Int) := by omega
            have hn1 : 1 ≤ (N : Int) := by omega
            go_enter Tryd.func20, Tryd.ntmps20
            go_wp2_with fail
            refine (G0.out _).mono ?_
            rintro ea wa ⟨rfl, rfl⟩
            go_wp2_with fail
            refine (IN.out _ _ _ _).mono ?_
            rintro eb wb ⟨rfl, rfl⟩
            rw [i2.out]
            go_wp2_with fail
            refine (G0.out _).mono ?_
            rintro ea wa ⟨rfl, rfl⟩
            go_wp2_with fail
            refine (G3.out _).mono ?_
            rintro ea wa ⟨rfl, rfl⟩
            go_wp2_with fail
            refine (IN.out _ _ _ _).mono ?_
            rintro eb wb ⟨rfl, rfl⟩
            rw [i4.out]
            go_wp2_with fail
            refine (G3.out _).mono ?_
            rintro ea wa ⟨rfl, rfl⟩
            go_wp2
            refine bodyPost_ret (results_cell_row2 rfl _ _ n zC rfl (run_loadVar_row _ n _ _ _ (0, 0) _ PN.out Tryd.underlying32 rfl (by kernel_rfl)) (.bool false) rfl) rfl ?_
            exact EN.out E.out
        · have i4 : Hid (inB v3 1 6000 = false) := by show _ = _; rw [inB_iff]; exact decide_eq_false h4
          have E : Hid (okI s = false) := by
            refine ncond_okI ?_
            cases h : condS s with
            | false => rfl
            | true => exact absurd (CP.out h).2.1 h4
          clear CP h4
          go_enter Tryd.func20, Tryd.ntmps20
          go_wp2_with fail
          refine (G0.out _).mono ?_
          rintro ea wa ⟨rfl, rfl⟩
          go_wp2_with fail
          refine (IN.out _ _ _ _).mono ?_
          rintro eb wb ⟨rfl, rfl⟩
          rw [i2.out]
          go_wp2_with fail
          refine (G0.out _).mono ?_
          rintro ea wa ⟨rfl, rfl⟩
          go_wp2_with fail
          refine (G3.out _).mono ?_
          rintro ea wa ⟨rfl, rfl⟩
          go_wp2_with fail
          refine (IN.out _ _ _ _).mono ?_
          rintro eb wb ⟨rfl, rfl⟩
          rw [i4.out]
          go_wp2
          refine bodyPost_ret (results_cell_row2 rfl _ _ n zC rfl (run_loadVar_row _ n _ _ _ (0, 0) _ PN.out Tryd.underlying32 rfl (by kernel_rfl)) (.bool false) rfl) rfl ?_
          exact EN.out E.out
    · have i2 : Hid (inB v0 1 4 = false) := by show _ = _; rw [inB_iff]; exact decide_eq_false h2
      have E : Hid (okI s = false) := by
        refine ncond_okI ?_
        cases h : condS s with
        | false => rfl
        | true => exact absurd (by have := (cond_parts h).2.1; rw [hv0] at this; exact this) h2
      clear h2
      go_enter Tryd.func20, Tryd.ntmps20
      go_wp2_with (first | (go_at_call 34; refine (G0.out _).mono ?_; rintro ea wa ⟨rfl, rfl⟩) | (go_at_call 33; refine (IN.out _ _ _ _).mono ?_; rintro eb wb ⟨rfl, rfl⟩; rw [i2.out]))
      refine bodyPost_ret (results_cell_row2 rfl _ _ n zC rfl (run_loadVar_row _ n _ _ _ (0, 0) _ PN.out Tryd.underlying32 rfl (by kernel_rfl)) (.bool false) rfl) rfl ?_
      exact EN.out E.out
end Go.Proofs.YtehccknppnmbkaaDoor
