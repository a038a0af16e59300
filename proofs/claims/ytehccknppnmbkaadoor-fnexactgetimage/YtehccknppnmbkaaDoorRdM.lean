/- The contract of impl.imageIn (written by wip/mkrdm.py). -/
import Derived.Test.YtehccknppnmbkaaDoorRdG
import Derived.Test.YtehccknppnmbkaaDoorPuI
import Derived.Test.YtehccknppnmbkaaDoorRdPQ
import Derived.Test.YtehccknppnmbkaaDoorOwnIntL
import Derived.Conc.WalkWords
namespace Go.Proofs.YtehccknppnmbkaaDoor
open Go.ChangeShapes Go.WideShapes Go.ChangeAt Go.RowKit
theorem one_wrd {w : World} {b : Nat} {s : ByteArray} {i : Nat} (h : w.heap[b]? = some (.cells #[.int .i64 (valI s i), .int .i64 (valI s (i + 1)), .int .i64 (valI s (i + 2)), .int .i64 (valI s (i + 3)), .int .i64 (valI s (i + 4))] 69 (0, 0))) : ∀ r, r < WrE.sz → w.cell? ⟨b, 0 + r, none⟩ = (WrE.cs (wrdI s i))[r]? := fun r hr => by
  rw [Nat.zero_add, (cells_of h).1 r]
  have hr5 : r < 5 := hr
  match r, hr5 with
  | 0, _ => rfl
  | 1, _ => rfl
  | 2, _ => rfl
  | 3, _ => rfl
  | 4, _ => rfl
theorem txt_neR {t u : ByteArray} (h : ¬ t = u) : (t.toList == u.toList) = false := by
  rw [beq_eq_false_iff_ne]
  intro e
  rw [Lib.toList_data, Lib.toList_data] at e
  exact h (ByteArray.ext (Array.ext' e))
theorem lt_of_cell {w : World} {b o : Nat} {v : Value} (h : w.cell? ⟨b, o, none⟩ = some v) : b < w.heap.size := by
  rcases Nat.lt_or_ge b w.heap.size with h' | h'
  · exact h'
  · simp [World.cell?, Array.getElem?_eq_none h'] at h
theorem below_n {n : Nat} {w w' : World} (h : Below n w w') (e : w.heap.size = n) : Below w.heap.size w w' := by rw [e]; exact h
def RdRes (w : World) (s : ByteArray) (ev : Value) (en : Ending) (w' : World) : Prop :=
  (okI s = true ∧ ∃ gs cs gc cc, en = .returned (.tuple #[.agg #[.slice (some ⟨gs, 0, none⟩) (pI s).sizes.length cs, .int .i64 (pI s).params, .int .i64 (pI s).slots, .slice (some ⟨gc, 0, none⟩) (pI s).code.length cc], .nilIface]) ∧ OwnI w' w.heap.size (.slice (some ⟨gs, 0, none⟩) (pI s).sizes.length cs) (pI s).sizes ∧ OwnE WrE w' w.heap.size (.slice (some ⟨gc, 0, none⟩) (pI s).code.length cc) (pI s).code ∧ Below w.heap.size w w') ∨
  (okI s = false ∧ en = .returned (.tuple #[.agg zC, ev]) ∧ Below w.heap.size w w')
theorem one_int {w : World} {b : Nat} {z : Int} (h : w.heap[b]? = some (.cells #[.int .i64 z] 3 (0, 0))) : ∀ r, r < IntE.sz → w.cell? ⟨b, 0 + r, none⟩ = (IntE.cs z)[r]? := fun r hr => by
  have hr0 : r = 0 := by have : r < 1 := hr; omega
  subst hr0
  exact ((cells_of h).1 0).trans rfl
set_option maxHeartbeats 16000000 in
set_option maxRecDepth 100000 in
theorem imageIn_any (s : ByteArray) (w : World) (hs : s.size ≤ 1048576) (ev : Value) (hev : w.cell? ⟨0, 0, none⟩ = some ev) (GO : ∀ m : Img, ImOk 47 m) :
    Calls Tryd.prog 36 #[.string s] w fun en w' => RdRes w s ev en w' := by
  obtain ⟨n, hn⟩ : ∃ n, w.heap.size = n := ⟨_, rfl⟩
  have HNN := hideP hn
  have HEV := hideP hev
  have a1 := (Below.refl w.heap.size w).alloc (Nat.le_refl _) (.cells zC 32)
  have a2 := (Below.refl _ (w.alloc (.cells zC 32))).alloc (Nat.le_refl _) (.cells #[.string s] 102)
  have a3 := (Below.refl _ ((w.alloc (.cells zC 32)).alloc (.cells #[.string s] 102))).alloc (Nat.le_refl _) (.cells zC 32)
  have Z1 := keepR (keepR (newR w (.cells zC 32)) a2) a3
  have Z2 := keepR (newR (w.alloc (.cells zC 32)) (.cells #[.string s] 102)) a3
  have Z3 := newR ((w.alloc (.cells zC 32)).alloc (.cells #[.string s] 102)) (.cells zC 32)
  simp only [World.size_alloc, hn] at Z1 Z2 Z3
  have R0 : restAt s 0 = s := by unfold restAt; rw [if_pos (Nat.zero_le _)]; simp
  have S0 : Hid (RdAt s n 0 (.slice none 0 0) 0 0 (.slice none 0 0) [] [] w (((w.alloc (.cells zC 32)).alloc (.cells #[.string s] 102)).alloc (.cells zC 32))) :=
    ⟨Z1, by rw [R0]; exact Z2, Z3, OwnN.nil, OwnN.nil, by rw [← hn]; exact (a1.trans (a2.mono a1.size)).trans (a3.mono (Nat.le_trans a1.size a2.size))⟩
  clear a1 a2 a3 Z1 Z2 Z3 R0 hev
  go_enter Tryd.func36, Tryd.ntmps36
  go_upto_region 3 with fail
  obtain ⟨W0, hW0⟩ : ∃ W, (((w.alloc (.cells zC 32)).alloc (.cells #[.string s] 102)).alloc (.cells zC 32)) = W := ⟨_, rfl⟩
  unfold zC at hW0
  rw [hW0]
  unfold zC at S0
  rw [hW0] at S0
  clear hW0
  rw [show n + 1 + 1 = n + 2 from rfl]
  go_cut [10, 11] from 9 to 11 (fun sa sb wx => sb = .int .i64 0 ∧ ∃ M : Int, sa = .int .i64 M ∧ Hid (M ≤ 4) ∧ Hid (kI s = M.toNat) ∧ Hid (RdAt s n 1 (.slice none 0 0) 0 0 (.slice none 0 0) [] [] w wx))
  case first =>
    go_wp2_with fail
    refine (number_any s 0 (n + 1) W0 S0.out.rd).mono ?_
    rintro e1 w1 ⟨rfl, b1, r1⟩
    have S1 := hideP (S0.out.call b1 r1)
    clear b1 r1 S0
    have KI : Hid (kI s = (min (valI s 0) 4).toNat) := rfl
    obtain ⟨v0, hv0⟩ : ∃ v, valI s 0 = v := ⟨_, rfl⟩
    rw [hv0] at KI ⊢
    clear hv0
    go_wp2_with fail
    all_goals (go_meet; exact ⟨rfl, _, rfl, hideP (by omega), by show _ = _; rw [KI.out]; omega, S1.out⟩)
  case rest =>
  obtain ⟨rfl, M, rfl, hM4, hMk, hS1⟩ := hcut
  clear S0
  go_wp2_with fail
  go_loopg [11] (kI s) (fun gk x wr => ∃ (j : Nat) (vS : Value), gk + j = kI s ∧ x = .int .i64 j ∧ Hid (RdAt s n (1 + j) vS 0 0 (.slice none 0 0) (valsI s 1 j) [] w wr))
  case atStart => exact ⟨0, _, by simp, rfl, hS1.out⟩
  case round =>
    obtain ⟨j, vS, hj, rfl, hS⟩ := hrel
    clear hS1
    by_cases hlt : j < kI s
    · have hlm : (j : Int) < M := by have := hMk.out; omega
      have hk4 := kI_le s
      go_upto_region 5 with fail
      have S := hideP hS.out.drew
      clear hS
      refine wp_region_held_drew (S := fun _ => True) (by kernel_rfl) trivial (fun hHeld => ?_)
      refine wpAnyH_take (i := 0) (v := (.pointer (some ⟨n + 2, 0, none⟩))) rfl (by kernel_rfl) (by kernel_rfl) (by kernel_rfl) (fun _ _ _ h => h) (Or.inl ⟨by rfl, ?_⟩) hHeld ?_
      · (intro w hSw; (try dsimp only at hSw); go_simp)
      walk_nrm
      refine wpAnyH_ready (rs := [1, 2]) (by kernel_rfl) (by simp) ?_
      refine AllReadyH.cons rfl (fun K hK => ?_) (AllReadyH.cons rfl (fun K hK => ?_) (AllReadyH.nil))
      · have lc := (cells_of S.out.im).1 0
        simp at lc
        go_simp
        refine hK.out _ _ trivial (fun hHeld => ?_)
        clear hK K
        clear lc
        refine wpAnyH_ready (rs := [2]) (by kernel_rfl) (by simp) ?_
        refine AllReadyH.cons rfl (fun K hK => ?_) (AllReadyH.nil)
        go_simp
        go_at_call 56
        refine (number_any s (1 + j) (n + 1) _ S.out.rd).mono ?_
        rintro ea wa ⟨rfl, ba, ra⟩
        replace S := hideP (S.out.call ba ra)
        clear ba ra
        go_wp2_with fail
        refine hK.out _ _ trivial (fun hHeld => ?_)
        clear hK K
        refine wpAnyH_ready (rs := [3]) (by kernel_rfl) (by simp) ?_
        refine AllReadyH.cons rfl (fun K hK => ?_) (AllReadyH.nil)
        have al := (Below.refl wa.heap.size wa).alloc (Nat.le_refl _) (.cells #[.int .i64 (valI s (1 + j))] 3)
        have NA := hideP (newR wa (.cells #[.int .i64 (valI s (1 + j))] 3))
        replace S := hideP (S.out.stays al)
        clear al
        go_simp
        refine hK.out _ _ trivial (fun hHeld => ?_)
        clear hK K
        refine wpAnyH_ready (rs := [4]) (by kernel_rfl) (by simp) ?_
        refine AllReadyH.cons rfl (fun K hK => ?_) (AllReadyH.nil)
        refine step_appN IntOk _ rfl _ _ rfl (n + 3) _ (valsI s 1 j) (valI s (1 + j)) wa.heap.size 0 1 rfl rfl S.out.o1 (one_int NA.out) (by rw [valsI_len]; omega) (Nat.le_trans (Nat.le_refl _) S.out.few) ?_
        intro v6 w6 o6 g6
        obtain ⟨u6, n6, c6, rfl⟩ := o6.shape
        obtain ⟨S6, lc6, fc6⟩ := S.out.app1 g6 o6
        have S7 := hideP S6
        clear S6 o6 g6 NA S
        go_wp2_with fail
        refine hK.out _ _ trivial (fun hHeld => ?_)
        clear hK K
        refine wpAnyH_take (i := 5) (v := (.pointer (some ⟨n + 2, 0, none⟩))) rfl (by kernel_rfl) (by kernel_rfl) (by kernel_rfl) (fun _ _ _ h => h) (Or.inl ⟨by rfl, ?_⟩) hHeld ?_
        · (intro w hSw; (try dsimp only at hSw); go_simp)
        walk_nrm
        refine wpAnyH_ready (rs := [6]) (by kernel_rfl) (by simp) ?_
        refine AllReadyH.cons rfl (fun K hK => ?_) (AllReadyH.nil)
        go_simp
        refine hK.out _ _ trivial (fun hHeld => ?_)
        clear hK K
        refine wpAnyH_done (by kernel_rfl) ?_ _
        clear hHeld lc6 fc6
        go_wp2
        go_roundg (kI s - (j + 1))
        case rel => exact ⟨j + 1, _, by omega, by go_num, S7.out⟩
        case measure => omega
      · go_simp
        go_at_call 56
        refine (number_any s (1 + j) (n + 1) _ S.out.rd).mono ?_
        rintro ea wa ⟨rfl, ba, ra⟩
        replace S := hideP (S.out.call ba ra)
        clear ba ra
        go_wp2_with fail
        refine hK.out _ _ trivial (fun hHeld => ?_)
        clear hK K
        refine wpAnyH_ready (rs := [1, 3]) (by kernel_rfl) (by simp) ?_
        refine AllReadyH.cons rfl (fun K hK => ?_) (AllReadyH.cons rfl (fun K hK => ?_) (AllReadyH.nil))
        · have lc := (cells_of S.out.im).1 0
          simp at lc
          go_simp
          refine hK.out _ _ trivial (fun hHeld => ?_)
          clear hK K
          clear lc
          refine wpAnyH_ready (rs := [3]) (by kernel_rfl) (by simp) ?_
          refine AllReadyH.cons rfl (fun K hK => ?_) (AllReadyH.nil)
          have al := (Below.refl wa.heap.size wa).alloc (Nat.le_refl _) (.cells #[.int .i64 (valI s (1 + j))] 3)
          have NA := hideP (newR wa (.cells #[.int .i64 (valI s (1 + j))] 3))
          replace S := hideP (S.out.stays al)
          clear al
          go_simp
          refine hK.out _ _ trivial (fun hHeld => ?_)
          clear hK K
          refine wpAnyH_ready (rs := [4]) (by kernel_rfl) (by simp) ?_
          refine AllReadyH.cons rfl (fun K hK => ?_) (AllReadyH.nil)
          refine step_appN IntOk _ rfl _ _ rfl (n + 3) _ (valsI s 1 j) (valI s (1 + j)) wa.heap.size 0 1 rfl rfl S.out.o1 (one_int NA.out) (by rw [valsI_len]; omega) (Nat.le_trans (Nat.le_refl _) S.out.few) ?_
          intro v6 w6 o6 g6
          obtain ⟨u6, n6, c6, rfl⟩ := o6.shape
          obtain ⟨S6, lc6, fc6⟩ := S.out.app1 g6 o6
          have S7 := hideP S6
          clear S6 o6 g6 NA S
          go_wp2_with fail
          refine hK.out _ _ trivial (fun hHeld => ?_)
          clear hK K
          refine wpAnyH_take (i := 5) (v := (.pointer (some ⟨n + 2, 0, none⟩))) rfl (by kernel_rfl) (by kernel_rfl) (by kernel_rfl) (fun _ _ _ h => h) (Or.inl ⟨by rfl, ?_⟩) hHeld ?_
          · (intro w hSw; (try dsimp only at hSw); go_simp)
          walk_nrm
          refine wpAnyH_ready (rs := [6]) (by kernel_rfl) (by simp) ?_
          refine AllReadyH.cons rfl (fun K hK => ?_) (AllReadyH.nil)
          go_simp
          refine hK.out _ _ trivial (fun hHeld => ?_)
          clear hK K
          refine wpAnyH_done (by kernel_rfl) ?_ _
          clear hHeld lc6 fc6
          go_wp2
          go_roundg (kI s - (j + 1))
          case rel => exact ⟨j + 1, _, by omega, by go_num, S7.out⟩
          case measure => omega
        · have al := (Below.refl wa.heap.size wa).alloc (Nat.le_refl _) (.cells #[.int .i64 (valI s (1 + j))] 3)
          have NA := hideP (newR wa (.cells #[.int .i64 (valI s (1 + j))] 3))
          replace S := hideP (S.out.stays al)
          clear al
          go_simp
          refine hK.out _ _ trivial (fun hHeld => ?_)
          clear hK K
          refine wpAnyH_ready (rs := [1]) (by kernel_rfl) (by simp) ?_
          refine AllReadyH.cons rfl (fun K hK => ?_) (AllReadyH.nil)
          have lc := (cells_of S.out.im).1 0
          simp at lc
          go_simp
          refine hK.out _ _ trivial (fun hHeld => ?_)
          clear hK K
          clear lc
          refine wpAnyH_ready (rs := [4]) (by kernel_rfl) (by simp) ?_
          refine AllReadyH.cons rfl (fun K hK => ?_) (AllReadyH.nil)
          refine step_appN IntOk _ rfl _ _ rfl (n + 3) _ (valsI s 1 j) (valI s (1 + j)) wa.heap.size 0 1 rfl rfl S.out.o1 (one_int NA.out) (by rw [valsI_len]; omega) (Nat.le_trans (Nat.le_refl _) S.out.few) ?_
          intro v6 w6 o6 g6
          obtain ⟨u6, n6, c6, rfl⟩ := o6.shape
          obtain ⟨S6, lc6, fc6⟩ := S.out.app1 g6 o6
          have S7 := hideP S6
          clear S6 o6 g6 NA S
          go_wp2_with fail
          refine hK.out _ _ trivial (fun hHeld => ?_)
          clear hK K
          refine wpAnyH_take (i := 5) (v := (.pointer (some ⟨n + 2, 0, none⟩))) rfl (by kernel_rfl) (by kernel_rfl) (by kernel_rfl) (fun _ _ _ h => h) (Or.inl ⟨by rfl, ?_⟩) hHeld ?_
          · (intro w hSw; (try dsimp only at hSw); go_simp)
          walk_nrm
          refine wpAnyH_ready (rs := [6]) (by kernel_rfl) (by simp) ?_
          refine AllReadyH.cons rfl (fun K hK => ?_) (AllReadyH.nil)
          go_simp
          refine hK.out _ _ trivial (fun hHeld => ?_)
          clear hK K
          refine wpAnyH_done (by kernel_rfl) ?_ _
          clear hHeld lc6 fc6
          go_wp2
          go_roundg (kI s - (j + 1))
          case rel => exact ⟨j + 1, _, by omega, by go_num, S7.out⟩
          case measure => omega
    · have hjk : j = kI s := by omega
      subst hjk
      have hnm : ¬ ((kI s : Nat) : Int) < M := by have := hMk.out; omega
      have S := hideP hS.out
      clear hS
      go_wp2_with fail
      refine (number_any s (1 + kI s) (n + 1) wr S.out.rd).mono ?_
      rintro ea wa ⟨rfl, ba, ra⟩
      have S1 := hideP (S.out.call ba ra)
      rw [show 1 + kI s + 1 = 2 + kI s by omega] at S1
      have lc := (cells_of S1.out.im).1 1
      have fc := (cells_of S1.out.im).2 1
      simp at lc fc
      have S2 := hideP (S1.out.put1 (valI s (1 + kI s)))
      clear ba ra S S1
      go_wp2_with fail
      clear lc fc
      refine (number_any s (2 + kI s) (n + 1) _ S2.out.rd).mono ?_
      rintro eb wb ⟨rfl, bb, rb⟩
      have S3 := hideP (S2.out.call bb rb)
      rw [show 2 + kI s + 1 = 3 + kI s by omega] at S3
      have lc := (cells_of S3.out.im).1 2
      have fc := (cells_of S3.out.im).2 2
      simp at lc fc
      have S4 := hideP (S3.out.put2 (valI s (2 + kI s)))
      clear bb rb S2 S3
      go_upto_region 9 with fail
      clear lc fc
      obtain ⟨W4, hW4⟩ : ∃ W, wb.setCell ⟨n + 2, 2, none⟩ (.int .i64 (valI s (2 + kI s))) = W := ⟨_, rfl⟩
      rw [hW4] at S4 ⊢
      clear hW4
      obtain ⟨p, hp⟩ : ∃ p, valI s (1 + kI s) = p := ⟨_, rfl⟩
      obtain ⟨q, hq⟩ : ∃ q, valI s (2 + kI s) = q := ⟨_, rfl⟩
      have HP := hideP hp
      have HQ := hideP hq
      rw [hp, hq] at S4
      rw [hp, hq]
      clear hp hq
      go_cut [25, 26] from 24 to 26 (fun sa sb wx => sb = .int .i64 0 ∧ ∃ M : Int, sa = .int .i64 M ∧ Hid (M ≤ 6000) ∧ Hid (cI s = M.toNat) ∧ Hid (RdAt s n (4 + kI s) vS p q (.slice none 0 0) (valsI s 1 (kI s)) [] w wx))
      case first =>
        go_wp2_with fail
        refine (number_any s (3 + kI s) (n + 1) W4 S4.out.rd).mono ?_
        rintro e1 w1 ⟨rfl, b1, r1⟩
        have S1 := hideP (S4.out.call b1 r1)
        rw [show 3 + kI s + 1 = 4 + kI s by omega] at S1
        clear b1 r1 S4
        have KI : Hid (cI s = (min (valI s (3 + kI s)) 6000).toNat) := rfl
        obtain ⟨v0, hv0⟩ : ∃ v, valI s (3 + kI s) = v := ⟨_, rfl⟩
        rw [hv0] at KI ⊢
        clear hv0
        go_wp2_with fail
        all_goals (go_meet; exact ⟨rfl, _, rfl, hideP (by omega), by show _ = _; rw [KI.out]; omega, S1.out⟩)
      case rest =>
      obtain ⟨rfl, M2, rfl, hN4, hNk, hS1⟩ := hcut
      clear S4
      go_wp2_with fail
      go_loopg [26] (cI s) (fun gk x wr => ∃ (j : Nat) (vC : Value), gk + j = cI s ∧ x = .int .i64 j ∧ Hid (RdAt s n (4 + kI s + 5 * j) vS p q vC (valsI s 1 (kI s)) (wrdsI s (4 + kI s) j) w wr))
      case atStart => exact ⟨0, _, by omega, rfl, hS1.out⟩
      case round =>
        obtain ⟨j, vC, hj, rfl, hS⟩ := hrel
        clear hS1
        by_cases hlt : j < cI s
        · have hlm : (j : Int) < M2 := by have := hNk.out; omega
          have hk4 := cI_le s
          go_upto_region 11 with fail
          have S := hideP hS.out.drew
          clear hS
          refine wp_region_held_drew (S := fun _ => True) (by kernel_rfl) trivial (fun hHeld => ?_)
          refine wpAnyH_take (i := 0) (v := (.pointer (some ⟨n + 2, 3, none⟩))) rfl (by kernel_rfl) (by kernel_rfl) (by kernel_rfl) (fun _ _ _ h => h) (Or.inl ⟨by rfl, ?_⟩) hHeld ?_
          · (intro w hSw; (try dsimp only at hSw); go_simp)
          walk_nrm
          refine wpAnyH_ready (rs := [1, 2]) (by kernel_rfl) (by simp) ?_
          refine AllReadyH.cons rfl (fun K hK => ?_) (AllReadyH.cons rfl (fun K hK => ?_) (AllReadyH.nil))
          · have lc := (cells_of S.out.im).1 3
            simp at lc
            go_simp
            refine hK.out _ _ trivial (fun hHeld => ?_)
            clear hK K
            clear lc
            refine wpAnyH_ready (rs := [2]) (by kernel_rfl) (by simp) ?_
            refine AllReadyH.cons rfl (fun K hK => ?_) (AllReadyH.nil)
            go_simp
            go_at_call 57
            refine (word_any s (4 + kI s + 5 * j) (n + 1) _ S.out.rd).mono ?_
            rintro ea wa ⟨rfl, ba, ra⟩
            replace S := hideP (S.out.call ba ra)
            clear ba ra
            go_wp2_with fail
            refine hK.out _ _ trivial (fun hHeld => ?_)
            clear hK K
            refine wpAnyH_ready (rs := [3]) (by kernel_rfl) (by simp) ?_
            refine AllReadyH.cons rfl (fun K hK => ?_) (AllReadyH.nil)
            have al := (Below.refl wa.heap.size wa).alloc (Nat.le_refl _) (.cells #[.int .i64 (valI s (4 + kI s + 5 * j)), .int .i64 (valI s (4 + kI s + 5 * j + 1)), .int .i64 (valI s (4 + kI s + 5 * j + 2)), .int .i64 (valI s (4 + kI s + 5 * j + 3)), .int .i64 (valI s (4 + kI s + 5 * j + 4))] 69)
            have NA := hideP (newR wa (.cells #[.int .i64 (valI s (4 + kI s + 5 * j)), .int .i64 (valI s (4 + kI s + 5 * j + 1)), .int .i64 (valI s (4 + kI s + 5 * j + 2)), .int .i64 (valI s (4 + kI s + 5 * j + 3)), .int .i64 (valI s (4 + kI s + 5 * j + 4))] 69))
            replace S := hideP (S.out.stays al)
            clear al
            go_simp
            refine hK.out _ _ trivial (fun hHeld => ?_)
            clear hK K
            refine wpAnyH_ready (rs := [4]) (by kernel_rfl) (by simp) ?_
            refine AllReadyH.cons rfl (fun K hK => ?_) (AllReadyH.nil)
            refine step_appN WrOk _ rfl _ _ rfl (n + 3) _ (wrdsI s (4 + kI s) j) (wrdI s (4 + kI s + 5 * j)) wa.heap.size 0 1 rfl rfl S.out.o2 (one_wrd NA.out) (by rw [wrdsI_len]; omega) (Nat.le_trans (Nat.le_refl _) S.out.few) ?_
            intro v6 w6 o6 g6
            obtain ⟨u6, n6, c6, rfl⟩ := o6.shape
            obtain ⟨S6, lc6, fc6⟩ := S.out.app2 g6 o6
            have S7 := hideP S6
            clear S6 o6 g6 NA S
            go_wp2_with fail
            refine hK.out _ _ trivial (fun hHeld => ?_)
            clear hK K
            refine wpAnyH_take (i := 5) (v := (.pointer (some ⟨n + 2, 3, none⟩))) rfl (by kernel_rfl) (by kernel_rfl) (by kernel_rfl) (fun _ _ _ h => h) (Or.inl ⟨by rfl, ?_⟩) hHeld ?_
            · (intro w hSw; (try dsimp only at hSw); go_simp)
            walk_nrm
            refine wpAnyH_ready (rs := [6]) (by kernel_rfl) (by simp) ?_
            refine AllReadyH.cons rfl (fun K hK => ?_) (AllReadyH.nil)
            go_simp
            refine hK.out _ _ trivial (fun hHeld => ?_)
            clear hK K
            refine wpAnyH_done (by kernel_rfl) ?_ _
            clear hHeld lc6 fc6
            go_wp2
            go_roundg (cI s - (j + 1))
            case rel => exact ⟨j + 1, _, by omega, by go_num, S7.out⟩
            case measure => omega
          · go_simp
            go_at_call 57
            refine (word_any s (4 + kI s + 5 * j) (n + 1) _ S.out.rd).mono ?_
            rintro ea wa ⟨rfl, ba, ra⟩
            replace S := hideP (S.out.call ba ra)
            clear ba ra
            go_wp2_with fail
            refine hK.out _ _ trivial (fun hHeld => ?_)
            clear hK K
            refine wpAnyH_ready (rs := [1, 3]) (by kernel_rfl) (by simp) ?_
            refine AllReadyH.cons rfl (fun K hK => ?_) (AllReadyH.cons rfl (fun K hK => ?_) (AllReadyH.nil))
            · have lc := (cells_of S.out.im).1 3
              simp at lc
              go_simp
              refine hK.out _ _ trivial (fun hHeld => ?_)
              clear hK K
              clear lc
              refine wpAnyH_ready (rs := [3]) (by kernel_rfl) (by simp) ?_
              refine AllReadyH.cons rfl (fun K hK => ?_) (AllReadyH.nil)
              have al := (Below.refl wa.heap.size wa).alloc (Nat.le_refl _) (.cells #[.int .i64 (valI s (4 + kI s + 5 * j)), .int .i64 (valI s (4 + kI s + 5 * j + 1)), .int .i64 (valI s (4 + kI s + 5 * j + 2)), .int .i64 (valI s (4 + kI s + 5 * j + 3)), .int .i64 (valI s (4 + kI s + 5 * j + 4))] 69)
              have NA := hideP (newR wa (.cells #[.int .i64 (valI s (4 + kI s + 5 * j)), .int .i64 (valI s (4 + kI s + 5 * j + 1)), .int .i64 (valI s (4 + kI s + 5 * j + 2)), .int .i64 (valI s (4 + kI s + 5 * j + 3)), .int .i64 (valI s (4 + kI s + 5 * j + 4))] 69))
              replace S := hideP (S.out.stays al)
              clear al
              go_simp
              refine hK.out _ _ trivial (fun hHeld => ?_)
              clear hK K
              refine wpAnyH_ready (rs := [4]) (by kernel_rfl) (by simp) ?_
              refine AllReadyH.cons rfl (fun K hK => ?_) (AllReadyH.nil)
              refine step_appN WrOk _ rfl _ _ rfl (n + 3) _ (wrdsI s (4 + kI s) j) (wrdI s (4 + kI s + 5 * j)) wa.heap.size 0 1 rfl rfl S.out.o2 (one_wrd NA.out) (by rw [wrdsI_len]; omega) (Nat.le_trans (Nat.le_refl _) S.out.few) ?_
              intro v6 w6 o6 g6
              obtain ⟨u6, n6, c6, rfl⟩ := o6.shape
              obtain ⟨S6, lc6, fc6⟩ := S.out.app2 g6 o6
              have S7 := hideP S6
              clear S6 o6 g6 NA S
              go_wp2_with fail
              refine hK.out _ _ trivial (fun hHeld => ?_)
              clear hK K
              refine wpAnyH_take (i := 5) (v := (.pointer (some ⟨n + 2, 3, none⟩))) rfl (by kernel_rfl) (by kernel_rfl) (by kernel_rfl) (fun _ _ _ h => h) (Or.inl ⟨by rfl, ?_⟩) hHeld ?_
              · (intro w hSw; (try dsimp only at hSw); go_simp)
              walk_nrm
              refine wpAnyH_ready (rs := [6]) (by kernel_rfl) (by simp) ?_
              refine AllReadyH.cons rfl (fun K hK => ?_) (AllReadyH.nil)
              go_simp
              refine hK.out _ _ trivial (fun hHeld => ?_)
              clear hK K
              refine wpAnyH_done (by kernel_rfl) ?_ _
              clear hHeld lc6 fc6
              go_wp2
              go_roundg (cI s - (j + 1))
              case rel => exact ⟨j + 1, _, by omega, by go_num, S7.out⟩
              case measure => omega
            · have al := (Below.refl wa.heap.size wa).alloc (Nat.le_refl _) (.cells #[.int .i64 (valI s (4 + kI s + 5 * j)), .int .i64 (valI s (4 + kI s + 5 * j + 1)), .int .i64 (valI s (4 + kI s + 5 * j + 2)), .int .i64 (valI s (4 + kI s + 5 * j + 3)), .int .i64 (valI s (4 + kI s + 5 * j + 4))] 69)
              have NA := hideP (newR wa (.cells #[.int .i64 (valI s (4 + kI s + 5 * j)), .int .i64 (valI s (4 + kI s + 5 * j + 1)), .int .i64 (valI s (4 + kI s + 5 * j + 2)), .int .i64 (valI s (4 + kI s + 5 * j + 3)), .int .i64 (valI s (4 + kI s + 5 * j + 4))] 69))
              replace S := hideP (S.out.stays al)
              clear al
              go_simp
              refine hK.out _ _ trivial (fun hHeld => ?_)
              clear hK K
              refine wpAnyH_ready (rs := [1]) (by kernel_rfl) (by simp) ?_
              refine AllReadyH.cons rfl (fun K hK => ?_) (AllReadyH.nil)
              have lc := (cells_of S.out.im).1 3
              simp at lc
              go_simp
              refine hK.out _ _ trivial (fun hHeld => ?_)
              clear hK K
              clear lc
              refine wpAnyH_ready (rs := [4]) (by kernel_rfl) (by simp) ?_
              refine AllReadyH.cons rfl (fun K hK => ?_) (AllReadyH.nil)
              refine step_appN WrOk _ rfl _ _ rfl (n + 3) _ (wrdsI s (4 + kI s) j) (wrdI s (4 + kI s + 5 * j)) wa.heap.size 0 1 rfl rfl S.out.o2 (one_wrd NA.out) (by rw [wrdsI_len]; omega) (Nat.le_trans (Nat.le_refl _) S.out.few) ?_
              intro v6 w6 o6 g6
              obtain ⟨u6, n6, c6, rfl⟩ := o6.shape
              obtain ⟨S6, lc6, fc6⟩ := S.out.app2 g6 o6
              have S7 := hideP S6
              clear S6 o6 g6 NA S
              go_wp2_with fail
              refine hK.out _ _ trivial (fun hHeld => ?_)
              clear hK K
              refine wpAnyH_take (i := 5) (v := (.pointer (some ⟨n + 2, 3, none⟩))) rfl (by kernel_rfl) (by kernel_rfl) (by kernel_rfl) (fun _ _ _ h => h) (Or.inl ⟨by rfl, ?_⟩) hHeld ?_
              · (intro w hSw; (try dsimp only at hSw); go_simp)
              walk_nrm
              refine wpAnyH_ready (rs := [6]) (by kernel_rfl) (by simp) ?_
              refine AllReadyH.cons rfl (fun K hK => ?_) (AllReadyH.nil)
              go_simp
              refine hK.out _ _ trivial (fun hHeld => ?_)
              clear hK K
              refine wpAnyH_done (by kernel_rfl) ?_ _
              clear hHeld lc6 fc6
              go_wp2
              go_roundg (cI s - (j + 1))
              case rel => exact ⟨j + 1, _, by omega, by go_num, S7.out⟩
              case measure => omega
        · have hjk : j = cI s := by omega
          subst hjk
          have hnm : ¬ ((cI s : Nat) : Int) < M2 := by have := hNk.out; omega
          have S := hideP hS.out
          clear hS
          obtain ⟨us, cs, rfl, hI⟩ := S.out.o1.ints
          obtain ⟨uc, cc, rfl, hW⟩ := S.out.o2.wrds (wrdsI_wf _ _ _)
          obtain ⟨l1, h1⟩ : ∃ l, valsI s 1 (kI s) = l := ⟨_, rfl⟩
          obtain ⟨l2, h2⟩ : ∃ l, wrdsI s (4 + kI s) (cI s) = l := ⟨_, rfl⟩
          have PI : Hid (pI s = ⟨l1, p, q, l2⟩) := by show _ = _; rw [← h1, ← h2, ← HP.out, ← HQ.out]; rfl
          rw [h1] at hI S
          rw [h2] at hW S
          try simp only [h1, h2]
          clear h1 h2
          have IM : Hid (ImgIs wr (n + 3) #[.slice us l1.length cs, .int .i64 p, .int .i64 q, .slice uc l2.length cc] ⟨l1, p, q, l2⟩) := ⟨us, cs, uc, cc, rfl, by have := pI_wf s; rw [PI.out] at this; exact this, hI, hW⟩
          clear hI hW
          obtain ⟨y, hy⟩ : ∃ y, imgOk ⟨l1, p, q, l2⟩ = y := ⟨_, rfl⟩
          have HY := hideP hy
          have CY := hideP (GO ⟨l1, p, q, l2⟩ wr (n + 3) _ IM.out)
          rw [hy] at CY
          have hn3 := S.out.few
          have c0 := (cells_of S.out.im).1 0
          have c1 := (cells_of S.out.im).1 1
          have c2 := (cells_of S.out.im).1 2
          have c3 := (cells_of S.out.im).1 3
          simp at c0 c1 c2 c3
          clear hy
          go_upto_region 13 with fail
          cases y
          · have E : Hid (okI s = false) := by show _ = _; unfold okI; rw [PI.out, HY.out]; rfl
            go_wp2_with fail
            refine CY.out.mono ?_
            rintro e2 w2 ⟨rfl, b2⟩
            have S2 := hideP (S.out.stays b2)
            clear c0 c1 c2 c3 b2 S CY
            go_upto_region 14 with fail
            have hz0 : ¬ (0 = n) := by have := lt_of_cell HEV.out; omega
            have hz1 : ¬ (n = 0) := fun e => hz0 e.symm
            have ce : w2.cell? ⟨0, 0, none⟩ = some ev := ((below_n S2.out.bel HNN.out).cell (p := ⟨0, 0, none⟩) (lt_of_cell HEV.out)).trans HEV.out
            have r0 := (cells_of S2.out.rs).1 0
            have r1 := (cells_of S2.out.rs).1 1
            have r2 := (cells_of S2.out.rs).1 2
            have r3 := (cells_of S2.out.rs).1 3
            have f0 := (cells_of S2.out.rs).2
            simp [zC] at r0 r1 r2 r3
            have pb := put4_but w2.drew n (.slice none 0 0) (.int .i64 0) (.int .i64 0) (.slice none 0 0)
            have P2 := hideP (put4_box (W := w2.drew) S2.out.rs (.slice none 0 0) (.int .i64 0) (.int .i64 0) (.slice none 0 0))
            have BE := hideP (S2.out.bel.drew.trans (pb.below (Nat.le_refl _) (by have := S2.out.few; show n ≤ w2.heap.size; omega)))
            clear pb
            go_region
            all_goals (go_wp2; refine bodyPost_ret (results_cell_row2 rfl _ _ n zC rfl (run_loadVar_row _ n _ _ _ (0, 0) _ P2.out Tryd.underlying32 rfl (by kernel_rfl)) ev rfl) rfl ?_; exact Or.inr ⟨E.out, rfl, by rw [HNN.out]; exact BE.out⟩)
          · go_wp2_with fail
            refine CY.out.mono ?_
            rintro e2 w2 ⟨rfl, b2⟩
            have S2 := hideP (S.out.stays b2)
            have IM2 := hideP (ImgKeeps.stays IM.out b2)
            clear c0 c1 c2 c3 b2 S CY IM
            have c0 := (cells_of S2.out.im).1 0
            have c1 := (cells_of S2.out.im).1 1
            have c2 := (cells_of S2.out.im).1 2
            have c3 := (cells_of S2.out.im).1 3
            simp at c0 c1 c2 c3
            go_wp2_with fail
            refine (impl_putImage ⟨l1, p, q, l2⟩ w2 (n + 3) _ IM2.out (GO _)).mono ?_
            rintro e3 w3 ⟨rfl, b3⟩
            replace S2 := hideP (S2.out.stays b3)
            clear c0 c1 c2 c3 b3 IM2
            obtain ⟨P, hP⟩ : ∃ P, putS ⟨l1, p, q, l2⟩ = P := ⟨_, rfl⟩
            rw [hP]
            by_cases hps : P = s
            · have E : Hid (okI s = true) := by show _ = _; unfold okI; rw [PI.out, HY.out, hP, hps]; simp
              have LNS : Hid (1 ≤ l1.length ∧ l1.length ≤ 4 ∧ 1 ≤ l2.length ∧ l2.length ≤ 6000) := imgOk_lens HY.out
              clear hP
              subst hps
              have HO1 := hideP (S2.out.o1.ownI (fun e => by have := LNS.out.1; rw [e] at this; simp at this))
              have HO2 := hideP (S2.out.o2.own (fun e => by have := LNS.out.2.2.1; rw [e] at this; simp at this))
              obtain ⟨gs, ks, hv1, _⟩ := id HO1.out
              obtain ⟨gc, kc, hv2, _⟩ := id HO2.out
              cases hv1
              cases hv2
              have c0 := (cells_of S2.out.im).1 0
              have c1 := (cells_of S2.out.im).1 1
              have c2 := (cells_of S2.out.im).1 2
              have c3 := (cells_of S2.out.im).1 3
              have r0 := (cells_of S2.out.rs).1 0
              have r1 := (cells_of S2.out.rs).1 1
              have r2 := (cells_of S2.out.rs).1 2
              have r3 := (cells_of S2.out.rs).1 3
              have f0 := (cells_of S2.out.rs).2
              simp [zC] at c0 c1 c2 c3 r0 r1 r2 r3
              have pb := put4_but w3 n (.slice (some ⟨gs, 0, none⟩) l1.length cs) (.int .i64 p) (.int .i64 q) (.slice (some ⟨gc, 0, none⟩) l2.length cc)
              have P2 := hideP (put4_box S2.out.rs (.slice (some ⟨gs, 0, none⟩) l1.length cs) (.int .i64 p) (.int .i64 q) (.slice (some ⟨gc, 0, none⟩) l2.length cc))
              have BE := hideP (S2.out.bel.trans (pb.below (Nat.le_refl _) (by have := S2.out.few; omega)))
              have N1 := hideP (HO1.out.butG pb (by intro e; have e1 := own_blk e; have := (S2.out.o1.low gs rfl).1; omega))
              have N2 := hideP (HO2.out.butG pb (by intro e; have e1 := own_blk e; have := (S2.out.o2.low gc rfl).1; omega))
              clear pb HO1 HO2
              go_wp2
              refine bodyPost_ret (results_cell_row2 rfl _ _ n #[.slice (some ⟨gs, 0, none⟩) l1.length cs, .int .i64 p, .int .i64 q, .slice (some ⟨gc, 0, none⟩) l2.length cc] rfl (run_loadVar_row _ n _ _ _ (0, 0) _ P2.out Tryd.underlying32 rfl (by kernel_rfl)) .nilIface rfl) rfl ?_
              refine Or.inl ⟨E.out, gs, cs, gc, cc, ?_, ?_, ?_, ?_⟩
              · rw [PI.out]
              · rw [PI.out, HNN.out]; exact N1.out.mono (by omega)
              · rw [PI.out, HNN.out]; exact N2.out.mono (by omega)
              · rw [HNN.out]; exact BE.out
            · have E : Hid (okI s = false) := by show _ = _; unfold okI; rw [PI.out, hP, decide_eq_false hps, Bool.and_false]
              have hps2 := hideP hps
              have hps5 := txt_neR hps
              go_wp2_with fail
              have hz0 : ¬ (0 = n) := by have := lt_of_cell HEV.out; omega
              have hz1 : ¬ (n = 0) := fun e => hz0 e.symm
              have ce : w3.cell? ⟨0, 0, none⟩ = some ev := ((below_n S2.out.bel HNN.out).cell (p := ⟨0, 0, none⟩) (lt_of_cell HEV.out)).trans HEV.out
              have r0 := (cells_of S2.out.rs).1 0
              have r1 := (cells_of S2.out.rs).1 1
              have r2 := (cells_of S2.out.rs).1 2
              have r3 := (cells_of S2.out.rs).1 3
              have f0 := (cells_of S2.out.rs).2
              simp [zC] at r0 r1 r2 r3
              have pb := put4_but w3.drew n (.slice none 0 0) (.int .i64 0) (.int .i64 0) (.slice none 0 0)
              have P2 := hideP (put4_box (W := w3.drew) S2.out.rs (.slice none 0 0) (.int .i64 0) (.int .i64 0) (.slice none 0 0))
              have BE := hideP (S2.out.bel.drew.trans (pb.below (Nat.le_refl _) (by have := S2.out.few; show n ≤ w3.heap.size; omega)))
              clear pb
              go_region
              all_goals (go_wp2; refine bodyPost_ret (results_cell_row2 rfl _ _ n zC rfl (run_loadVar_row _ n _ _ _ (0, 0) _ P2.out Tryd.underlying32 rfl (by kernel_rfl)) ev rfl) rfl ?_; exact Or.inr ⟨E.out, rfl, by rw [HNN.out]; exact BE.out⟩)
end Go.Proofs.YtehccknppnmbkaaDoor
