/- The contract of spec.PutImage (written by wip/mkpus.py). -/
import Derived.Test.YtehccknppnmbkaaDoorPuI
namespace Go.Proofs.YtehccknppnmbkaaDoor
open Go.ChangeShapes Go.WideShapes Go.ChangeAt Go.RowKit
theorem spec_sum' (s : ByteArray) (w : World) (hs : s.size ≤ 1048576) (T : Int) (hT : sumL s.data.toList = T) :
    Calls Tryd.prog 55 #[.string s] w fun e w' => e = .returned (.int .u32 T) ∧ w' = w := by rw [← hT]; exact spec_sum s w hs
set_option maxHeartbeats 16000000 in
set_option maxRecDepth 100000 in
theorem spec_putImage (m : Img) (w : World) (B : Nat) (v : Array Value) (h : ImgIs w B v m) (GO : ImOk 38 m) :
    Calls Tryd.prog 35 #[.agg v] w fun en w' => en = .returned (.string (putS m)) ∧ Below w.heap.size w w' := by
  obtain ⟨y, hy⟩ : ∃ y, imgOk m = y := ⟨_, rfl⟩
  have CY : Hid (∀ W, Below w.heap.size w W → Calls Tryd.prog 38 #[.agg v] W fun en w' => en = .returned (.bool y) ∧ Below W.heap.size W w') := fun W hW => by rw [← hy]; exact GO W B v (ImgKeeps.stays h hW)
  have HN : Hid (y = true → m.code.length ≤ 6000) := fun e => (imgOk_few (by rw [hy]; exact e)).1
  have HS : Hid (y = true → m.sizes.length ≤ 4) := fun e => imgOk_sizes (by rw [hy]; exact e)
  have EP : Hid (putS m = if y = true then strB (numsL (imgN m) ++ numL (sumN (numsL (imgN m)))) else ⟨#[]⟩) := by show _ = _; unfold putS putL; rw [hy]
  obtain ⟨P, hP⟩ : ∃ P, putS m = P := ⟨_, rfl⟩
  rw [hP] at EP ⊢
  clear hy hP GO
  obtain ⟨sizes, params, slots, code⟩ := m
  obtain ⟨us, cs, ub, cb, rfl, _, ha, hb⟩ := h
  simp only at *
  have hm := maxLen_lt
  have hl := hb.1
  have HA := hideP ha
  have HB := hideP hb
  clear hb ha
  have AL : Hid (Below w.heap.size w (w.alloc (.cells #[.slice us sizes.length cs, .int .i64 params, .int .i64 slots, .slice ub code.length cb] 32))) := (Below.refl _ _).alloc (Nat.le_refl _) _
  have BX1 := hideP (newU w (.cells #[.slice us sizes.length cs, .int .i64 params, .int .i64 slots, .slice ub code.length cb] 32))
  go_enter Tryd.func35, Tryd.ntmps35
  go_wp2_with fail
  refine (CY.out _ AL.out).mono ?_
  rintro e1 w1 ⟨rfl, b1⟩
  have BB := hideP (below_trans AL.out b1)
  have BX := hideP (keepW BX1.out b1)
  clear b1 BX1 AL
  cases y
  · go_wp2
    go_ret
    exact ⟨ret_str (by rw [EP.out, if_neg (by simp)]), BB.out⟩
  · have hn6 := HN.out rfl
    have hs4 := HS.out rfl
    have E2 : Hid (P = strB (numsL (imgN ⟨sizes, params, slots, code⟩) ++ numL (sumN (numsL (imgN ⟨sizes, params, slots, code⟩))))) := by show _ = _; rw [EP.out, if_pos rfl]
    clear EP HN HS CY
    have p0 := (cells_of BX.out).1 0
    simp at p0
    go_wp2_with fail
    refine (l14Num_any (sizes.length : Int) w1).mono ?_
    rintro e2 w2 ⟨v2, rfl, o2, b2⟩
    have K2 : Hid (KpU w1.heap.size w1 w2) := KpU.of_below b2
    have O2 := hideP o2
    clear o2 b2 p0
    go_wp2
    go_loopg [3, 4] sizes.length (fun gk x i wr => ∃ (j : Nat), gk + j = sizes.length ∧ i = .int .i64 j ∧ Hid (OwnB wr w1.heap.size x (numsL ([((sizes.length : Nat) : Int)] ++ sizes.take j))) ∧ Hid (KpU w1.heap.size w1 wr))
    case atStart => exact ⟨0, by simp, rfl, by rw [show numsL ([((sizes.length : Nat) : Int)] ++ sizes.take 0) = numL (sizes.length : Nat) by simp [numsL]]; exact O2.out, K2.out⟩
    case round =>
      obtain ⟨j, hj, rfl, ho, hk⟩ := hrel
      clear O2 K2
      have BW := hideP (below_trans BB.out (hk.out.below (Nat.le_refl _)))
      have hD : w1.heap.size ≤ wr.heap.size := hk.out.size
      have BXr := hideP (keepW BX.out (hk.out.below (Nat.le_refl _)))
      have q0 := (cells_of BXr.out).1 0
      simp at q0
      by_cases hlt : j < sizes.length
      · obtain ⟨b, o, rfl, _, hbb, c0⟩ := (HA.out.stays BW.out).get j hlt
        have UP := hideP (take_numsL [((sizes.length : Nat) : Int)] sizes j hlt _ rfl)
        have hlen : (numsL ([((sizes.length : Nat) : Int)] ++ sizes.take j)).length ≤ 100 := by rw [numsL_len]; simp; omega
        obtain ⟨z, hz⟩ : ∃ z, sizes[j] = z := ⟨_, rfl⟩
        obtain ⟨L, hL⟩ : ∃ L, numsL ([((sizes.length : Nat) : Int)] ++ sizes.take j) = L := ⟨_, rfl⟩
        rw [hz] at c0 UP
        rw [hL] at ho UP hlen
        clear hz hL
        obtain ⟨gL, cL, rfl, _⟩ := id ho.out
        go_wp2_with fail
        refine (l14Num_any z _).mono ?_
        rintro e3 w3 ⟨v3, rfl, o3, b3⟩
        have OC := hideP (ho.out.stays b3)
        have KC := hideP (hk.out.trans (KpU.of_below b3))
        obtain ⟨NZ, hNZ⟩ : ∃ l, numL z = l := ⟨_, rfl⟩
        have EZ := hideP hNZ
        have H8 : Hid (NZ.length = 8) := by rw [← hNZ]; exact numL_len _
        rw [hNZ] at o3
        obtain ⟨g3, c3, rfl, _⟩ := id o3
        have A3 := hideP o3.at
        have hD3 : w1.heap.size ≤ w3.heap.size := Nat.le_trans hD b3.size
        clear hNZ o3 b3
        go_wp2_with (at_builtin; refine list_appB _ rfl _ _ rfl w1.heap.size _ L NZ g3 0 _ c3 rfl rfl rfl OC.out A3.out (by have := H8.out; omega) hD3 ?_; intro v6 w6 o6 grow6 _; have K6 := hideP (KC.out.trans (KpU.grown OC.out grow6)))
        rw [← EZ.out] at o6
        have O6 := hideP o6
        clear o6 grow6 OC KC A3 hD3 EZ H8
        go_wp2
        go_roundg (sizes.length - (j + 1))
        case rel => exact ⟨j + 1, by omega, by go_num, by rw [UP.out]; exact O6.out, K6.out⟩
        case measure => omega
      · have hjn : j = sizes.length := by omega
        subst hjn
        rw [List.take_length] at ho
        have q1 := (cells_of BXr.out).1 1
        simp at q1
        obtain ⟨L, hL⟩ : ∃ L, numsL ([((sizes.length : Nat) : Int)] ++ sizes) = L := ⟨_, rfl⟩
        have hlen : L.length ≤ 40 := by rw [← hL, numsL_len]; simp; omega
        have E5 := hideP hL
        rw [hL] at ho
        clear hL
        obtain ⟨gL, cL, rfl, _⟩ := id ho.out
        go_wp2_with fail
        refine (l14Num_any params _).mono ?_
        rintro e3 w3 ⟨v3, rfl, o3, b3⟩
        have OC := hideP (ho.out.stays b3)
        have KC := hideP (hk.out.trans (KpU.of_below b3))
        obtain ⟨NZ, hNZ⟩ : ∃ l, numL params = l := ⟨_, rfl⟩
        have EZ := hideP hNZ
        have H8 : Hid (NZ.length = 8) := by rw [← hNZ]; exact numL_len _
        rw [hNZ] at o3
        obtain ⟨g3, c3, rfl, _⟩ := id o3
        have A3 := hideP o3.at
        have hD3 : w1.heap.size ≤ w3.heap.size := Nat.le_trans hD b3.size
        clear hNZ o3 b3
        go_wp2_with (at_builtin; refine list_appB _ rfl _ _ rfl w1.heap.size _ L NZ g3 0 _ c3 rfl rfl rfl OC.out A3.out (by have := H8.out; omega) hD3 ?_; intro v6 w6 o6 grow6 _; have K6 := hideP (KC.out.trans (KpU.grown OC.out grow6)); have q2 := (cells_of (keepW BX.out (K6.out.below (Nat.le_refl _)))).1 2; simp at q2)
        rw [← EZ.out] at o6
        have O6 := hideP o6
        clear o6 grow6 OC KC A3 hD3 EZ H8
        clear q0 q1 ho hk BW hD
        have hD : w1.heap.size ≤ w6.heap.size := K6.out.size
        obtain ⟨LP, hLP⟩ : ∃ l, L ++ numL params = l := ⟨_, rfl⟩
        have ELP := hideP hLP
        have hlenLP : LP.length ≤ 48 := by rw [← hLP, List.length_append, numL_len]; omega
        rw [hLP] at O6
        have ho := O6
        have hk := K6
        clear hLP O6 K6
        obtain ⟨gL, cL, rfl, _⟩ := id ho.out
        go_wp2_with fail
        refine (l14Num_any slots _).mono ?_
        rintro e3 w3 ⟨v3, rfl, o3, b3⟩
        have OC := hideP (ho.out.stays b3)
        have KC := hideP (hk.out.trans (KpU.of_below b3))
        obtain ⟨NZ, hNZ⟩ : ∃ l, numL slots = l := ⟨_, rfl⟩
        have EZ := hideP hNZ
        have H8 : Hid (NZ.length = 8) := by rw [← hNZ]; exact numL_len _
        rw [hNZ] at o3
        obtain ⟨g3, c3, rfl, _⟩ := id o3
        have A3 := hideP o3.at
        have hD3 : w1.heap.size ≤ w3.heap.size := Nat.le_trans hD b3.size
        clear hNZ o3 b3
        go_wp2_with (at_builtin; refine list_appB _ rfl _ _ rfl w1.heap.size _ LP NZ g3 0 _ c3 rfl rfl rfl OC.out A3.out (by have := H8.out; omega) hD3 ?_; intro v6 w6 o6 grow6 _; have K6 := hideP (KC.out.trans (KpU.grown OC.out grow6)); have q3 := (cells_of (keepW BX.out (K6.out.below (Nat.le_refl _)))).1 3; simp at q3)
        rw [← EZ.out] at o6
        have O6 := hideP o6
        clear o6 grow6 OC KC A3 hD3 EZ H8
        clear q2 ho hk hD
        have hD : w1.heap.size ≤ w6.heap.size := K6.out.size
        obtain ⟨LS, hLS⟩ : ∃ l, LP ++ numL slots = l := ⟨_, rfl⟩
        have ELS := hideP hLS
        have hlenLS : LS.length ≤ 56 := by rw [← hLS, List.length_append, numL_len]; omega
        rw [hLS] at O6
        have ho := O6
        have hk := K6
        clear hLS O6 K6
        obtain ⟨gL, cL, rfl, _⟩ := id ho.out
        go_wp2_with fail
        refine (l14Num_any (code.length : Int) _).mono ?_
        rintro e3 w3 ⟨v3, rfl, o3, b3⟩
        have OC := hideP (ho.out.stays b3)
        have KC := hideP (hk.out.trans (KpU.of_below b3))
        obtain ⟨NZ, hNZ⟩ : ∃ l, numL (code.length : Int) = l := ⟨_, rfl⟩
        have EZ := hideP hNZ
        have H8 : Hid (NZ.length = 8) := by rw [← hNZ]; exact numL_len _
        rw [hNZ] at o3
        obtain ⟨g3, c3, rfl, _⟩ := id o3
        have A3 := hideP o3.at
        have hD3 : w1.heap.size ≤ w3.heap.size := Nat.le_trans hD b3.size
        clear hNZ o3 b3
        go_wp2_with (at_builtin; refine list_appB _ rfl _ _ rfl w1.heap.size _ LS NZ g3 0 _ c3 rfl rfl rfl OC.out A3.out (by have := H8.out; omega) hD3 ?_; intro v6 w6 o6 grow6 _; have K6 := hideP (KC.out.trans (KpU.grown OC.out grow6)))
        rw [← EZ.out] at o6
        have O6 := hideP o6
        clear o6 grow6 OC KC A3 hD3 EZ H8
        have HO : Hid (OwnB w6 w1.heap.size v6 (numsL (headN ⟨sizes, params, slots, code⟩ ++ wrdsN (code.take 0)))) := by
          have e : numsL (headN ⟨sizes, params, slots, code⟩ ++ wrdsN (code.take 0)) = LS ++ numL (code.length : Nat) := by
            rw [← ELS.out, ← ELP.out, ← E5.out]
            have e2 : headN ⟨sizes, params, slots, code⟩ ++ wrdsN (code.take 0) = ((([((sizes.length : Nat) : Int)] ++ sizes) ++ [params]) ++ [slots]) ++ [((code.length : Nat) : Int)] := by simp [headN, wrdsN]
            rw [e2, numsL_app, numsL_app, numsL_app]
          show OwnB _ _ _ _
          rw [e]; exact O6.out
        have HK := hideP K6.out
        have hHL : Hid ((headN ⟨sizes, params, slots, code⟩).length ≤ 10) := by show _ ≤ _; simp [headN]; omega
        obtain ⟨HN, hHN⟩ : ∃ l, headN ⟨sizes, params, slots, code⟩ = l := ⟨_, rfl⟩
        have E3 : Hid (imgN ⟨sizes, params, slots, code⟩ = HN ++ wrdsN code) := by show _ = _; rw [← hHN]; rfl
        rw [hHN] at HO hHL
        clear ho hk hHN q3 O6 K6 ELS ELP E5 BXr hD
        go_loopg [3, 5] code.length (fun gk x i wr => ∃ (j : Nat), gk + j = code.length ∧ i = .int .i64 j ∧ Hid (OwnB wr w1.heap.size x (numsL (HN ++ wrdsN (code.take j)))) ∧ Hid (KpU w1.heap.size w1 wr))
        case atStart => exact ⟨0, by omega, rfl, HO.out, HK.out⟩
        case round =>
          obtain ⟨j, hj, rfl, ho, hk⟩ := hrel
          clear HO HK
          have BW := hideP (below_trans BB.out (hk.out.below (Nat.le_refl _)))
          have hD : w1.heap.size ≤ wr.heap.size := hk.out.size
          have BXr := hideP (keepW BX.out (hk.out.below (Nat.le_refl _)))
          have q3 := (cells_of BXr.out).1 3
          simp at q3
          by_cases hlt : j < code.length
          · obtain ⟨b, o, y0, y1, y2, y3, y4, rfl, _, hbi, hy, r0, r1, r2, r3, r4, _⟩ := Wrd_get (HB.out.stays WrdKeeps BW.out) j hlt
            have UP := hideP (wrdsN_take code j hlt _ hy)
            have UP0 : Hid (HN ++ wrdsN (code.take (j + 1)) = HN ++ wrdsN (code.take j) ++ [y0, y1, y2, y3, y4]) := by show _ = _; rw [UP.out, ← List.append_assoc]; rfl
            have hlen : (HN ++ wrdsN (code.take j)).length ≤ 40000 := by have := hHL.out; rw [List.length_append, wrdsN_len, List.length_take]; omega
            obtain ⟨M, hM⟩ : ∃ M, HN ++ wrdsN (code.take j) = M := ⟨_, rfl⟩
            rw [hM] at ho UP0 hlen
            have al5 := (Below.refl wr.heap.size wr).alloc (Nat.le_refl _) (.cells #[.int .i64 y0, .int .i64 y1, .int .i64 y2, .int .i64 y3, .int .i64 y4] 69)
            have X5 := hideP (newU wr (.cells #[.int .i64 y0, .int .i64 y1, .int .i64 y2, .int .i64 y3, .int .i64 y4] 69))
            obtain ⟨W5, hW5⟩ : ∃ W, wr.alloc (.cells #[.int .i64 y0, .int .i64 y1, .int .i64 y2, .int .i64 y3, .int .i64 y4] 69) = W := ⟨_, rfl⟩
            have hz5 : W5.heap.size = wr.heap.size + 1 := by rw [← hW5]; simp
            rw [hW5] at al5 X5
            have x0 := (cells_of X5.out).1 0
            have x1 := (cells_of X5.out).1 1
            have x2 := (cells_of X5.out).1 2
            have x3 := (cells_of X5.out).1 3
            have x4 := (cells_of X5.out).1 4
            simp at x0 x1 x2 x3 x4
            have al6 := (Below.refl W5.heap.size W5).alloc (Nat.le_refl _) (.cells #[.int .i64 y0, .int .i64 y1, .int .i64 y2, .int .i64 y3, .int .i64 y4] 3)
            have LI := hideP (own_lit W5 [y0, y1, y2, y3, y4] #[.int .i64 y0, .int .i64 y1, .int .i64 y2, .int .i64 y3, .int .i64 y4] W5.heap.size 5 rfl rfl rfl (by simp))
            have O7 := hideP ((ho.out.stays al5).stays al6)
            have K7 := hideP ((hk.out.trans (KpU.of_below al5)).trans (KpU.of_below al6))
            obtain ⟨lit, hlit⟩ : ∃ l, [y0, y1, y2, y3, y4] = l := ⟨_, rfl⟩
            have hl5 : lit.length = 5 := by rw [← hlit]; rfl
            rw [hlit] at LI UP0
            obtain ⟨g5, hg5⟩ : ∃ g, W5.heap.size = g := ⟨_, rfl⟩
            have HG := hideP hg5
            clear al5 al6 ho hk BW hlit hg5 hz5 hM UP X5 hy BXr hD
            go_wp2
            clear x0 x1 x2 x3 x4 r0 r1 r2 r3 r4 hW5 q3
            rw [HG.out]
            rw [HG.out] at LI
            clear HG
            go_loopg [3, 8] 5 (fun gk x i wr => ∃ (q : Nat), gk + q = 5 ∧ i = .int .i64 q ∧ Hid (OwnB wr w1.heap.size x (numsL (M ++ lit.take q))) ∧ Hid (OwnI wr g5 (.slice (some ⟨g5, 0, none⟩) 5 5) lit) ∧ Hid (KpU w1.heap.size w1 wr))
            case atStart => exact ⟨0, rfl, rfl, by rw [List.take_zero, List.append_nil]; exact O7.out, LI.out, K7.out⟩
            case round =>
              obtain ⟨q, hq, rfl, ho, hi, hk⟩ := hrel
              clear O7 K7 LI
              have hD : w1.heap.size ≤ wr.heap.size := hk.out.size
              by_cases hlq : q < 5
              · have c0 := hi.out.at q (by omega)
                rw [Nat.zero_add] at c0
                have hgl : g5 < wr.heap.size := (hi.out.low g5 rfl).2
                have UP := hideP (take_numsL M lit q (by omega) _ rfl)
                have hlen2 : (numsL (M ++ lit.take q)).length ≤ 500000 := by rw [numsL_len]; simp; omega
                obtain ⟨z, hz⟩ : ∃ z, lit[q] = z := ⟨_, rfl⟩
                obtain ⟨L, hL⟩ : ∃ L, numsL (M ++ lit.take q) = L := ⟨_, rfl⟩
                rw [hz] at c0 UP
                rw [hL] at ho UP hlen2
                clear hz hL
                obtain ⟨gL, cL, rfl, _⟩ := id ho.out
                go_wp2_with fail
                refine (l14Num_any z _).mono ?_
                rintro e3 w3 ⟨v3, rfl, o3, b3⟩
                have OC := hideP (ho.out.stays b3)
                have KC := hideP (hk.out.trans (KpU.of_below b3))
                obtain ⟨NZ, hNZ⟩ : ∃ l, numL z = l := ⟨_, rfl⟩
                have EZ := hideP hNZ
                have H8 : Hid (NZ.length = 8) := by rw [← hNZ]; exact numL_len _
                rw [hNZ] at o3
                obtain ⟨g3, c3, rfl, _⟩ := id o3
                have A3 := hideP o3.at
                have hD3 : w1.heap.size ≤ w3.heap.size := Nat.le_trans hD b3.size
                clear hNZ o3
                go_wp2_with (at_builtin; refine list_appB _ rfl _ _ rfl w1.heap.size _ L NZ g3 0 _ c3 rfl rfl rfl OC.out A3.out (by have := H8.out; omega) hD3 ?_; intro v6 w6 o6 grow6 _; have K6 := hideP (KC.out.trans (KpU.grown OC.out grow6)))
                rw [← EZ.out] at o6
                have O6 := hideP o6
                have I6 := hideP ((hi.out.stays b3).kpu (KpU.grown OC.out grow6))
                clear o6 grow6 b3 OC KC A3 hD3 EZ H8
                go_wp2
                go_roundg (5 - (q + 1))
                case rel => exact ⟨q + 1, by omega, by go_num, by rw [UP.out]; exact O6.out, I6.out, K6.out⟩
                case measure => omega
              · have hqn : q = 5 := by omega
                subst hqn
                rw [show lit.take 5 = lit from List.take_of_length_le (by omega), ← UP0.out] at ho
                clear hi
                go_wp2
                go_roundg (code.length - (j + 1))
                case rel => exact ⟨j + 1, by omega, by go_num, ho.out, hk.out⟩
                case measure => omega
          · have hjn : j = code.length := by omega
            subst hjn
            rw [List.take_length, ← E3.out] at ho
            have hlen : (numsL (imgN ⟨sizes, params, slots, code⟩)).length ≤ 400000 := by rw [numsL_len, imgN_len]; simp only; omega
            obtain ⟨N, hN⟩ : ∃ N, numsL (imgN ⟨sizes, params, slots, code⟩) = N := ⟨_, rfl⟩
            rw [hN] at ho E2 hlen
            have hzN : (strB N).size ≤ 1048576 := by rw [strB_size]; omega
            obtain ⟨S, hS⟩ : ∃ S, strB N = S := ⟨_, rfl⟩
            have hs0 := sumL_low S.data.toList
            have hs1 := sumL_high S.data.toList
            have E4 : Hid (P = strB (N ++ numL (sumL S.data.toList))) := by show _ = _; rw [E2.out, ← hS]; rfl
            obtain ⟨T, hT⟩ : ∃ T, sumL S.data.toList = T := ⟨_, rfl⟩
            obtain ⟨g, c, rfl, _⟩ := id ho.out
            have CV := own_text ho.out
            rw [hS] at CV hzN
            have SM := hideP (spec_sum S wr hzN)
            rw [hT] at SM hs0 hs1 E4
            clear hN hS hT E2 E3
            go_wp2_with fail
            refine SM.out.mono ?_
            rintro e5 w5 ⟨rfl, rfl⟩
            clear CV
            go_wp2_with fail
            refine (l14Num_any T _).mono ?_
            rintro e3 w3 ⟨v3, rfl, o3, b3⟩
            have OC := hideP (ho.out.stays b3)
            have KC := hideP (hk.out.trans (KpU.of_below b3))
            obtain ⟨NZ, hNZ⟩ : ∃ l, numL T = l := ⟨_, rfl⟩
            have EZ := hideP hNZ
            have H8 : Hid (NZ.length = 8) := by rw [← hNZ]; exact numL_len _
            rw [hNZ] at o3
            obtain ⟨g3, c3, rfl, _⟩ := id o3
            have A3 := hideP o3.at
            have hD3 : w1.heap.size ≤ w3.heap.size := Nat.le_trans hD b3.size
            clear hNZ o3 b3
            go_wp2_with (at_builtin; refine list_appB _ rfl _ _ rfl w1.heap.size _ N NZ g3 0 _ c3 rfl rfl rfl OC.out A3.out (by have := H8.out; omega) hD3 ?_; intro v6 w6 o6 grow6 _; have K6 := hideP (KC.out.trans (KpU.grown OC.out grow6)); rw [← EZ.out] at o6; obtain ⟨NT, hNT⟩ : ∃ l, N ++ numL T = l := ⟨_, rfl⟩; rw [hNT] at o6 E4; clear hNT; obtain ⟨g6, c6, rfl, _⟩ := id o6; have CW := own_text o6; have BE := hideP (below_trans BB.out (K6.out.below (Nat.le_refl _))); obtain ⟨Z, hZ⟩ : ∃ Z, strB NT = Z := ⟨_, rfl⟩; rw [hZ] at CW E4; clear o6 ho hk BW hZ grow6 OC KC A3 hD3 EZ H8)
            
            go_wp2
            go_ret
            exact ⟨ret_str E4.out.symm, BE.out⟩
end Go.Proofs.YtehccknppnmbkaaDoor
