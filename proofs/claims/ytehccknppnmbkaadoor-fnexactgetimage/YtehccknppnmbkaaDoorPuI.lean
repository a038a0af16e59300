/- The contract of impl.PutImage. -/
import Derived.Test.YtehccknppnmbkaaDoorPutN
import Derived.Test.YtehccknppnmbkaaDoorAimQ
import Derived.Test.YtehccknppnmbkaaDoorOwnInt
namespace Go.Proofs.YtehccknppnmbkaaDoor
open Go.ChangeShapes Go.WideShapes Go.ChangeAt Go.RowKit
theorem newU (w : World) (o : Obj) : (w.alloc o).heap[w.heap.size]? = some o := by show (w.heap.push o)[w.heap.size]? = _; exact Array.getElem?_push_size
theorem OwnI.kpu {w w' : World} {B D : Nat} {v : Value} {l : List Int} (h : OwnI w B v l) (k : KpU D w w') : OwnI w' B v l := by
  obtain ⟨g, cap, hv, hl, h0 | ⟨g', cap', cur, hv', hB', hh, hr⟩⟩ := h
  · exact ⟨g, cap, hv, hl, Or.inl h0⟩
  · exact ⟨g, cap, hv, hl, Or.inr ⟨g', cap', cur, hv', hB', k.box (by decide) hh, hr⟩⟩
theorem OwnB.kpu {w w' : World} {B : Nat} {v : Value} {l : List Int} (h : OwnB w B v l) (k : Below w.heap.size w w') : OwnB w' B v l := h.stays k
/-- Its bytes as a text. -/
theorem own_text {w : World} {B g n c : Nat} {l : List Int} (h : OwnB w B (.slice (some ⟨g, 0, none⟩) n c) l) :
    ∀ dst, Tryd.prog.underlying dst = some .string → (convert 97 dst (.slice (some ⟨g, 0, none⟩) n c)).run Tryd.prog w = .ok (.string (strB l)) w := by
  obtain ⟨g', cap', cur, hv, _⟩ := id h.parts
  have hn : n = l.length := by cases hv; rfl
  refine run_convert_bytes_arg w 97 5 Tryd.underlying97 Tryd.underlying5 g 0 n c l hn.symm fun i hi => ?_
  have := h.at i (by omega)
  rw [this]
  simp [List.getD, List.getElem?_eq_getElem (show i < l.length by omega)]
theorem imgOk_sizes {m : Img} (h : imgOk m = true) : m.sizes.length ≤ 4 := by
  unfold imgOk regOk at h
  simp only [Bool.and_eq_true, decide_eq_true_eq] at h
  exact h.1.1.1.1.1.1.2
theorem take_numsL (h l : List Int) (j : Nat) (hj : j < l.length) (x : Int) (e : l[j] = x) : numsL (h ++ l.take (j + 1)) = numsL (h ++ l.take j) ++ numL x := by
  rw [List.take_succ_eq_append_getElem hj, ← List.append_assoc, numsL_app, e]
theorem I64_len {n : Nat} (h : n ≤ 1000000) : I64 (n : Int) := by unfold I64; omega
set_option maxHeartbeats 16000000 in
set_option maxRecDepth 100000 in
theorem impl_putImage (m : Img) (w : World) (B : Nat) (v : Array Value) (h : ImgIs w B v m) (GO : ImOk 47 m) :
    Calls Tryd.prog 58 #[.agg v] w fun en w' => en = .returned (.string (putS m)) ∧ Below w.heap.size w w' := by
  obtain ⟨y, hy⟩ : ∃ y, imgOk m = y := ⟨_, rfl⟩
  have CY : Hid (∀ W, Below w.heap.size w W → Calls Tryd.prog 47 #[.agg v] W fun en w' => en = .returned (.bool y) ∧ Below W.heap.size W w') := fun W hW => by rw [← hy]; exact GO W B v (ImgKeeps.stays h hW)
  have HN : Hid (y = true → m.code.length ≤ 6000) := fun e => (imgOk_few (by rw [hy]; exact e)).1
  have HS : Hid (y = true → m.sizes.length ≤ 4) := fun e => imgOk_sizes (by rw [hy]; exact e)
  have EP : Hid (putS m = if y = true then strB (numsL (imgN m) ++ numL (sumN (numsL (imgN m)))) else ⟨#[]⟩) := by show _ = _; unfold putS putL; rw [hy]
  obtain ⟨P, hP⟩ : ∃ P, putS m = P := ⟨_, rfl⟩
  rw [hP] at EP ⊢
  clear hy hP GO
  obtain ⟨sizes, params, slots, code⟩ := m
  obtain ⟨us, cs, ub, cb, rfl, _, ha, hb⟩ := h
  simp only at *
  have hm := maxLen_lt
  have hl := hb.1
  have HA := hideP ha
  have HB := hideP hb
  clear hb ha
  have AL : Hid (Below w.heap.size w (w.alloc (.cells #[.slice us sizes.length cs, .int .i64 params, .int .i64 slots, .slice ub code.length cb] 32))) := (Below.refl _ _).alloc (Nat.le_refl _) _
  have BX1 := hideP (newU w (.cells #[.slice us sizes.length cs, .int .i64 params, .int .i64 slots, .slice ub code.length cb] 32))
  go_enter Tryd.func58, Tryd.ntmps58
  go_wp2_with fail
  refine (CY.out _ AL.out).mono ?_
  rintro e1 w1 ⟨rfl, b1⟩
  have BB := hideP (below_trans AL.out b1)
  have BX := hideP (keepW BX1.out b1)
  clear b1 BX1 AL
  cases y
  · go_wp2
    go_ret
    exact ⟨ret_str (by rw [EP.out, if_neg (by simp)]), BB.out⟩
  · have hn6 := HN.out rfl
    have hs4 := HS.out rfl
    have E2 : Hid (P = strB (numsL (imgN ⟨sizes, params, slots, code⟩) ++ numL (sumN (numsL (imgN ⟨sizes, params, slots, code⟩))))) := by show _ = _; rw [EP.out, if_pos rfl]
    clear EP HN HS CY
    have al1 := (Below.refl w1.heap.size w1).alloc (Nat.le_refl _) (.cells #[] 5)
    have O1 := hideP (own_litB w1 [] #[] w1.heap.size 0 rfl rfl rfl (by simp))
    have K1 : Hid (KpU w1.heap.size w1 (w1.alloc (.cells #[] 5))) := KpU.of_below al1
    have p0 := (cells_of (keepW BX.out al1)).1 0
    simp at p0
    clear al1
    go_wp2_with fail
    refine (putNumber_any (sizes.length : Int) [] _ w1.heap.size _ O1.out (by simp) (by simp)).mono ?_
    rintro e2 w2 ⟨v2, rfl, o2, k2⟩
    have K2 := hideP (K1.out.trans k2)
    have O2 := hideP o2
    have BX2 := hideP (k2.box (by decide) (keepW BX.out ((Below.refl w1.heap.size w1).alloc (Nat.le_refl _) (.cells #[] 5))))
    clear o2 k2 O1 K1 p0
    have q0 := (cells_of BX2.out).1 0
    simp at q0
    go_wp2
    clear q0
    go_loopg [3, 23] sizes.length (fun gk x i wr => ∃ (j : Nat), gk + j = sizes.length ∧ i = .int .i64 j ∧ Hid (OwnB wr w1.heap.size x (numsL ([((sizes.length : Nat) : Int)] ++ sizes.take j))) ∧ Hid (KpU w1.heap.size w1 wr))
    case atStart => exact ⟨0, by simp, rfl, by rw [show numsL ([((sizes.length : Nat) : Int)] ++ sizes.take 0) = [] ++ numL (sizes.length : Nat) by simp [numsL]]; exact O2.out, K2.out⟩
    case round =>
      obtain ⟨j, hj, rfl, ho, hk⟩ := hrel
      clear O2 K2 BX2
      have BW := hideP (below_trans BB.out (hk.out.below (Nat.le_refl _)))
      have hD : w1.heap.size ≤ wr.heap.size := hk.out.size
      by_cases hlt : j < sizes.length
      · obtain ⟨b, o, rfl, _, hbb, c0⟩ := (HA.out.stays BW.out).get j hlt
        have UP := hideP (take_numsL [((sizes.length : Nat) : Int)] sizes j hlt _ rfl)
        have hlen : (numsL ([((sizes.length : Nat) : Int)] ++ sizes.take j)).length ≤ 100 := by rw [numsL_len]; simp; omega
        obtain ⟨z, hz⟩ : ∃ z, sizes[j] = z := ⟨_, rfl⟩
        obtain ⟨L, hL⟩ : ∃ L, numsL ([((sizes.length : Nat) : Int)] ++ sizes.take j) = L := ⟨_, rfl⟩
        rw [hz] at c0 UP
        rw [hL] at ho UP hlen
        clear hz hL
        go_wp2_with fail
        refine (putNumber_any z L wr w1.heap.size _ ho.out hD (by omega)).mono ?_
        rintro e3 w3 ⟨v3, rfl, o3, k3⟩
        have K3 := hideP (hk.out.trans k3)
        have O3 := hideP o3
        clear o3 k3
        go_wp2
        go_roundg (sizes.length - (j + 1))
        case rel => exact ⟨j + 1, by omega, by go_num, by rw [UP.out]; exact O3.out, K3.out⟩
        case measure => omega
      · have hjn : j = sizes.length := by omega
        subst hjn
        rw [List.take_length] at ho
        have BXr := hideP (keepW BX.out (hk.out.below (Nat.le_refl _)))
        have q1 := (cells_of BXr.out).1 1
        have q2 := (cells_of BXr.out).1 2
        have q3 := (cells_of BXr.out).1 3
        simp at q1 q2 q3
        have al := (Below.refl wr.heap.size wr).alloc (Nat.le_refl _) (.cells #[.int .i64 params, .int .i64 slots, .int .i64 ((code.length : Nat) : Int)] 3)
        have LI := hideP (own_lit wr [params, slots, ((code.length : Nat) : Int)] #[.int .i64 params, .int .i64 slots, .int .i64 ((code.length : Nat) : Int)] wr.heap.size 3 rfl rfl rfl (by simp))
        have O4 := hideP (ho.out.stays al)
        have K4 := hideP (hk.out.trans (KpU.of_below al))
        obtain ⟨g4, hg4⟩ : ∃ g, wr.heap.size = g := ⟨_, rfl⟩
        obtain ⟨lit, hlit⟩ : ∃ l, [params, slots, ((code.length : Nat) : Int)] = l := ⟨_, rfl⟩
        have hl3 : lit.length = 3 := by rw [← hlit]; rfl
        have HLIT := hideP hlit
        rw [hlit] at LI
        have HG := hideP hg4
        clear al ho hk BW hlit hg4
        go_wp2
        clear q1 q2 q3
        rw [HG.out]
        rw [HG.out] at LI
        have HD0 : Hid (w1.heap.size ≤ g4) := by show _ ≤ _; rw [← HG.out]; exact hD
        clear HG hD
        go_loopg [3, 40] 3 (fun gk x i wr => ∃ (j : Nat), gk + j = 3 ∧ i = .int .i64 j ∧ Hid (OwnB wr w1.heap.size x (numsL (([((sizes.length : Nat) : Int)] ++ sizes) ++ lit.take j))) ∧ Hid (OwnI wr g4 (.slice (some ⟨g4, 0, none⟩) 3 3) lit) ∧ Hid (KpU w1.heap.size w1 wr))
        case atStart => exact ⟨0, rfl, rfl, by rw [List.take_zero, List.append_nil]; exact O4.out, LI.out, K4.out⟩
        case round =>
          obtain ⟨j, hj, rfl, ho, hi, hk⟩ := hrel
          clear O4 K4 LI BXr
          have hD : w1.heap.size ≤ wr.heap.size := hk.out.size
          by_cases hlt : j < 3
          · have c0 := hi.out.at j (by omega)
            rw [Nat.zero_add] at c0
            have hgl : g4 < wr.heap.size := (hi.out.low g4 rfl).2
            have UP := hideP (take_numsL ([((sizes.length : Nat) : Int)] ++ sizes) lit j (by omega) _ rfl)
            have hlen : (numsL (([((sizes.length : Nat) : Int)] ++ sizes) ++ lit.take j)).length ≤ 100 := by rw [numsL_len]; simp; omega
            obtain ⟨z, hz⟩ : ∃ z, lit[j] = z := ⟨_, rfl⟩
            obtain ⟨L, hL⟩ : ∃ L, numsL (([((sizes.length : Nat) : Int)] ++ sizes) ++ lit.take j) = L := ⟨_, rfl⟩
            rw [hz] at c0 UP
            rw [hL] at ho UP hlen
            clear hz hL
            go_wp2_with fail
            refine (putNumber_any z L wr w1.heap.size _ ho.out hD (by omega)).mono ?_
            rintro e3 w3 ⟨v3, rfl, o3, k3⟩
            have K3 := hideP (hk.out.trans k3)
            have O3 := hideP o3
            have I3 := hideP (hi.out.kpu k3)
            clear o3 k3
            go_wp2
            go_roundg (3 - (j + 1))
            case rel => exact ⟨j + 1, by omega, by go_num, by rw [UP.out]; exact O3.out, I3.out, K3.out⟩
            case measure => omega
          · have hjn : j = 3 := by omega
            subst hjn
            rw [show lit.take 3 = lit from List.take_of_length_le (by omega), ← HLIT.out] at ho
            have HO : Hid (OwnB wr w1.heap.size u3 (numsL (headN ⟨sizes, params, slots, code⟩ ++ wrdsN (code.take 0)))) := by
              have e : headN ⟨sizes, params, slots, code⟩ ++ wrdsN (code.take 0) = ([((sizes.length : Nat) : Int)] ++ sizes) ++ [params, slots, ((code.length : Nat) : Int)] := by simp [headN, wrdsN]
              show OwnB _ _ _ _
              rw [e]; exact ho.out
            have BXr := hideP (keepW BX.out (hk.out.below (Nat.le_refl _)))
            have HK := hideP hk.out
            have q3 := (cells_of BXr.out).1 3
            simp at q3
            have hHL : Hid ((headN ⟨sizes, params, slots, code⟩).length ≤ 10) := by show _ ≤ _; simp [headN]; omega
            obtain ⟨HN, hHN⟩ : ∃ l, headN ⟨sizes, params, slots, code⟩ = l := ⟨_, rfl⟩
            have E3 : Hid (imgN ⟨sizes, params, slots, code⟩ = HN ++ wrdsN code) := by show _ = _; rw [← hHN]; rfl
            rw [hHN] at HO hHL
            clear ho hi hk hHN HLIT hl3
            go_wp2
            clear q3
            go_loopg [3, 51] code.length (fun gk x i wr => ∃ (j : Nat), gk + j = code.length ∧ i = .int .i64 j ∧ Hid (OwnB wr w1.heap.size x (numsL (HN ++ wrdsN (code.take j)))) ∧ Hid (KpU w1.heap.size w1 wr))
            case atStart => exact ⟨0, by omega, rfl, HO.out, HK.out⟩
            case round =>
              obtain ⟨j, hj, rfl, ho, hk⟩ := hrel
              clear HO HK BXr
              have BW := hideP (below_trans BB.out (hk.out.below (Nat.le_refl _)))
              have hD : w1.heap.size ≤ wr.heap.size := hk.out.size
              by_cases hlt : j < code.length
              · obtain ⟨b, o, y0, y1, y2, y3, y4, rfl, _, hbi, hy, r0, r1, r2, r3, r4, _⟩ := Wrd_get (HB.out.stays WrdKeeps BW.out) j hlt
                have UP := hideP (wrdsN_take code j hlt _ hy)
                have UP0 : Hid (HN ++ wrdsN (code.take (j + 1)) = HN ++ wrdsN (code.take j) ++ [y0, y1, y2, y3, y4]) := by show _ = _; rw [UP.out, ← List.append_assoc]; rfl
                have hlen : (HN ++ wrdsN (code.take j)).length ≤ 40000 := by have := hHL.out; rw [List.length_append, wrdsN_len, List.length_take]; omega
                obtain ⟨M, hM⟩ : ∃ M, HN ++ wrdsN (code.take j) = M := ⟨_, rfl⟩
                rw [hM] at ho UP0 hlen
                have al5 := (Below.refl wr.heap.size wr).alloc (Nat.le_refl _) (.cells #[.int .i64 y0, .int .i64 y1, .int .i64 y2, .int .i64 y3, .int .i64 y4] 69)
                have X5 := hideP (newU wr (.cells #[.int .i64 y0, .int .i64 y1, .int .i64 y2, .int .i64 y3, .int .i64 y4] 69))
                obtain ⟨W5, hW5⟩ : ∃ W, wr.alloc (.cells #[.int .i64 y0, .int .i64 y1, .int .i64 y2, .int .i64 y3, .int .i64 y4] 69) = W := ⟨_, rfl⟩
                have hz5 : W5.heap.size = wr.heap.size + 1 := by rw [← hW5]; simp
                rw [hW5] at al5 X5
                have x0 := (cells_of X5.out).1 0
                have x1 := (cells_of X5.out).1 1
                have x2 := (cells_of X5.out).1 2
                have x3 := (cells_of X5.out).1 3
                have x4 := (cells_of X5.out).1 4
                simp at x0 x1 x2 x3 x4
                have al6 := (Below.refl W5.heap.size W5).alloc (Nat.le_refl _) (.cells #[.int .i64 y0, .int .i64 y1, .int .i64 y2, .int .i64 y3, .int .i64 y4] 3)
                have LI := hideP (own_lit W5 [y0, y1, y2, y3, y4] #[.int .i64 y0, .int .i64 y1, .int .i64 y2, .int .i64 y3, .int .i64 y4] W5.heap.size 5 rfl rfl rfl (by simp))
                have O6 := hideP ((ho.out.stays al5).stays al6)
                have K6 := hideP ((hk.out.trans (KpU.of_below al5)).trans (KpU.of_below al6))
                obtain ⟨lit, hlit⟩ : ∃ l, [y0, y1, y2, y3, y4] = l := ⟨_, rfl⟩
                have hl5 : lit.length = 5 := by rw [← hlit]; rfl
                rw [hlit] at LI UP0
                obtain ⟨g5, hg5⟩ : ∃ g, W5.heap.size = g := ⟨_, rfl⟩
                have HG := hideP hg5
                have HZ := hideP hz5
                clear al5 al6 ho hk BW hlit hg5 hz5 hM UP X5 hy
                go_wp2
                clear x0 x1 x2 x3 x4 r0 r1 r2 r3 r4 hW5
                rw [HG.out]
                rw [HG.out] at LI
                clear HG HZ
                go_loopg [3, 67] 5 (fun gk x i wr => ∃ (q : Nat), gk + q = 5 ∧ i = .int .i64 q ∧ Hid (OwnB wr w1.heap.size x (numsL (M ++ lit.take q))) ∧ Hid (OwnI wr g5 (.slice (some ⟨g5, 0, none⟩) 5 5) lit) ∧ Hid (KpU w1.heap.size w1 wr))
                case atStart => exact ⟨0, rfl, rfl, by rw [List.take_zero, List.append_nil]; exact O6.out, LI.out, K6.out⟩
                case round =>
                  obtain ⟨q, hq, rfl, ho, hi, hk⟩ := hrel
                  clear O6 K6 LI
                  have hD2 : w1.heap.size ≤ wr.heap.size := hk.out.size
                  by_cases hlq : q < 5
                  · have c0 := hi.out.at q (by omega)
                    rw [Nat.zero_add] at c0
                    have hgl : g5 < wr.heap.size := (hi.out.low g5 rfl).2
                    have UP := hideP (take_numsL M lit q (by omega) _ rfl)
                    have hlen2 : (numsL (M ++ lit.take q)).length ≤ 500000 := by rw [numsL_len]; simp; omega
                    obtain ⟨z, hz⟩ : ∃ z, lit[q] = z := ⟨_, rfl⟩
                    obtain ⟨L, hL⟩ : ∃ L, numsL (M ++ lit.take q) = L := ⟨_, rfl⟩
                    rw [hz] at c0 UP
                    rw [hL] at ho UP hlen2
                    clear hz hL
                    go_wp2_with fail
                    refine (putNumber_any z L wr w1.heap.size _ ho.out hD2 (by omega)).mono ?_
                    rintro e3 w3 ⟨v3, rfl, o3, k3⟩
                    have K3 := hideP (hk.out.trans k3)
                    have O3 := hideP o3
                    have I3 := hideP (hi.out.kpu k3)
                    clear o3 k3
                    go_wp2
                    go_roundg (5 - (q + 1))
                    case rel => exact ⟨q + 1, by omega, by go_num, by rw [UP.out]; exact O3.out, I3.out, K3.out⟩
                    case measure => omega
                  · have hqn : q = 5 := by omega
                    subst hqn
                    rw [show lit.take 5 = lit from List.take_of_length_le (by omega), ← UP0.out] at ho
                    clear hi
                    go_wp2
                    go_roundg (code.length - (j + 1))
                    case rel => exact ⟨j + 1, by omega, by go_num, ho.out, hk.out⟩
                    case measure => omega
              · have hjn : j = code.length := by omega
                subst hjn
                rw [List.take_length, ← E3.out] at ho
                have hlen : (numsL (imgN ⟨sizes, params, slots, code⟩)).length ≤ 400000 := by rw [numsL_len, imgN_len]; simp only; omega
                obtain ⟨N, hN⟩ : ∃ N, numsL (imgN ⟨sizes, params, slots, code⟩) = N := ⟨_, rfl⟩
                rw [hN] at ho E2 hlen
                have hzN : (strB N).size ≤ 1048576 := by rw [strB_size]; omega
                obtain ⟨S, hS⟩ : ∃ S, strB N = S := ⟨_, rfl⟩
                have hs0 := sumL_low S.data.toList
                have hs1 := sumL_high S.data.toList
                have E4 : Hid (P = strB (N ++ numL (sumL S.data.toList))) := by show _ = _; rw [E2.out, ← hS]; rfl
                obtain ⟨T, hT⟩ : ∃ T, sumL S.data.toList = T := ⟨_, rfl⟩
                obtain ⟨g, c, rfl, _⟩ := id ho.out
                have CV := own_text ho.out
                rw [hS] at CV hzN
                have SM := hideP (impl_sum S wr hzN)
                rw [hT] at SM hs0 hs1 E4
                clear hN hS hT E2 E3
                go_wp2_with fail
                refine SM.out.mono ?_
                rintro e5 w5 ⟨rfl, rfl⟩
                clear CV
                go_wp2_with fail
                refine (putNumber_any T N _ w1.heap.size _ ho.out hD (by omega)).mono ?_
                rintro e6 w6 ⟨v6, rfl, o6, k6⟩
                obtain ⟨NT, hNT⟩ : ∃ l, N ++ numL T = l := ⟨_, rfl⟩
                rw [hNT] at o6 E4
                clear hNT
                obtain ⟨g6, c6, rfl, _⟩ := id o6
                have CW := own_text o6
                have BE := hideP (below_trans BB.out ((hk.out.trans k6).below (Nat.le_refl _)))
                obtain ⟨Z, hZ⟩ : ∃ Z, strB NT = Z := ⟨_, rfl⟩
                rw [hZ] at CW E4
                clear o6 k6 ho hk BW hZ
                go_wp2
                go_ret
                exact ⟨ret_str E4.out.symm, BE.out⟩
end Go.Proofs.YtehccknppnmbkaaDoor
