/- The contracts of spec.l13WordOk and spec.ImageOk. -/
import Derived.Test.YtheholgdfmipbaaDoorImgS0
import Derived.Test.YtheholgdfmipbaaDoorImgS1
import Derived.Test.YtheholgdfmipbaaDoorImgS2
namespace Go.Proofs.YtheholgdfmipbaaDoor
open Go.ChangeShapes Go.WideShapes Go.ChangeAt Go.RowKit
theorem spec_wordOk (m : Img) (x : Wrd) (w : World) (B B2 : Nat) (v v2 : Array Value) (h : ImgIs w B v m) (hx : WrdIs w B2 v2 x) (hs0 : 0 ≤ m.slots) (hs1 : m.slots ≤ 1000) :
    Calls Tryd.prog 37 #[.agg v, .agg v2] w fun en w' => en = .returned (.bool (wrdOk (m.sizes.length : Nat) m.slots (m.code.length : Nat) x)) ∧ Below w.heap.size w w' := by
  obtain ⟨op, r, a, b, n⟩ := x
  obtain ⟨rfl, _⟩ := hx
  simp only
  by_cases h0 : op = 0; · subst h0; exact l13WordOk_0 m r a b n w B v h hs0 hs1
  by_cases h1 : op = 1; · subst h1; exact l13WordOk_1 m r a b n w B v h hs0 hs1
  by_cases h2 : op = 2; · subst h2; exact l13WordOk_2 m r a b n w B v h hs0 hs1
  by_cases h3 : op = 3; · subst h3; exact l13WordOk_3 m r a b n w B v h hs0 hs1
  by_cases h4 : op = 4; · subst h4; exact l13WordOk_4 m r a b n w B v h hs0 hs1
  by_cases h5 : op = 5; · subst h5; exact l13WordOk_5 m r a b n w B v h hs0 hs1
  by_cases h6 : op = 6; · subst h6; exact l13WordOk_6 m r a b n w B v h hs0 hs1
  by_cases h7 : op = 7; · subst h7; exact l13WordOk_7 m r a b n w B v h hs0 hs1
  by_cases h8 : op = 8; · subst h8; exact l13WordOk_8 m r a b n w B v h hs0 hs1
  by_cases h9 : op = 9; · subst h9; exact l13WordOk_9 m r a b n w B v h hs0 hs1
  by_cases h10 : op = 10; · subst h10; exact l13WordOk_10 m r a b n w B v h hs0 hs1
  by_cases h11 : op = 11; · subst h11; exact l13WordOk_11 m r a b n w B v h hs0 hs1
  exact l13WordOk_x m op r a b n w B v h hs0 hs1 h0 h1 h2 h3 h4 h5 h6 h7 h8 h9 h10 h11
theorem lastOk_atS {l : List Wrd} {k : Nat} (hk : k < l.length) (he : k + 1 = l.length) : lastOk l = (l[k].op == 10 || l[k].op == 8) := by
  unfold lastOk
  rw [List.getLast?_eq_getElem?, show l.length - 1 = k by omega, List.getElem?_eq_getElem hk]
theorem imgOk_sp {sizes : List Int} {params slots : Int} {code : List Wrd} (h1 : sizes.all szOk = true) :
    imgOk ⟨sizes, params, slots, code⟩ = (inB (sizes.length : Nat) 1 4 && inB params 0 6 && inB slots params 1000 && inB (code.length : Nat) 1 6000 && code.all (wrdOk (sizes.length : Nat) slots (code.length : Nat)) && lastOk code) := by
  unfold imgOk regOk parOk inB
  simp only
  rw [h1, Bool.and_true]
  congr 2
  rw [Bool.eq_iff_iff]
  simp only [Bool.and_eq_true, decide_eq_true_eq]
  omega
theorem imgOk_bad {sizes : List Int} {params slots : Int} {code : List Wrd} (h1 : sizes.all szOk = false) : imgOk ⟨sizes, params, slots, code⟩ = false := by
  unfold imgOk regOk; simp only; rw [h1]; simp
set_option maxHeartbeats 8000000 in
set_option maxRecDepth 100000 in
theorem spec_imageOk (m : Img) (w : World) (B : Nat) (v : Array Value) (h : ImgIs w B v m) :
    Calls Tryd.prog 22 #[.agg v] w fun en w' => en = .returned (.bool (imgOk m)) ∧ Below w.heap.size w w' := by
  obtain ⟨sizes, params, slots, code⟩ := m
  have hG := hideP h
  obtain ⟨us, cs, ub, cb, rfl, _, hz, hb⟩ := h
  simp only at *
  have hm := maxLen_lt
  have hl := hb.1
  have hl2 := hz.1
  have al : Hid (Below w.heap.size w (w.alloc (.cells #[.slice us sizes.length cs, .int .i64 params, .int .i64 slots, .slice ub code.length cb] 33))) := (Below.refl _ _).alloc (Nat.le_refl _) _
  have Q1 : Hid ((w.alloc (.cells #[.slice us sizes.length cs, .int .i64 params, .int .i64 slots, .slice ub code.length cb] 33)).heap[w.heap.size]? = some (.cells #[.slice us sizes.length cs, .int .i64 params, .int .i64 slots, .slice ub code.length cb] 33)) := by show (w.heap.push _)[w.heap.size]? = _; exact Array.getElem?_push_size
  have HZ := hideP (hz.stays al.out)
  have HB := hideP (hb.stays WrdKeeps al.out)
  have WO : Hid (∀ W' x2 y2, 0 ≤ slots → slots ≤ 1000 → Below w.heap.size w W' → WrdIs W' 0 x2 y2 → Calls Tryd.prog 37 #[.agg #[.slice us sizes.length cs, .int .i64 params, .int .i64 slots, .slice ub code.length cb], .agg x2] W' fun en w' => en = .returned (.bool (wrdOk (sizes.length : Nat) slots (code.length : Nat) y2)) ∧ Below W'.heap.size W' w') := fun W' x2 y2 h0 h1 hW' hx => spec_wordOk (⟨sizes, params, slots, code⟩ : Img) y2 W' B 0 _ _ (ImgKeeps.stays hG.out hW') hx h0 h1
  have IN := hideP l01In_any
  clear hz hb
  obtain ⟨R, hR⟩ : ∃ R, imgOk ⟨sizes, params, slots, code⟩ = R := ⟨_, rfl⟩
  rw [hR]
  have HR := hideP hR
  clear hR
  go_enter Tryd.func22, Tryd.ntmps22
  go_upto_region 1 with fail
  obtain ⟨WG, hWG⟩ : ∃ WG, (w.alloc (.cells #[.slice us sizes.length cs, .int .i64 params, .int .i64 slots, .slice ub code.length cb] 33)) = WG := ⟨_, rfl⟩
  rw [hWG] at al Q1 HZ HB ⊢
  clear hWG
  have gg := (cells_of Q1.out).1
  have p0 := gg 0
  have p1 := gg 1
  have p2 := gg 2
  have p3 := gg 3
  simp at p0 p1 p2 p3
  clear gg
  go_wp2
  go_loopg [3] sizes.length (fun gk i wr => ∃ j : Nat, gk + j = sizes.length ∧ i = .int .i64 j ∧ Hid ((sizes.take j).all szOk = true) ∧ wr = WG)
  case atStart => exact ⟨0, by simp, rfl, show _ = _ by simp, rfl⟩
  case round =>
    obtain ⟨j, hj, rfl, hok, hwr⟩ := hrel
    obtain rfl := hwr.symm
    by_cases hlt : j < sizes.length
    · obtain ⟨b, o, rfl, _, hbb, c0⟩ := HZ.out.get j hlt
      have tk := hideP (allW_take szOk sizes j hlt)
      have no := hideP (allW_no szOk sizes j hlt)
      obtain ⟨z, hz⟩ : ∃ z, sizes[j] = z := ⟨_, rfl⟩
      rw [hz] at c0 tk no
      clear hz
      cases hq : inB z 1 16
      · have e1 : Hid (szOk z = false) := by show _ = _; exact hq
        go_wp2_with (go_at_call 34; refine (IN.out _ _ _ _).mono ?_; rintro e1 w1 ⟨rfl, rfl⟩)
        go_ret
        exact ⟨ret_bool (by rw [← HR.out]; exact (imgOk_bad (no.out e1.out)).symm), al.out⟩
      · have e1 : Hid (szOk z = true) := by show _ = _; exact hq
        go_wp2_with (go_at_call 34; refine (IN.out _ _ _ _).mono ?_; rintro e1 w1 ⟨rfl, rfl⟩)
        go_roundg (sizes.length - (j + 1))
        case rel => exact ⟨j + 1, by omega, by go_num, show _ = _ by rw [tk.out, hok.out, e1.out]; rfl, rfl⟩
        case measure => omega
    · have hjn : j = sizes.length := by omega
      subst hjn
      rw [List.take_length] at hok
      have E := hideP (HR.out.symm.trans (imgOk_sp hok.out))
      clear hok
      cases h1 : inB (sizes.length : Nat) 1 4
      · go_wp2_with (go_at_call 34; refine (IN.out _ _ _ _).mono ?_; rintro e1 w1 ⟨rfl, rfl⟩)
        go_ret
        exact ⟨ret_bool (by rw [E.out, h1]; rfl), al.out⟩
      cases h2 : inB params 0 6
      · go_wp2_with (go_at_call 34; refine (IN.out _ _ _ _).mono ?_; rintro e1 w1 ⟨rfl, rfl⟩)
        go_ret
        exact ⟨ret_bool (by rw [E.out, h1, h2]; rfl), al.out⟩
      cases h3 : inB slots params 1000
      · go_wp2_with (go_at_call 34; refine (IN.out _ _ _ _).mono ?_; rintro e1 w1 ⟨rfl, rfl⟩)
        go_ret
        exact ⟨ret_bool (by rw [E.out, h1, h2, h3]; rfl), al.out⟩
      cases h4 : inB (code.length : Nat) 1 6000
      · go_wp2_with (go_at_call 34; refine (IN.out _ _ _ _).mono ?_; rintro e1 w1 ⟨rfl, rfl⟩)
        go_ret
        exact ⟨ret_bool (by rw [E.out, h1, h2, h3, h4]; rfl), al.out⟩
      have E2 : Hid (R = (code.all (wrdOk (sizes.length : Nat) slots (code.length : Nat)) && lastOk code)) := by show _ = _; rw [E.out, h1, h2, h3, h4]; rfl
      have hs0 : 0 ≤ slots := by simp [inB] at h2 h3; omega
      have hs1 : slots ≤ 1000 := by simp [inB] at h3; omega
      have hc1 : 1 ≤ code.length := by simp [inB] at h4; omega
      have WX := hideP (fun W' x2 y2 => WO.out W' x2 y2 hs0 hs1)
      clear E WO
      go_wp2_with (go_at_call 34; refine (IN.out _ _ _ _).mono ?_; rintro e1 w1 ⟨rfl, hw1⟩; obtain rfl := hw1.symm)
      clear h1 h2 h3 h4 IN p0 p1 p2 p3
      go_loopg [5] code.length (fun gk i wr => ∃ j : Nat, gk + j = code.length ∧ i = .int .i64 j ∧ Hid ((code.take j).all (wrdOk (sizes.length : Nat) slots (code.length : Nat)) = true) ∧ Hid (Below WG.heap.size WG wr))
      case atStart => exact ⟨0, by simp, rfl, show _ = _ by simp, Below.refl _ _⟩
      case round =>
        obtain ⟨j, hj, rfl, hok, hbr⟩ := hrel
        have bw := below_trans al.out hbr.out
        have Q2 := hideP ((hbr.out.block _ (Array.getElem?_eq_some_iff.1 Q1.out).1).trans Q1.out)
        have gg := (cells_of Q2.out).1
        have lG : w.heap.size < wr.heap.size := (Array.getElem?_eq_some_iff.1 Q2.out).1
        have p0 := gg 0
        have p1 := gg 1
        have p2 := gg 2
        have p3 := gg 3
        simp at p0 p1 p2 p3
        by_cases hlt : j < code.length
        · obtain ⟨b, o, y0, y1, y2, y3, y4, rfl, _, hbi, hy, r0, r1, r2, r3, r4, hxx⟩ := Wrd_get (HB.out.stays WrdKeeps hbr.out) j hlt
          have tk := allW_take (wrdOk (sizes.length : Nat) slots (code.length : Nat)) code j hlt
          have no := allW_no (wrdOk (sizes.length : Nat) slots (code.length : Nat)) code j hlt
          rw [hy] at tk no
          rw [hok.out, Bool.true_and] at tk
          have WY := hideP (fun W' hW' => WX.out W' _ _ hW' hxx)
          obtain ⟨r, hr9⟩ : ∃ r, wrdOk (sizes.length : Nat) slots (code.length : Nat) ⟨y0, y1, y2, y3, y4⟩ = r := ⟨_, rfl⟩
          rw [hr9] at tk no WY
          have TK := hideP tk
          have NO := hideP no
          have BW := hideP bw
          have SK : Hid (∀ W', Below wr.heap.size wr W' → W'.cell? ⟨w.heap.size, 0, none⟩ = some (.slice us sizes.length cs) ∧ W'.cell? ⟨w.heap.size, 1, none⟩ = some (.int .i64 params) ∧ W'.cell? ⟨w.heap.size, 2, none⟩ = some (.int .i64 slots) ∧ W'.cell? ⟨w.heap.size, 3, none⟩ = some (.slice (some ⟨b, o, none⟩) code.length cb) ∧ W'.cell? ⟨b, o + j * 5, none⟩ = some (.int .i64 y0) ∧ W'.cell? ⟨b, o + j * 5 + 1, none⟩ = some (.int .i64 y1) ∧ W'.cell? ⟨b, o + j * 5 + 2, none⟩ = some (.int .i64 y2) ∧ W'.cell? ⟨b, o + j * 5 + 3, none⟩ = some (.int .i64 y3) ∧ W'.cell? ⟨b, o + j * 5 + 4, none⟩ = some (.int .i64 y4)) := fun W' h => ⟨(h.cell (p := ⟨w.heap.size, 0, none⟩) lG).trans p0, (h.cell (p := ⟨w.heap.size, 1, none⟩) lG).trans p1, (h.cell (p := ⟨w.heap.size, 2, none⟩) lG).trans p2, (h.cell (p := ⟨w.heap.size, 3, none⟩) lG).trans p3, (h.cell (p := ⟨b, o + j * 5, none⟩) hbi).trans r0, (h.cell (p := ⟨b, o + j * 5 + 1, none⟩) hbi).trans r1, (h.cell (p := ⟨b, o + j * 5 + 2, none⟩) hbi).trans r2, (h.cell (p := ⟨b, o + j * 5 + 3, none⟩) hbi).trans r3, (h.cell (p := ⟨b, o + j * 5 + 4, none⟩) hbi).trans r4⟩
          clear gg hy hxx tk no bw hr9 r0 r1 r2 r3 r4
          go_upto_region 12 with fail
          clear p0 p1 p2 p3
          go_region_held3 (fun W' => W'.cell? ⟨w.heap.size, 0, none⟩ = some (.slice us sizes.length cs) ∧ W'.cell? ⟨w.heap.size, 1, none⟩ = some (.int .i64 params) ∧ W'.cell? ⟨w.heap.size, 2, none⟩ = some (.int .i64 slots) ∧ W'.cell? ⟨w.heap.size, 3, none⟩ = some (.slice (some ⟨b, o, none⟩) code.length cb) ∧ W'.cell? ⟨b, o + j * 5, none⟩ = some (.int .i64 y0) ∧ W'.cell? ⟨b, o + j * 5 + 1, none⟩ = some (.int .i64 y1) ∧ W'.cell? ⟨b, o + j * 5 + 2, none⟩ = some (.int .i64 y2) ∧ W'.cell? ⟨b, o + j * 5 + 3, none⟩ = some (.int .i64 y3) ∧ W'.cell? ⟨b, o + j * 5 + 4, none⟩ = some (.int .i64 y4)) (first | exact SK.out _ (Below.refl _ _).drew | exact SK.out _ HBa.out) (first
            | (go_at_call 37; refine (WY.out _ BW.out.drew).mono ?_; rintro yya wya ⟨rfl, bela⟩; have HBa := hideP ((Below.refl wr.heap.size wr).drew.trans (bela.mono (Nat.le_refl _))); clear bela))
          all_goals
            have BB := hideP (below_trans BW.out HBa.out)
            have BC := hideP (below_trans hbr.out HBa.out)
            cases r
            · go_wp2
              go_ret
              exact ⟨ret_bool (by rw [E2.out, NO.out (by first | rfl | trivial)]; rfl), BB.out⟩
            · go_wp2
              go_roundg (code.length - (j + 1))
              case rel => exact ⟨j + 1, by omega, by go_num, TK.out, BC.out⟩
              case measure => omega
        · have hjn : j = code.length := by omega
          subst hjn
          rw [List.take_length] at hok
          have E3 : Hid (R = lastOk code) := by show _ = _; rw [E2.out, hok.out, Bool.true_and]
          obtain ⟨k, hk⟩ : ∃ k, code.length = k + 1 := ⟨code.length - 1, by omega⟩
          have hkl : k < code.length := by omega
          obtain ⟨b, o, y0, y1, y2, y3, y4, rfl, _, hbi, hy, r0, r1, r2, r3, r4, hxx⟩ := Wrd_get (HB.out.stays WrdKeeps hbr.out) k hkl
          have LO := hideP (lastOk_atS hkl hk.symm)
          rw [hy] at LO
          have BW := hideP bw
          have ek : ((code.length : Int) - 1) = (k : Int) := by omega
          clear gg hy hxx bw hok r1 r2 r3 r4
          by_cases ha : y0 = 10
          · subst ha
            go_wp2
            go_ret
            exact ⟨ret_bool (by rw [E3.out, LO.out]; rfl), BW.out⟩
          · have ha1 : (y0 == 10) = false := by simpa using ha
            go_wp2
            go_ret
            exact ⟨ret_bool (by rw [E3.out, LO.out, ha1]; rfl), BW.out⟩
end Go.Proofs.YtheholgdfmipbaaDoor
