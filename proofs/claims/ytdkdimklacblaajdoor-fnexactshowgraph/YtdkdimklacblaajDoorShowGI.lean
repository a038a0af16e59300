/- The contracts of the program's jumpText and ShowGraph. -/
import Derived.Test.YtdkdimklacblaajDoorShowGP
namespace Go.Proofs.YtdkdimklacblaajDoor
open Go.ChangeShapes Go.WideShapes Go.ChangeAt Go.RowKit
set_option maxHeartbeats 4000000 in
set_option maxRecDepth 100000 in
theorem jumpText_any (x : Blk) (w : World) (B : Nat) (v : Array Value) (h : BlkIs w B v x) (ht : Tab w) :
    Calls Tryd.prog 19 #[.agg v] w fun e w' => e = .returned (.string ⟨(jumpL x).toArray⟩) ∧ Below w.heap.size w w' := by
  obtain ⟨code, jump, a, tg, els⟩ := x
  obtain ⟨ux, kx, rfl, ⟨_, ka, kt, ke⟩, _⟩ := h
  simp only at *
  obtain ⟨sa, SA, za, CA⟩ := letter (C := fun W => Below w.heap.size w W) (R := fun W w' => Below W.heap.size W w') (sL_len ka) (fun W hW => slotText_any a ka W (tab_below ht hW))
  obtain ⟨st, ST, zt, CT⟩ := letter (C := fun W => Below w.heap.size w W) (R := fun W w' => Below W.heap.size W w') (bL_len kt) (fun W hW => blockText_any tg kt W (tab_below ht hW))
  obtain ⟨se, SE, ze, CE⟩ := letter (C := fun W => Below w.heap.size w W) (R := fun W w' => Below W.heap.size W w') (bL_len ke) (fun W hW => blockText_any els ke W (tab_below ht hW))
  clear ht ka kt ke
  by_cases h0 : jump = 0
  · subst h0
    have E : Hid (jumpL ⟨code, 0, a, tg, els⟩ = [103, 111, 32] ++ bL tg) := if_pos rfl
    go_enter Tryd.func19, Tryd.ntmps19
    go_wp2_with fail
    refine (CT.out _ ((Below.refl _ _).alloc (Nat.le_refl _) _)).mono ?_
    rintro e1 w1 ⟨rfl, bel1⟩
    have HW1 := hideP (below_new bel1)
    clear bel1
    go_wp2
    go_ret
    exact ⟨ret_str (mk_of (by rw [E.out]; simp [ST.out])), HW1.out⟩
  · by_cases h1 : jump = 1
    · subst h1
      have E : Hid (jumpL ⟨code, 1, a, tg, els⟩ = [105, 102, 32] ++ (sL a ++ (32 :: (bL tg ++ (32 :: bL els))))) := by show _ = _; simp [jumpL]
      go_enter Tryd.func19, Tryd.ntmps19
      go_upto_region 5 with fail
      obtain ⟨wb, hwb⟩ : ∃ wb, w.alloc (.cells #[.slice ux code.length kx, .int .i64 1, .int .i64 a, .int .i64 tg, .int .i64 els] 39) = wb := ⟨_, rfl⟩
      have hq : wb.heap[w.heap.size]? = some (.cells #[.slice ux code.length kx, .int .i64 1, .int .i64 a, .int .i64 tg, .int .i64 els] 39) := by rw [← hwb]; exact newBk w _
      have HB0 : Hid (Below w.heap.size w wb) := by rw [← hwb]; exact (Below.refl _ _).alloc (Nat.le_refl _) _
      have hlb : w.heap.size < wb.heap.size := (Array.getElem?_eq_some_iff.1 hq).1
      rw [hwb]
      have SK : Hid (∀ W', Below wb.heap.size wb W' → W'.cell? ⟨w.heap.size, 2, none⟩ = some (.int .i64 a) ∧ W'.cell? ⟨w.heap.size, 3, none⟩ = some (.int .i64 tg) ∧ W'.cell? ⟨w.heap.size, 4, none⟩ = some (.int .i64 els)) := fun W' hW => by
        have e0 := (cells_of hq).1
        exact ⟨(hW.cell (p := ⟨w.heap.size, 2, none⟩) hlb).trans (e0 2), (hW.cell (p := ⟨w.heap.size, 3, none⟩) hlb).trans (e0 3), (hW.cell (p := ⟨w.heap.size, 4, none⟩) hlb).trans (e0 4)⟩
      have m0 : ¬ 9223372036854775807 < 3 + sa.size := by omega
      have m1 : ¬ 9223372036854775807 < 3 + sa.size + 1 := by omega
      have m2 : ¬ 9223372036854775807 < 3 + sa.size + 1 + st.size := by omega
      have m3 : ¬ 9223372036854775807 < 3 + sa.size + 1 + st.size + 1 := by omega
      have m4 : ¬ 9223372036854775807 < 3 + sa.size + 1 + st.size + 1 + se.size := by omega
      clear hq hwb
      go_region_held3 (fun W' => W'.cell? ⟨w.heap.size, 2, none⟩ = some (.int .i64 a) ∧ W'.cell? ⟨w.heap.size, 3, none⟩ = some (.int .i64 tg) ∧ W'.cell? ⟨w.heap.size, 4, none⟩ = some (.int .i64 els)) (first | exact SK.out _ (Below.refl _ _).drew | exact SK.out _ HB3.out | exact SK.out _ HB2.out | exact SK.out _ HB1.out) (first
        | (go_at_call 33; refine (CA.out _ HB0.out.drew).mono ?_; rintro e1 w1 ⟨rfl, bel1⟩; have HB1 := hideP ((Below.refl wb.heap.size wb).drew.trans (bel1.mono (Nat.le_refl _))); clear bel1)
        | (go_at_call 17; refine (CT.out _ (HB0.out.trans (HB1.out.mono HB0.out.size))).mono ?_; rintro e2 w2 ⟨rfl, bel2⟩; have HB2 := hideP (HB1.out.trans (bel2.mono HB1.out.size)); clear bel2)
        | (go_at_call 17; refine (CE.out _ (HB0.out.trans (HB2.out.mono HB0.out.size))).mono ?_; rintro e3 w3 ⟨rfl, bel3⟩; have HB3 := hideP (HB2.out.trans (bel3.mono HB2.out.size)); clear bel3))
      all_goals (go_wp2; go_ret; exact ⟨ret_str (mk_of (by rw [E.out]; simp [SA.out, ST.out, SE.out])), HB0.out.trans (HB3.out.mono HB0.out.size)⟩)
    · have E : Hid (jumpL ⟨code, jump, a, tg, els⟩ = [114, 101, 116, 32] ++ sL a) := by show _ = _; simp [jumpL, h0, h1]
      go_enter Tryd.func19, Tryd.ntmps19
      go_wp2_with fail
      refine (CA.out _ ((Below.refl _ _).alloc (Nat.le_refl _) _)).mono ?_
      rintro e1 w1 ⟨rfl, bel1⟩
      have HW1 := hideP (below_new bel1)
      clear bel1
      go_wp2
      go_ret
      exact ⟨ret_str (mk_of (by rw [E.out]; simp [SA.out])), HW1.out⟩
set_option maxHeartbeats 8000000 in
set_option maxRecDepth 100000 in
theorem impl_showGraph (g : Gr) (w : World) (B : Nat) (v : Array Value) (h : GrIs w B v g) (GO : ∀ W A v, GrIs W A v g → Calls Tryd.prog 16 #[.agg v] W fun en w' => en = .returned (.bool (grOk g)) ∧ Below W.heap.size W w') (ht : Tab w) :
    Calls Tryd.prog 7 #[.agg v] w fun en w' => en = .returned (.string ⟨(showGL g).toArray⟩) ∧ Below w.heap.size w w' := by
  have hG := hideP h
  have HT := hideP ht
  obtain ⟨gok, hgok⟩ : ∃ r, grOk g = r := ⟨_, rfl⟩
  have GO1 : Hid (∀ W A v, GrIs W A v g → Calls Tryd.prog 16 #[.agg v] W fun en w' => en = .returned (.bool gok) ∧ Below W.heap.size W w') := fun W A v hv => hgok ▸ GO W A v hv
  have HK := hideP hgok
  clear hgok GO ht
  obtain ⟨sizes, params, vars, slots, blocks⟩ := g
  obtain ⟨us, cs, ub, cb, rfl, _, _, hb⟩ := h
  simp only at *
  have hm := maxLen_lt
  have hlb := hb.1
  have HB := hideP hb
  clear hb
  have Q1 := hideP (newBk w (.cells #[.slice us sizes.length cs, .int .i64 params, .int .i64 vars, .int .i64 slots, .slice ub blocks.length cb] 30))
  have BW : Hid (Below w.heap.size w (w.alloc (.cells #[.slice us sizes.length cs, .int .i64 params, .int .i64 vars, .int .i64 slots, .slice ub blocks.length cb] 30))) := (Below.refl _ _).alloc (Nat.le_refl _) _
  cases gok with
  | false =>
    have E : Hid (showGL ⟨sizes, params, vars, slots, blocks⟩ = []) := if_neg (by rw [HK.out]; simp)
    go_enter Tryd.func7, Tryd.ntmps7
    go_wp2_with fail
    refine (GO1.out _ B _ (GrKeeps.stays hG.out BW.out)).mono ?_
    rintro e1 w1 ⟨rfl, bel1⟩
    have BB := hideP (below_trans BW.out bel1)
    clear bel1
    go_wp2
    go_ret
    exact ⟨ret_str (by rw [E.out]), BB.out⟩
  | true =>
    have few := grOk_few HK.out
    simp only at few
    have LF : Hid (∀ j, j ≤ blocks.length → (linesUp blocks j).length ≤ 1600) := fun j hj => lines_few HK.out j hj
    have OKS : Hid (∀ b ∈ blocks, ∀ x ∈ b.code, insOk (sizes.length : Nat) slots x = true) := fun b hb x hx => grOk_step HK.out hb hx
    have E : Hid (showGL ⟨sizes, params, vars, slots, blocks⟩ = (linesUp blocks blocks.length).flatten) := if_pos HK.out
    go_enter Tryd.func7, Tryd.ntmps7
    go_wp2_with fail
    refine (GO1.out _ B _ (GrKeeps.stays hG.out BW.out)).mono ?_
    rintro e1 w1 ⟨rfl, bel1⟩
    have BB := hideP (below_trans BW.out bel1)
    have QQ := hideP (keepB Q1.out bel1)
    have hlt1 : w.heap.size < w1.heap.size := (Array.getElem?_eq_some_iff.1 QQ.out).1
    have al1 := (Below.refl w1.heap.size w1).alloc (Nat.le_refl _) (.cells #[] 9)
    have p4 := (cells_of (keepB QQ.out al1)).1 4
    simp at p4
    have O1 : Hid (OwnS (w1.alloc (.cells #[] 9)) (w.heap.size + 1) (.slice (some ⟨w1.heap.size, 0, none⟩) 0 0) []) := World.ownsRow_made (base := w.heap.size + 1) (e := 9) (size := 1) w1 #[] 0 (by omega) (Nat.zero_le _) rfl
    have B1 := hideP (below_trans BB.out al1)
    have hz1 : Hid (w.heap.size + 1 ≤ (w1.alloc (.cells #[] 9)).heap.size) := by show _ ≤ _; simp; omega
    clear bel1 al1 Q1 QQ BW GO1 HK
    go_wp2
    clear p4
    go_loopw [3, 15] (fun l i wr => ∃ (j : Nat) (ps : List ByteArray), j ≤ blocks.length ∧ i = .int .i64 j ∧ Hid (ps.map (fun b : ByteArray => b.data.toList) = linesUp blocks j) ∧ Hid (∀ p ∈ ps, p.size ≤ 200) ∧ Hid (OwnS wr (w.heap.size + 1) l ps) ∧ Hid (Below w.heap.size w wr) ∧ Hid (w.heap.size + 1 ≤ wr.heap.size)) (fun _ i _ => blocks.length - (intOf i).toNat)
    case atStart => exact ⟨0, [], Nat.zero_le _, rfl, rfl, by show ∀ p ∈ _, _; simp, O1.out, B1.out, hz1.out⟩
    case round =>
      obtain ⟨j, ps, hj, rfl, hps, hsz, ho, bw, hzr⟩ := hrel
      have hpl : ps.length ≤ 1600 := by have := LF.out j hj; rw [← hps.out, List.length_map] at this; exact this
      by_cases hlt : j < blocks.length
      · obtain ⟨b, o, x0, x1, x2, x3, x4, ux, kx, rfl, _, hbb, hx, q0, q1, q2, q3, q4, hbX⟩ := Blk_get HB.out j hlt
        replace q0 := (bw.out.cell (p := ⟨b, _, none⟩) hbb).trans q0
        replace q1 := (bw.out.cell (p := ⟨b, _, none⟩) hbb).trans q1
        replace q2 := (bw.out.cell (p := ⟨b, _, none⟩) hbb).trans q2
        replace q3 := (bw.out.cell (p := ⟨b, _, none⟩) hbb).trans q3
        replace q4 := (bw.out.cell (p := ⟨b, _, none⟩) hbb).trans q4
        have hcl : x0.length ≤ 1000 := by
          have h1 := linesUp_len blocks (j + 1) (by omega)
          have h2 := linesUp_at hlt hx
          have h3 := LF.out (j + 1) (by omega)
          rw [h2, List.length_append] at h3
          simp only [blkG, List.length_append, List.length_map, List.length_singleton] at h3
          have h4 := codeAll_le blocks (j + 1)
          have h5 : (linesUp blocks (j + 1)).length = (linesUp blocks j).length + (2 + x0.length) := by rw [h2]; simp [blkG]; omega
          have h6 := linesUp_len blocks j (by omega)
          have h7 := codeAll_le blocks j
          omega
        have OKB : Hid (∀ x ∈ x0, insOk (sizes.length : Nat) slots x = true) := fun x hx' => OKS.out _ (List.getElem_mem hlt) x (by rw [hx]; exact hx')
        have LU := hideP (linesUp_at hlt hx)
        have hwfB := hbX
        obtain ⟨u', c', hv, hwf, hcode⟩ := hwfB
        simp at hv
        obtain ⟨⟨rfl, rfl⟩, -⟩ := hv
        have JL := hideP (jumpL_len hwf)
        have al := (Below.refl wr.heap.size wr).alloc (Nat.le_refl _) (.cells #[.slice ux x0.length kx, .int .i64 x1, .int .i64 x2, .int .i64 x3, .int .i64 x4] 39)
        have nb := newBk wr (.cells #[.slice ux x0.length kx, .int .i64 x1, .int .i64 x2, .int .i64 x3, .int .i64 x4] 39)
        have HX := hideP hbX
        have HC := hideP hcode
        have OA := hideP (ho.out.stays al)
        have BA := hideP (below_trans bw.out al)
        have hzA : Hid (w.heap.size + 1 ≤ (wr.alloc (.cells #[.slice ux x0.length kx, .int .i64 x1, .int .i64 x2, .int .i64 x3, .int .i64 x4] 39)).heap.size) := Nat.le_trans hzr.out al.size
        have NB := hideP nb
        clear hbX hx hcode hwf al nb
        go_upto_region 7 with fail
        clear q0 q1 q2 q3 q4
        obtain ⟨WA, hWA⟩ : ∃ WA, wr.alloc (.cells #[.slice ux x0.length kx, .int .i64 x1, .int .i64 x2, .int .i64 x3, .int .i64 x4] 39) = WA := ⟨_, rfl⟩
        rw [hWA] at OA BA hzA NB ⊢
        clear hWA
        go_wp2_with fail
        refine (opq 22 (bL_len (by unfold I64; omega)) (blockText_any (j : Int) (by unfold I64; omega) _ (tab_below HT.out BA.out))).mono ?_
        rintro e2 w2 ⟨s2, rfl, S2, z2, bel2⟩
        have O2 := hideP (OA.out.stays bel2)
        have B2 := hideP (below_trans BA.out bel2)
        have N2 := hideP (keepB NB.out bel2)
        have Z2 : Hid (w.heap.size + 1 ≤ w2.heap.size) := Nat.le_trans hzA.out bel2.size
        have PS1 : Hid ((ps ++ [s2 ++ ⟨#[58, 10]⟩]).map (fun b : ByteArray => b.data.toList) = linesUp blocks j ++ [headG j] ++ (x0.take 0).map lineG) := by
          show _ = _
          rw [List.map_append, hps.out]
          simp [headG, S2.out]
        have SZ1 : Hid (∀ p ∈ ps ++ [s2 ++ ⟨#[58, 10]⟩], p.size ≤ 200) := fun p hp => by
          rcases List.mem_append.1 hp with h | h
          · exact hsz.out p h
          · rw [List.mem_singleton.1 h, ByteArray.size_append]; show s2.size + 2 ≤ 200; omega
        clear bel2 OA BA NB hzA
        have al := fun o : Obj => (Below.refl w2.heap.size w2).alloc (Nat.le_refl _) o
        have AL := hideP al
        clear al
        go_upto_region 8 with (at_builtin; refine list_appS _ rfl _ _ rfl (w.heap.size + 1) _ ps (s2 ++ ⟨#[58, 10]⟩) w2.heap.size rfl rfl (O2.out.stays (AL.out _)) (by simp) (by omega) (Nat.le_trans Z2.out (AL.out _).size) ?_; intro v3 w3 o3 grow3)
        have O3 := hideP o3
        have B3 := hideP ((below_trans B2.out (AL.out _)).grown grow3 (Nat.le_trans (Nat.le_of_succ_le Z2.out) (AL.out _).size) (fun b' hb' => by have := (O2.out.low b' hb').1; omega))
        have N3 := hideP ((O2.out.stays (AL.out _)).box (by decide) (keepB N2.out (AL.out _)) grow3)
        have Z3 : Hid (w.heap.size + 1 ≤ w3.heap.size) := Nat.le_trans Z2.out (Nat.le_trans (AL.out _).size grow3.size)
        clear o3 grow3 O2 B2 N2 Z2 AL
        have n0 := (cells_of N3.out).1 0
        simp at n0
        go_wp2
        clear n0
        go_loopw [3, 29] (fun l i wr2 => ∃ (k : Nat) (qs : List ByteArray), k ≤ x0.length ∧ i = .int .i64 k ∧ Hid (qs.map (fun b : ByteArray => b.data.toList) = linesUp blocks j ++ [headG j] ++ (x0.take k).map lineG) ∧ Hid (∀ p ∈ qs, p.size ≤ 200) ∧ Hid (OwnS wr2 (w.heap.size + 1) l qs) ∧ Hid (Below w.heap.size w wr2) ∧ Hid (w.heap.size + 1 ≤ wr2.heap.size) ∧ Hid (wr2.heap[wr.heap.size]? = some (.cells #[.slice ux x0.length kx, .int .i64 x1, .int .i64 x2, .int .i64 x3, .int .i64 x4] 39))) (fun _ i _ => x0.length - (intOf i).toNat)
        case atStart => exact ⟨0, _, Nat.zero_le _, rfl, PS1.out, SZ1.out, O3.out, B3.out, Z3.out, N3.out⟩
        case round =>
          obtain ⟨k, qs, hk, rfl, hqs, hqz, hqo, hqb, hqw, hqn⟩ := hrel
          have hql : qs.length ≤ 2700 := by
            have h1 := congrArg List.length hqs.out
            have h2 := LF.out j hj
            have h3 : (x0.take k).length ≤ k := List.length_take_le _ _
            simp only [List.length_map, List.length_append, List.length_singleton] at h1
            omega
          by_cases hkl : k < x0.length
          · obtain ⟨bu, ou, i0, i1, i2, i3, i4, i5, i6, rfl, _, hbu, hxi, c0, c1, c2, c3, c4, c5, c6, hI⟩ := Ins_get HC.out k hkl
            replace c0 := (hqb.out.cell (p := ⟨bu, _, none⟩) hbu).trans c0
            replace c1 := (hqb.out.cell (p := ⟨bu, _, none⟩) hbu).trans c1
            replace c2 := (hqb.out.cell (p := ⟨bu, _, none⟩) hbu).trans c2
            replace c3 := (hqb.out.cell (p := ⟨bu, _, none⟩) hbu).trans c3
            replace c4 := (hqb.out.cell (p := ⟨bu, _, none⟩) hbu).trans c4
            replace c5 := (hqb.out.cell (p := ⟨bu, _, none⟩) hbu).trans c5
            replace c6 := (hqb.out.cell (p := ⟨bu, _, none⟩) hbu).trans c6
            obtain ⟨hop, h2, h34⟩ := ok_parts (OKB.out _ (List.getElem_mem hkl))
            rw [hxi] at hop h2 h34
            have SL := hideP (stepL_len hI.2.1 h2)
            have SX : Hid (∀ W, Below w.heap.size w W → Calls Tryd.prog 18 #[.agg #[.int .i64 i0, .int .i64 i1, .int .i64 i2, .int .i64 i3, .int .i64 i4, .int .i64 i5, .string i6]] W fun e w' => ∃ s : ByteArray, e = .returned (.string s) ∧ Hid (s.data.toList = stepL ⟨i0, i1, i2, i3, i4, i5, i6⟩) ∧ s.size ≤ 150 ∧ Below W.heap.size W w') := fun W hW => opq 150 SL.out (stepText_any ⟨i0, i1, i2, i3, i4, i5, i6⟩ W 0 _ ⟨rfl, hI.2⟩ hop h2 h34 (tab_below HT.out hW))
            have TK : Hid (linesUp blocks j ++ [headG j] ++ (x0.take (k + 1)).map lineG = linesUp blocks j ++ [headG j] ++ (x0.take k).map lineG ++ [stepL ⟨i0, i1, i2, i3, i4, i5, i6⟩ ++ [10]]) := by
              show _ = _
              rw [List.take_succ_eq_append_getElem hkl, hxi]
              simp [lineG]
            have al := (Below.refl wr.heap.size wr).alloc (Nat.le_refl _) (.cells #[.int .i64 i0, .int .i64 i1, .int .i64 i2, .int .i64 i3, .int .i64 i4, .int .i64 i5, .string i6] 43)
            have nx := newBk wr (.cells #[.int .i64 i0, .int .i64 i1, .int .i64 i2, .int .i64 i3, .int .i64 i4, .int .i64 i5, .string i6] 43)
            have OA := hideP (hqo.out.stays al)
            have BA := hideP (below_trans hqb.out al)
            have NA := hideP (keepB hqn.out al)
            have ZA : Hid (w.heap.size + 1 ≤ (wr.alloc (.cells #[.int .i64 i0, .int .i64 i1, .int .i64 i2, .int .i64 i3, .int .i64 i4, .int .i64 i5, .string i6] 43)).heap.size) := Nat.le_trans hqw.out al.size
            clear al hop h2 h34 hxi hI SL
            go_upto_region 11 with fail
            clear c0 c1 c2 c3 c4 c5 c6
            obtain ⟨WI, hWI⟩ : ∃ WI, wr.alloc (.cells #[.int .i64 i0, .int .i64 i1, .int .i64 i2, .int .i64 i3, .int .i64 i4, .int .i64 i5, .string i6] 43) = WI := ⟨_, rfl⟩
            rw [hWI] at nx OA BA NA ZA ⊢
            clear hWI
            have y0 := (cells_of nx).1 0
            have y1 := (cells_of nx).1 1
            have y2 := (cells_of nx).1 2
            have y3 := (cells_of nx).1 3
            have y4 := (cells_of nx).1 4
            have y5 := (cells_of nx).1 5
            have y6 := (cells_of nx).1 6
            simp at y0 y1 y2 y3 y4 y5 y6
            clear nx
            go_wp2_with fail
            refine (SX.out _ BA.out).mono ?_
            rintro e4 w4 ⟨s4, rfl, S4, z4, bel4⟩
            have O4 := hideP (OA.out.stays bel4)
            have B4 := hideP (below_trans BA.out bel4)
            have N4 := hideP (keepB NA.out bel4)
            have Z4 : Hid (w.heap.size + 1 ≤ w4.heap.size) := Nat.le_trans ZA.out bel4.size
            have QS : Hid ((qs ++ [s4 ++ ⟨#[10]⟩]).map (fun b : ByteArray => b.data.toList) = linesUp blocks j ++ [headG j] ++ (x0.take (k + 1)).map lineG) := by
              show _ = _
              rw [TK.out, List.map_append, hqs.out]
              simp [S4.out]
            have QZ : Hid (∀ p ∈ qs ++ [s4 ++ ⟨#[10]⟩], p.size ≤ 200) := fun p hp => by
              rcases List.mem_append.1 hp with h | h
              · exact hqz.out p h
              · rw [List.mem_singleton.1 h, ByteArray.size_append]; show s4.size + 1 ≤ 200; omega
            have AL := hideP (fun o : Obj => (Below.refl w4.heap.size w4).alloc (Nat.le_refl _) o)
            clear bel4 OA BA NA ZA y0 y1 y2 y3 y4 y5 y6
            go_upto_region 12 with (at_builtin; refine list_appS _ rfl _ _ rfl (w.heap.size + 1) _ qs (s4 ++ ⟨#[10]⟩) w4.heap.size rfl rfl (O4.out.stays (AL.out _)) (by simp) (by omega) (Nat.le_trans Z4.out (AL.out _).size) ?_; intro v5 w5 o5 grow5)
            have O5 := hideP o5
            have B5 := hideP ((below_trans B4.out (AL.out _)).grown grow5 (Nat.le_trans (Nat.le_of_succ_le Z4.out) (AL.out _).size) (fun b' hb' => by have := (O4.out.low b' hb').1; omega))
            have N5 := hideP ((O4.out.stays (AL.out _)).box (by decide) (keepB N4.out (AL.out _)) grow5)
            have Z5 : Hid (w.heap.size + 1 ≤ w5.heap.size) := Nat.le_trans Z4.out (Nat.le_trans (AL.out _).size grow5.size)
            clear o5 grow5 O4 B4 N4 Z4 AL
            go_wp2
            go_roundw
            case rel => exact ⟨k + 1, _, by omega, by go_num, QS.out, QZ.out, O5.out, B5.out, Z5.out, N5.out⟩
            case measure => simp [intOf]; omega
          · obtain rfl : k = x0.length := by omega
            rw [List.take_length] at hqs
            have y0 := (cells_of hqn.out).1 0
            have y1 := (cells_of hqn.out).1 1
            have y2 := (cells_of hqn.out).1 2
            have y3 := (cells_of hqn.out).1 3
            have y4 := (cells_of hqn.out).1 4
            simp at y0 y1 y2 y3 y4
            go_wp2_with fail
            refine (opq 100 JL.out (jumpText_any ⟨x0, x1, x2, x3, x4⟩ _ B _ (BlkKeeps.stays HX.out hqb.out) (tab_below HT.out hqb.out))).mono ?_
            rintro e4 w4 ⟨s4, rfl, S4, z4, bel4⟩
            have O4 := hideP (hqo.out.stays bel4)
            have B4 := hideP (below_trans hqb.out bel4)
            have Z4 : Hid (w.heap.size + 1 ≤ w4.heap.size) := Nat.le_trans hqw.out bel4.size
            have QS : Hid ((qs ++ [s4 ++ ⟨#[10]⟩]).map (fun b : ByteArray => b.data.toList) = linesUp blocks (j + 1)) := by
              show _ = _
              rw [LU.out, List.map_append, hqs.out]
              simp [S4.out, blkG]
            have QZ : Hid (∀ p ∈ qs ++ [s4 ++ ⟨#[10]⟩], p.size ≤ 200) := fun p hp => by
              rcases List.mem_append.1 hp with h | h
              · exact hqz.out p h
              · rw [List.mem_singleton.1 h, ByteArray.size_append]; show s4.size + 1 ≤ 200; omega
            have AL := hideP (fun o : Obj => (Below.refl w4.heap.size w4).alloc (Nat.le_refl _) o)
            clear bel4 y0 y1 y2 y3 y4
            go_upto_region 14 with (at_builtin; refine list_appS _ rfl _ _ rfl (w.heap.size + 1) _ qs (s4 ++ ⟨#[10]⟩) w4.heap.size rfl rfl (O4.out.stays (AL.out _)) (by simp) (by omega) (Nat.le_trans Z4.out (AL.out _).size) ?_; intro v5 w5 o5 grow5)
            have O5 := hideP o5
            have B5 := hideP ((below_trans B4.out (AL.out _)).grown grow5 (Nat.le_trans (Nat.le_of_succ_le Z4.out) (AL.out _).size) (fun b' hb' => by have := (O4.out.low b' hb').1; omega))
            have Z5 : Hid (w.heap.size + 1 ≤ w5.heap.size) := Nat.le_trans Z4.out (Nat.le_trans (AL.out _).size grow5.size)
            clear o5 grow5 O4 B4 Z4 AL
            go_wp2
            go_roundw
            case rel => exact ⟨j + 1, _, by omega, by go_num, QS.out, QZ.out, O5.out, B5.out, Z5.out⟩
            case measure => simp [intOf]; omega
      · obtain rfl : j = blocks.length := by omega
        have hne : 0 < ps.length := by
          have h1 := congrArg List.length hps.out
          rw [List.length_map, linesUp_len _ _ (Nat.le_refl _)] at h1
          omega
        obtain ⟨gq, capv, rfl, hcap, hg, hcells⟩ := ho.out.at hne
        have JJ : Hid (Lib.join (ps.map (fun b : ByteArray => b.data.toList)) [] = showGL ⟨sizes, params, vars, slots, blocks⟩) := by
          show _ = _
          rw [join_empty, hps.out, E.out]
        have JLn : (Lib.join (ps.map (fun b : ByteArray => b.data.toList)) []).length ≤ 200 * ps.length := by rw [join_empty]; exact flat_len ps hsz.out
        have JC := hideP (Tryd.strings_Join gq 0 capv ps ⟨#[]⟩ wr hcells hg (by omega) hcap (by show (Lib.join _ []).length ≤ _; omega))
        clear hcells hg hcap JLn
        go_wp2_with fail
        refine JC.out.mono ?_
        rintro e6 w6 ⟨rfl, bel6⟩
        have HW6 := hideP (below_trans bw.out bel6)
        clear bel6
        go_wp2
        go_ret
        exact ⟨ret_str (by have := JJ.out; show (⟨(Lib.join _ []).toArray⟩ : ByteArray) = _; rw [this]), HW6.out⟩
end Go.Proofs.YtdkdimklacblaajDoor
