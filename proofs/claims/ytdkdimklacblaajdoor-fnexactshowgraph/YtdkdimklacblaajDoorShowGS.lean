/- The contract of spec.ShowGraph. -/
import Derived.Test.YtdkdimklacblaajDoorShowGP
import Derived.Test.YtdkdimklacblaajDoorShowInSa
namespace Go.Proofs.YtdkdimklacblaajDoor
open Go.ChangeShapes Go.WideShapes Go.ChangeAt Go.RowKit
theorem i64_nat {j : Nat} (h : j ≤ 100000) : I64 (j : Int) := by unfold I64; omega
set_option maxHeartbeats 8000000 in
set_option maxRecDepth 100000 in
theorem spec_showGraph (g : Gr) (w : World) (B : Nat) (v : Array Value) (h : GrIs w B v g) (GO : ∀ W A v, GrIs W A v g → Calls Tryd.prog 11 #[.agg v] W fun en w' => en = .returned (.bool (grOk g)) ∧ Below W.heap.size W w') :
    Calls Tryd.prog 5 #[.agg v] w fun en w' => en = .returned (.string ⟨(showGL g).toArray⟩) ∧ Below w.heap.size w w' := by
  have hG := hideP h
  obtain ⟨gok, hgok⟩ : ∃ r, grOk g = r := ⟨_, rfl⟩
  have GO1 : Hid (∀ W A v, GrIs W A v g → Calls Tryd.prog 11 #[.agg v] W fun en w' => en = .returned (.bool gok) ∧ Below W.heap.size W w') := fun W A v hv => hgok ▸ GO W A v hv
  have HK := hideP hgok
  clear hgok GO
  obtain ⟨R, hR⟩ : ∃ R : List UInt8, showGL g = R := ⟨_, rfl⟩
  rw [hR]
  have HR := hideP hR
  clear hR
  obtain ⟨sizes, params, vars, slots, blocks⟩ := g
  obtain ⟨us, cs, ub, cb, rfl, _, _, hb⟩ := h
  simp only at *
  have hm := maxLen_lt
  have hlb := hb.1
  have HB := hideP hb
  clear hb
  have E0 : Hid (gok = false → R = []) := fun e => by rw [← HR.out]; exact if_neg (by rw [HK.out, e]; simp)
  have EE : Hid (gok = true → R = (linesUp blocks blocks.length).flatten) := fun e => by rw [← HR.out]; exact if_pos (HK.out.trans e)
  have FEW : Hid (gok = true → (codeAll blocks).length ≤ 1000 ∧ 1 ≤ blocks.length ∧ blocks.length ≤ 300) := fun e => grOk_few (g := ⟨sizes, params, vars, slots, blocks⟩) (HK.out.trans e)
  have LF : Hid (gok = true → ∀ j, j ≤ blocks.length → (linesUp blocks j).length ≤ 1600) := fun e j hj => lines_few (g := ⟨sizes, params, vars, slots, blocks⟩) (HK.out.trans e) j hj
  have OKS : Hid (gok = true → ∀ b ∈ blocks, ∀ x ∈ b.code, insOk (sizes.length : Nat) slots x = true) := fun e b hb x hx => grOk_step (g := ⟨sizes, params, vars, slots, blocks⟩) (HK.out.trans e) hb hx
  have Q1 := hideP (newBk w (.cells #[.slice us sizes.length cs, .int .i64 params, .int .i64 vars, .int .i64 slots, .slice ub blocks.length cb] 30))
  have BW : Hid (Below w.heap.size w (w.alloc (.cells #[.slice us sizes.length cs, .int .i64 params, .int .i64 vars, .int .i64 slots, .slice ub blocks.length cb] 30))) := (Below.refl _ _).alloc (Nat.le_refl _) _
  clear HK HR
  go_enter Tryd.func5, Tryd.ntmps5
  go_wp2
  go_loopw [3, 4] (fun q i wr => ∃ (j : Nat) (s : ByteArray), j ≤ blocks.length ∧ i = .int .i64 j ∧ q = .string s ∧ Hid (s.data.toList = (linesUp blocks j).flatten) ∧ Hid (s.size ≤ 200 * (linesUp blocks j).length) ∧ Hid (j = 0 ∨ gok = true) ∧ Hid (Below w.heap.size w wr) ∧ Hid (wr.heap[w.heap.size]? = some (.cells #[.slice us sizes.length cs, .int .i64 params, .int .i64 vars, .int .i64 slots, .slice ub blocks.length cb] 30))) (fun _ i _ => blocks.length - (intOf i).toNat)
  case atStart => exact ⟨0, ⟨#[]⟩, Nat.zero_le _, rfl, rfl, rfl, Nat.zero_le _, Or.inl rfl, BW.out, Q1.out⟩
  case round =>
    obtain ⟨j, s, hj, rfl, rfl, hs, hsz, hj0, bw, qg⟩ := hrel
    have p0 := (cells_of qg.out).1 0
    have p1 := (cells_of qg.out).1 1
    have p2 := (cells_of qg.out).1 2
    have p3 := (cells_of qg.out).1 3
    have p4 := (cells_of qg.out).1 4
    simp at p0 p1 p2 p3 p4
    by_cases hlt : j < blocks.length
    · go_wp2_with fail
      refine (GO1.out _ B _ (GrKeeps.stays hG.out bw.out)).mono ?_
      rintro e1 w1 ⟨rfl, bel1⟩
      have bw1 := hideP (below_trans bw.out bel1)
      have qg1 := hideP (keepB qg.out bel1)
      clear bel1 p0 p1 p2 p3 p4
      cases gok with
      | false =>
        have hj1 : j = 0 := by rcases hj0.out with h | h; exact h; exact absurd h (by decide)
        subst hj1
        have E1 : Hid (R = []) := E0.out rfl
        clear E0 EE FEW LF OKS
        go_wp2
        go_ret
        exact ⟨ret_str (mk_of (by rw [E1.out]; exact hs.out)), bw1.out⟩
      | true =>
        have few := FEW.out rfl
        have LF1 := hideP (LF.out rfl)
        have OK1 := hideP (OKS.out rfl)
        clear E0 EE FEW LF OKS GO1 hj0
        have hn1 := LF1.out j hj
        have hs1 : s.size ≤ 320000 := by have := hsz.out; omega
        obtain ⟨b, o, x0, x1, x2, x3, x4, ux, kx, rfl, _, hbb, hx, q0, q1, q2, q3, q4, hbX⟩ := Blk_get HB.out j hlt
        replace q0 := (bw1.out.cell (p := ⟨b, _, none⟩) hbb).trans q0
        replace q1 := (bw1.out.cell (p := ⟨b, _, none⟩) hbb).trans q1
        replace q2 := (bw1.out.cell (p := ⟨b, _, none⟩) hbb).trans q2
        replace q3 := (bw1.out.cell (p := ⟨b, _, none⟩) hbb).trans q3
        replace q4 := (bw1.out.cell (p := ⟨b, _, none⟩) hbb).trans q4
        have p4 := (cells_of qg1.out).1 4
        simp at p4
        have LU := hideP (linesUp_at hlt hx)
        have h5 : (linesUp blocks (j + 1)).length = (linesUp blocks j).length + (2 + x0.length) := by rw [LU.out]; simp [blkG]; omega
        have hcl : x0.length ≤ 1600 := by have := LF1.out (j + 1) (by omega); omega
        have OKB : Hid (∀ x ∈ x0, insOk (sizes.length : Nat) slots x = true) := fun x hx' => OK1.out _ (List.getElem_mem hlt) x (by rw [hx]; exact hx')
        have hwfB := hbX
        obtain ⟨u', c', hv, hwf, hcode⟩ := hwfB
        simp at hv
        obtain ⟨⟨rfl, rfl⟩, -⟩ := hv
        obtain ⟨_, ka, kt, ke⟩ := hwf
        simp only at ka kt ke
        obtain ⟨sj, SJ, zj, CJ⟩ := dec_let (j : Int) (i64_nat (by omega))
        obtain ⟨sa, SA, za, CA⟩ := dec_let x2 ka
        obtain ⟨st, ST, zt, CT⟩ := dec_let x3 kt
        obtain ⟨se, SE, ze, CE⟩ := dec_let x4 ke
        have al := (Below.refl w1.heap.size w1).alloc (Nat.le_refl _) (.cells #[.slice ux x0.length kx, .int .i64 x1, .int .i64 x2, .int .i64 x3, .int .i64 x4] 39)
        have NB := hideP (newBk w1 (.cells #[.slice ux x0.length kx, .int .i64 x1, .int .i64 x2, .int .i64 x3, .int .i64 x4] 39))
        have HC := hideP hcode
        have BA := hideP (below_trans bw1.out al)
        have QA := hideP (keepB qg1.out al)
        have H5 := hideP h5
        clear hbX hx hcode al h5
        go_upto_region 6 with fail
        clear q0 q1 q2 q3 q4 p4
        obtain ⟨WB, hWB⟩ : ∃ WB, w1.alloc (.cells #[.slice ux x0.length kx, .int .i64 x1, .int .i64 x2, .int .i64 x3, .int .i64 x4] 39) = WB := ⟨_, rfl⟩
        rw [hWB] at NB BA QA ⊢
        clear hWB
        go_wp2_with fail
        refine (CJ.out _).mono ?_
        rintro e2 w2 ⟨rfl, hw2⟩
        have hw3 := hw2.symm
        subst hw3
        clear hw2
        have T0 : Hid ((s ++ ⟨#[98]⟩ ++ sj ++ ⟨#[58, 10]⟩ : ByteArray).data.toList = (linesUp blocks j ++ [headG j] ++ (x0.take 0).map lineG).flatten) := by
          show _ = _
          simp [hs.out, SJ.out, headG, bL]
        have Z0 : Hid ((s ++ ⟨#[98]⟩ ++ sj ++ ⟨#[58, 10]⟩ : ByteArray).size ≤ 200 * ((linesUp blocks j).length + 1 + 0)) := by
          have := hsz.out
          show _ ≤ _
          rw [ByteArray.size_append, ByteArray.size_append, ByteArray.size_append]
          show s.size + 1 + sj.size + 2 ≤ _
          omega
        go_wp2
        go_loopw [3, 6] (fun q i wr2 => ∃ (k : Nat) (t : ByteArray), k ≤ x0.length ∧ i = .int .i64 k ∧ q = .string t ∧ Hid (t.data.toList = (linesUp blocks j ++ [headG j] ++ (x0.take k).map lineG).flatten) ∧ Hid (t.size ≤ 200 * ((linesUp blocks j).length + 1 + k)) ∧ Hid (Below WB.heap.size WB wr2)) (fun _ i _ => x0.length - (intOf i).toNat)
        case atStart => exact ⟨0, _, Nat.zero_le _, rfl, rfl, T0.out, Z0.out, Below.refl _ _⟩
        case round =>
          obtain ⟨k, t, hk, rfl, rfl, ht, htz, hbr⟩ := hrel
          have ht1 : t.size ≤ 1000000 := by have := htz.out; omega
          have nbr := keepB NB.out hbr.out
          have y0 := (cells_of nbr).1 0
          have y1 := (cells_of nbr).1 1
          have y2 := (cells_of nbr).1 2
          have y3 := (cells_of nbr).1 3
          have y4 := (cells_of nbr).1 4
          simp at y0 y1 y2 y3 y4
          have BR := hideP (below_trans BA.out hbr.out)
          have QR := hideP (keepB QA.out hbr.out)
          by_cases hkl : k < x0.length
          · obtain ⟨bu, ou, i0, i1, i2, i3, i4, i5, i6, rfl, _, hbu, hxi, c0, c1, c2, c3, c4, c5, c6, hI⟩ := Ins_get HC.out k hkl
            replace c0 := (BR.out.cell (p := ⟨bu, _, none⟩) hbu).trans c0
            replace c1 := (BR.out.cell (p := ⟨bu, _, none⟩) hbu).trans c1
            replace c2 := (BR.out.cell (p := ⟨bu, _, none⟩) hbu).trans c2
            replace c3 := (BR.out.cell (p := ⟨bu, _, none⟩) hbu).trans c3
            replace c4 := (BR.out.cell (p := ⟨bu, _, none⟩) hbu).trans c4
            replace c5 := (BR.out.cell (p := ⟨bu, _, none⟩) hbu).trans c5
            replace c6 := (BR.out.cell (p := ⟨bu, _, none⟩) hbu).trans c6
            obtain ⟨hop, h2, _⟩ := ok_parts (OKB.out _ (List.getElem_mem hkl))
            rw [hxi] at hop h2
            have SX : Hid (∀ W, Calls Tryd.prog 13 #[.agg #[.int .i64 i0, .int .i64 i1, .int .i64 i2, .int .i64 i3, .int .i64 i4, .int .i64 i5, .string i6]] W fun e w' => ∃ s : ByteArray, e = .returned (.string s) ∧ Hid (s.data.toList = stepL ⟨i0, i1, i2, i3, i4, i5, i6⟩) ∧ s.size ≤ 150 ∧ Below W.heap.size W w') := fun W => opq 150 (stepL_len hI.2.1 h2) (l04Text_any ⟨i0, i1, i2, i3, i4, i5, i6⟩ W 0 _ ⟨rfl, hI.2⟩ hop h2)
            have TK : Hid ((linesUp blocks j ++ [headG j] ++ (x0.take (k + 1)).map lineG).flatten = (linesUp blocks j ++ [headG j] ++ (x0.take k).map lineG).flatten ++ (stepL ⟨i0, i1, i2, i3, i4, i5, i6⟩ ++ [10])) := by
              show _ = _
              rw [List.take_succ_eq_append_getElem hkl, hxi]
              simp [lineG]
            clear hop h2 hxi hI nbr
            go_wp2_with fail
            refine (SX.out _).mono ?_
            rintro e4 w4 ⟨s4, rfl, S4, z4, bel4⟩
            have B4 := hideP (below_trans hbr.out bel4)
            have T4 : Hid ((t ++ s4 ++ ⟨#[10]⟩ : ByteArray).data.toList = (linesUp blocks j ++ [headG j] ++ (x0.take (k + 1)).map lineG).flatten) := by
              show _ = _
              rw [TK.out, ← ht.out]
              simp [S4.out]
            have Z4 : Hid ((t ++ s4 ++ ⟨#[10]⟩ : ByteArray).size ≤ 200 * ((linesUp blocks j).length + 1 + (k + 1))) := by
              have := htz.out
              show _ ≤ _
              rw [ByteArray.size_append, ByteArray.size_append]
              show t.size + s4.size + 1 ≤ _
              omega
            clear bel4 y0 y1 y2 y3 y4 c0 c1 c2 c3 c4 c5 c6
            go_wp2
            go_roundw
            case rel => exact ⟨k + 1, _, by omega, by go_num, rfl, T4.out, Z4.out, B4.out⟩
            case measure => simp [intOf]; omega
          · obtain rfl : k = x0.length := by omega
            rw [List.take_length] at ht
            have LUF : Hid (∀ l : List UInt8, jumpL ⟨x0, x1, x2, x3, x4⟩ = l → (linesUp blocks (j + 1)).flatten = t.data.toList ++ (l ++ [10])) := fun l hl => by
              rw [LU.out, ht.out]
              simp [blkG, hl]
            by_cases h0 : x1 = 0
            · subst h0
              have J1 := hideP (LUF.out ([103, 111, 32] ++ bL x3) (if_pos rfl))
              clear nbr
              go_wp2_with fail
              refine (CT.out _).mono ?_
              rintro e5 w5 ⟨rfl, hw5⟩
              have hw6 := hw5.symm
              subst hw6
              clear hw5 y0 y1 y2 y3 y4
              have T5 : Hid ((t ++ ⟨#[103, 111, 32, 98]⟩ ++ st ++ ⟨#[10]⟩ : ByteArray).data.toList = (linesUp blocks (j + 1)).flatten) := by
                show _ = _
                rw [J1.out]
                simp [ST.out, bL]
              have Z5 : Hid ((t ++ ⟨#[103, 111, 32, 98]⟩ ++ st ++ ⟨#[10]⟩ : ByteArray).size ≤ 200 * (linesUp blocks (j + 1)).length) := by
                have := htz.out
                show _ ≤ _
                rw [ByteArray.size_append, ByteArray.size_append, ByteArray.size_append, H5.out]
                show t.size + 4 + st.size + 1 ≤ _
                omega
              go_wp2
              go_roundw
              case rel => exact ⟨j + 1, _, by omega, by go_num, rfl, T5.out, Z5.out, Or.inr (by first | rfl | trivial), BR.out, QR.out⟩
              case measure => simp [intOf]; omega
            · by_cases h1 : x1 = 1
              · subst h1
                have J1 := hideP (LUF.out ([105, 102, 32] ++ (sL x2 ++ (32 :: (bL x3 ++ (32 :: bL x4))))) (by simp [jumpL]))
                have hne : w1.heap.size < wr.heap.size := (Array.getElem?_eq_some_iff.1 nbr).1
                have SK : Hid (∀ W', Below wr.heap.size wr W' → W'.cell? ⟨w1.heap.size, 2, none⟩ = some (.int .i64 x2) ∧ W'.cell? ⟨w1.heap.size, 3, none⟩ = some (.int .i64 x3) ∧ W'.cell? ⟨w1.heap.size, 4, none⟩ = some (.int .i64 x4)) := fun W' hW => ⟨(hW.cell (p := ⟨w1.heap.size, 2, none⟩) hne).trans y2, (hW.cell (p := ⟨w1.heap.size, 3, none⟩) hne).trans y3, (hW.cell (p := ⟨w1.heap.size, 4, none⟩) hne).trans y4⟩
                have m0 : ¬ 9223372036854775807 < t.size + 4 := by omega
                have m1 : ¬ 9223372036854775807 < t.size + 4 + sa.size := by omega
                have m2 : ¬ 9223372036854775807 < t.size + 4 + sa.size + 2 := by omega
                have m3 : ¬ 9223372036854775807 < t.size + 4 + sa.size + 2 + st.size := by omega
                have m4 : ¬ 9223372036854775807 < t.size + 4 + sa.size + 2 + st.size + 2 := by omega
                have m5 : ¬ 9223372036854775807 < t.size + 4 + sa.size + 2 + st.size + 2 + se.size := by omega
                have m6 : ¬ 9223372036854775807 < t.size + 4 + sa.size + 2 + st.size + 2 + se.size + 1 := by omega
                have T5 : Hid ((t ++ ⟨#[105, 102, 32, 115]⟩ ++ sa ++ ⟨#[32, 98]⟩ ++ st ++ ⟨#[32, 98]⟩ ++ se ++ ⟨#[10]⟩ : ByteArray).data.toList = (linesUp blocks (j + 1)).flatten) := by
                  show _ = _
                  rw [J1.out]
                  simp [SA.out, ST.out, SE.out, bL, sL]
                have Z5 : Hid ((t ++ ⟨#[105, 102, 32, 115]⟩ ++ sa ++ ⟨#[32, 98]⟩ ++ st ++ ⟨#[32, 98]⟩ ++ se ++ ⟨#[10]⟩ : ByteArray).size ≤ 200 * (linesUp blocks (j + 1)).length) := by
                  have := htz.out
                  show _ ≤ _
                  rw [ByteArray.size_append, ByteArray.size_append, ByteArray.size_append, ByteArray.size_append, ByteArray.size_append, ByteArray.size_append, ByteArray.size_append, H5.out]
                  show t.size + 4 + sa.size + 2 + st.size + 2 + se.size + 1 ≤ _
                  omega
                have DR := hideP ((Below.refl wr.heap.size wr).drew)
                clear nbr
                go_upto_region 16 with fail
                clear y0 y1 y2 y3 y4
                go_region_held3 (fun W' => W'.cell? ⟨w1.heap.size, 2, none⟩ = some (.int .i64 x2) ∧ W'.cell? ⟨w1.heap.size, 3, none⟩ = some (.int .i64 x3) ∧ W'.cell? ⟨w1.heap.size, 4, none⟩ = some (.int .i64 x4)) (first | exact SK.out _ (Below.refl _ _).drew) (first
                  | (go_at_call 12; refine (CA.out _).mono ?_; rintro e5 w5 ⟨rfl, rfl⟩; clear CA)
                  | (go_at_call 12; refine (CT.out _).mono ?_; rintro e6 w6 ⟨rfl, rfl⟩; clear CT)
                  | (go_at_call 12; refine (CE.out _).mono ?_; rintro e7 w7 ⟨rfl, rfl⟩; clear CE))
                all_goals (go_wp2; go_roundw)
                case rel => exact ⟨j + 1, _, by omega, by go_num, rfl, T5.out, Z5.out, Or.inr (by first | rfl | trivial), below_trans BR.out DR.out, keepB QR.out DR.out⟩
                case measure => simp [intOf]; omega
              · have J1 := hideP (LUF.out ([114, 101, 116, 32] ++ sL x2) (by simp [jumpL, h0, h1]))
                clear nbr
                go_wp2_with fail
                refine (CA.out _).mono ?_
                rintro e5 w5 ⟨rfl, hw5⟩
                have hw6 := hw5.symm
                subst hw6
                clear hw5 y0 y1 y2 y3 y4
                have T5 : Hid ((t ++ ⟨#[114, 101, 116, 32, 115]⟩ ++ sa ++ ⟨#[10]⟩ : ByteArray).data.toList = (linesUp blocks (j + 1)).flatten) := by
                  show _ = _
                  rw [J1.out]
                  simp [SA.out, sL]
                have Z5 : Hid ((t ++ ⟨#[114, 101, 116, 32, 115]⟩ ++ sa ++ ⟨#[10]⟩ : ByteArray).size ≤ 200 * (linesUp blocks (j + 1)).length) := by
                  have := htz.out
                  show _ ≤ _
                  rw [ByteArray.size_append, ByteArray.size_append, ByteArray.size_append, H5.out]
                  show t.size + 5 + sa.size + 1 ≤ _
                  omega
                go_wp2
                go_roundw
                case rel => exact ⟨j + 1, _, by omega, by go_num, rfl, T5.out, Z5.out, Or.inr (by first | rfl | trivial), BR.out, QR.out⟩
                case measure => simp [intOf]; omega
    · obtain rfl : j = blocks.length := by omega
      have RES : Hid (s.data.toList = R) := by
        show _ = _
        rw [hs.out]
        cases gok with
        | true => exact (EE.out rfl).symm
        | false =>
          rw [E0.out rfl]
          have h0 : blocks.length = 0 := by rcases hj0.out with h | h; exact h; exact absurd h (by decide)
          rw [h0]; rfl
      clear E0 EE
      go_wp2
      go_ret
      exact ⟨ret_str (mk_of RES.out), bw.out⟩
end Go.Proofs.YtdkdimklacblaajDoor
