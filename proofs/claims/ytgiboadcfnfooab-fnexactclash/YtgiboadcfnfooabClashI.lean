/- The contracts of impl.mayMeet and impl.Clash (written by wip/mkclash.py). -/
import Derived.Test.YtgiboadcfnfooabClPre
import Derived.Test.YtgiboadcfnfooabHasI
import Derived.Test.YtgiboadcfnfooabPlcI
import Derived.Conc.WalkWords
namespace Go.Proofs.Ytgiboadcfnfooab
open Go.ChangeShapes Go.WideShapes Go.ChangeAt Go.RowKit
set_option maxRecDepth 100000 in
set_option maxHeartbeats 4000000 in
theorem mayMeet_any (x y : Ins) (w : World) :
    Calls Try.prog 40 #[.agg (insV x), .agg (insV y)] w fun e w' => e = .returned (.bool (meetP x y)) ∧ Below w.heap.size w w' := by
  have TX := hideP (fun W => touches_any x W)
  have TY := hideP (fun W => touches_any y W)
  obtain ⟨op1, d1, a1, b1, c1, n1, t1⟩ := x
  obtain ⟨op2, d2, a2, b2, c2, n2, t2⟩ := y
  simp only [insV] at *
  have BW := hideP (below2 w (.cells #[.int .i64 op1, .int .i64 d1, .int .i64 a1, .int .i64 b1, .int .i64 c1, .int .i64 n1, .string t1] 66) (.cells #[.int .i64 op2, .int .i64 d2, .int .i64 a2, .int .i64 b2, .int .i64 c2, .int .i64 n2, .string t2] 66))
  have h2 := two (Below.refl ((w.alloc (.cells #[.int .i64 op1, .int .i64 d1, .int .i64 a1, .int .i64 b1, .int .i64 c1, .int .i64 n1, .string t1] 66)).alloc (.cells #[.int .i64 op2, .int .i64 d2, .int .i64 a2, .int .i64 b2, .int .i64 c2, .int .i64 n2, .string t2] 66)).heap.size _)
  have Q0 := hideP h2.1
  have Q1 := hideP h2.2.1
  clear h2
  by_cases h1 : op1 = 3 ∨ op1 = 4
  case neg =>
    have E : Hid (meetP ⟨op1, d1, a1, b1, c1, n1, t1⟩ ⟨op2, d2, a2, b2, c2, n2, t2⟩ = false) := by show _ = _; simp [meetP, touchB, h1]
    rw [decide_eq_false h1] at TX
    go_enter Try.func40, Try.ntmps40
    go_wp2_with fail
    refine (TX.out _).mono ?_
    rintro e1 w1 ⟨rfl, bel1⟩
    replace BW := hideP (below_trans BW.out bel1)
    clear bel1
    go_wp2
    go_ret
    exact ⟨ret_bool (by rw [E.out]), BW.out⟩
  case pos =>
    rw [decide_eq_true h1] at TX
    by_cases h2 : op2 = 3 ∨ op2 = 4
    case neg =>
      have E : Hid (meetP ⟨op1, d1, a1, b1, c1, n1, t1⟩ ⟨op2, d2, a2, b2, c2, n2, t2⟩ = false) := by show _ = _; simp [meetP, touchB, h2]
      rw [decide_eq_false h2] at TY
      go_enter Try.func40, Try.ntmps40
      go_wp2_with fail
      refine (TX.out _).mono ?_
      rintro e1 w1 ⟨rfl, bel1⟩
      replace BW := hideP (below_trans BW.out bel1)
      replace Q1 := hideP (keepB Q1.out bel1)
      clear bel1
      have g0 := (cells_of Q1.out).1 0
      have g1 := (cells_of Q1.out).1 1
      have g2 := (cells_of Q1.out).1 2
      have g3 := (cells_of Q1.out).1 3
      have g4 := (cells_of Q1.out).1 4
      have g5 := (cells_of Q1.out).1 5
      have g6 := (cells_of Q1.out).1 6
      simp at g0 g1 g2 g3 g4 g5 g6
      go_wp2_with fail
      refine (TY.out _).mono ?_
      rintro e2 w2 ⟨rfl, bel2⟩
      replace BW := hideP (below_trans BW.out bel2)
      clear bel2
      go_wp2
      go_ret
      exact ⟨ret_bool (by rw [E.out]), BW.out⟩
    case pos =>
      have E : Hid (meetP ⟨op1, d1, a1, b1, c1, n1, t1⟩ ⟨op2, d2, a2, b2, c2, n2, t2⟩ = (op1 == 4 || op2 == 4)) := by
        show _ = _
        have e1 : touchB ⟨op1, d1, a1, b1, c1, n1, t1⟩ = true := decide_eq_true h1
        have e2 : touchB ⟨op2, d2, a2, b2, c2, n2, t2⟩ = true := decide_eq_true h2
        unfold meetP
        rw [e1, e2, Bool.true_and, Bool.true_and, Bool.eq_iff_iff]
        simp
      rw [decide_eq_true h2] at TY
      go_enter Try.func40, Try.ntmps40
      go_wp2_with fail
      refine (TX.out _).mono ?_
      rintro e1 w1 ⟨rfl, bel1⟩
      replace BW := hideP (below_trans BW.out bel1)
      replace Q0 := hideP (keepB Q0.out bel1)
      replace Q1 := hideP (keepB Q1.out bel1)
      clear bel1
      have g0 := (cells_of Q1.out).1 0
      have g1 := (cells_of Q1.out).1 1
      have g2 := (cells_of Q1.out).1 2
      have g3 := (cells_of Q1.out).1 3
      have g4 := (cells_of Q1.out).1 4
      have g5 := (cells_of Q1.out).1 5
      have g6 := (cells_of Q1.out).1 6
      simp at g0 g1 g2 g3 g4 g5 g6
      go_wp2_with fail
      refine (TY.out _).mono ?_
      rintro e2 w2 ⟨rfl, bel2⟩
      replace BW := hideP (below_trans BW.out bel2)
      replace Q0 := hideP (keepB Q0.out bel2)
      replace Q1 := hideP (keepB Q1.out bel2)
      clear bel2 g0 g1 g2 g3 g4 g5 g6
      have p0 := (cells_of Q0.out).1 0
      have r0 := (cells_of Q1.out).1 0
      simp at p0 r0
      clear h1 h2 TX TY
      go_wp2
      all_goals go_ret
      all_goals exact ⟨ret_bool (by rw [E.out]; try simp [*]), BW.out⟩
/-- Between two rounds of Clash. -/
structure CInv (w : World) (V : Nat) (code : List Ins) (gP nP cP : Nat) (_B : Nat) (wr : World) (o : Value) (l : List (Nat × Nat)) : Prop where
  own : OwnE A2E wr w.heap.size o l
  pls : OwnE PlE wr w.heap.size (.slice (some ⟨gP, 0, none⟩) nP cP) (placesUp V code code.length)
  bel : Below w.heap.size w wr
  ne : o.ownBlock ≠ some gP
  few : l.length ≤ 2000000
set_option maxRecDepth 100000 in
set_option maxHeartbeats 16000000 in
theorem impl_clash (g : Gr) (n : Int) (w : World) (B : Nat) (v : Array Value) (h : GrIs w B v g) (GO : OkIs 49 g) :
    Calls Try.prog 21 #[.agg v, .int .i64 n] w fun en w' => ∃ v', en = .returned v' ∧ OwnE A2E w' w.heap.size v' (clashP g n) ∧ Below w.heap.size w w' := by
  have hG := hideP h
  have HB1 : Hid (∀ W A v, GrIs W A v g → Calls Try.prog 32 #[.agg v, .int .i64 n] W fun en w' => en = .returned (.bool (decide (hasB6 g n))) ∧ Below W.heap.size W w') := fun W A v hv => hasBlock_any g n W A v hv GO
  clear GO
  by_cases hb6 : hasB6 g n
  · rw [show clashP g n = clashUp g.slots.toNat (codeAt g n) from if_pos hb6]
    rw [decide_eq_true hb6] at HB1
    obtain ⟨ib, V, rfl, hV, hV1, hi, hce, hcl, hall⟩ := hasB6_ok hb6
    rw [hce, hV]
    obtain ⟨sizes, params, vars, slots, blocks⟩ := g
    obtain ⟨us, cs, ub, cb, rfl, _, _, hbs⟩ := h
    simp only at *
    subst hV
    obtain ⟨bb, oo, u, kc, rfl, hbb, hcell, hcode⟩ := code_of hbs ib hi
    have hl := hcode.1
    have hlb := hbs.1
    have hm := maxLen_lt
    have CO : Hid (CodeOk (sizes.length : Nat) V (blocks[ib]).code) := ⟨hcl, hV1, fun x hx => ⟨hall x hx, ins_i64 hcode x hx⟩⟩
    have HC := hideP hcode
    have BW := hideP (below2 w (.cells #[.slice us sizes.length cs, .int .i64 params, .int .i64 vars, .int .i64 (V : Int), .slice (some ⟨bb, oo, none⟩) blocks.length cb] 32) (.cells #[] 73))
    have Q := hideP (two (Below.refl ((w.alloc (.cells #[.slice us sizes.length cs, .int .i64 params, .int .i64 vars, .int .i64 (V : Int), .slice (some ⟨bb, oo, none⟩) blocks.length cb] 32)).alloc (.cells #[] 73)).heap.size _)).1
    have O0 : Hid (OwnE A2E ((w.alloc (.cells #[.slice us sizes.length cs, .int .i64 params, .int .i64 vars, .int .i64 (V : Int), .slice (some ⟨bb, oo, none⟩) blocks.length cb] 32)).alloc (.cells #[] 73)) w.heap.size (.slice (some ⟨w.heap.size + 1, 0, none⟩) 0 0) []) := (own_nil A2Ok (w.alloc (.cells #[.slice us sizes.length cs, .int .i64 params, .int .i64 vars, .int .i64 (V : Int), .slice (some ⟨bb, oo, none⟩) blocks.length cb] 32)) (w.heap.size + 1) (by simp)).mono (by simp)
    have hi2 : ib < blocks.length := hi
    clear hce hb6 hall hbs hcode
    obtain ⟨code, hcd⟩ : ∃ code, (blocks[ib]).code = code := ⟨_, rfl⟩
    rw [hcd] at CO HC hcell hcl hl ⊢
    clear hcd
    unfold clashUp
    have HFD : Hid (∀ i k x y p q, code[i]? = some x → code[k]? = some y → (placesUp V code code.length)[i]? = some p → (placesUp V code code.length)[k]? = some q → clF V code i k = (meetP x y && !decide (aliasP p q = 0))) := fun i k x y p q h1 h2 h3 h4 => clF_at h1 h2 h3 h4
    show Calls _ _ _ _ fun en w' => ∃ v', en = .returned v' ∧ OwnE A2E w' w.heap.size v' (clUp (clF V code) code.length code.length) ∧ Below w.heap.size w w'
    obtain ⟨F, hF⟩ : ∃ F, clF V code = F := ⟨_, rfl⟩
    rw [hF] at HFD ⊢
    clear hF
    go_enter Try.func21, Try.ntmps21
    go_wp2_with fail
    refine (HB1.out _ B _ (GrKeeps.stays hG.out BW.out)).mono ?_
    rintro e1 w1 ⟨rfl, bel1⟩
    replace BW := hideP (below_trans BW.out bel1)
    replace Q := hideP (keepB Q.out bel1)
    replace O0 := hideP (O0.out.stays bel1)
    have hc1 := (BW.out.cell (p := ⟨bb, oo + ib * 5, none⟩) hbb).trans hcell
    have p3 := (cells_of Q.out).1 3
    have p4 := (cells_of Q.out).1 4
    simp at p3 p4
    clear bel1 HB1
    go_wp2_with fail
    refine (placesOf_any code V (sizes.length : Nat) _ B u kc (HC.out.stays InsKeeps BW.out) CO.out).mono ?_
    rintro e2 w2 ⟨v2, rfl, o2, bel2⟩
    obtain ⟨gP, cP, rfl, _⟩ := id o2
    have hnP := placesUp_len V code code.length (Nat.le_refl _)
    rw [hnP] at o2 ⊢
    have IV : Hid (CInv w V code gP code.length cP 0 w2 (.slice (some ⟨w.heap.size + 1, 0, none⟩) 0 0) (clUp F code.length 0)) := by
      have l1 := (O0.out.low (w.heap.size + 1) rfl).2
      have l2 := (o2.low gP rfl).1
      exact ⟨O0.out.stays bel2, o2.mono BW.out.size, below_trans BW.out bel2, by simp [Value.ownBlock]; omega, by simp [clUp]⟩
    clear bel2 o2 O0 p3 p4 hc1 Q BW
    go_wp2
    go_loopg [5, 28] code.length (fun gk o ix wr => ∃ i : Nat, gk + i = code.length ∧ ix = .int .i64 i ∧ Hid (CInv w V code gP code.length cP 0 wr o (clUp F code.length i)))
    case atStart => exact ⟨0, rfl, rfl, IV.out⟩
    case round =>
      obtain ⟨i, hj, rfl, hv⟩ := hrel
      clear IV
      by_cases hlt : i < code.length
      · obtain ⟨gO0, cO0, rfl, _⟩ := id hv.out.own
        have IV : Hid (CInv w V code gP code.length cP 0 wr (.slice (some ⟨gO0, 0, none⟩) (clUp F code.length i).length cO0) (clUp F code.length i ++ clIn F i (i + 1))) := by
          rw [clIn_low F i (i + 1) (Nat.le_refl _), List.append_nil]; exact hv.out
        clear hv
        go_wp2
        go_loopg [5, 9] (code.length - (i + 1)) (fun hk o kx wr2 => ∃ k : Nat, hk + k = code.length ∧ i < k ∧ kx = .int .i64 k ∧ Hid (CInv w V code gP code.length cP 0 wr2 o (clUp F code.length i ++ clIn F i k)))
        case atStart => exact ⟨i + 1, by omega, by omega, by go_num, IV.out⟩
        case round =>
          obtain ⟨k, hk, hik, rfl, hw⟩ := hrel
          clear IV
          by_cases hkl : k < code.length
          · obtain ⟨b, o, op1, d1, a1, b1, c1, n1, t1, rfl, _, hb, hx1, q0, q1, q2, q3, q4, q5, q6, _⟩ := Ins_get (HC.out.stays InsKeeps hw.out.bel) i hlt
            obtain ⟨b', o', op2, d2, a2, b2, c2, n2, t2, he2, _, _, hx2, m0, m1, m2, m3, m4, m5, m6, _⟩ := Ins_get (HC.out.stays InsKeeps hw.out.bel) k hkl
            cases he2
            have hgP := (hw.out.pls.low gP rfl).2
            obtain ⟨u0, u1, u2, u3⟩ := pla_at hw.out.pls i (by omega)
            obtain ⟨v0, v1, v2, v3⟩ := pla_at hw.out.pls k (by omega)
            obtain ⟨⟨pr1, pi1, pj1, po1⟩, hp1⟩ : ∃ p, (placesUp V code code.length)[i]'(by omega) = p := ⟨_, rfl⟩
            obtain ⟨⟨pr2, pi2, pj2, po2⟩, hp2⟩ : ∃ p, (placesUp V code code.length)[k]'(by omega) = p := ⟨_, rfl⟩
            rw [hp1] at u0 u1 u2 u3
            rw [hp2] at v0 v1 v2 v3
            simp only at u0 u1 u2 u3 v0 v1 v2 v3
            have HF0 := HFD.out i k ⟨op1, d1, a1, b1, c1, n1, t1⟩ ⟨op2, d2, a2, b2, c2, n2, t2⟩ ⟨pr1, pi1, pj1, po1⟩ ⟨pr2, pi2, pj2, po2⟩ (by rw [List.getElem?_eq_getElem hlt, hx1]) (by rw [List.getElem?_eq_getElem hkl, hx2]) (by rw [List.getElem?_eq_getElem (by omega), hp1]) (by rw [List.getElem?_eq_getElem (by omega), hp2])
            have SK : Hid (∀ W', Below wr.heap.size wr W' → W'.cell? ⟨b, o + i * 7, none⟩ = some (.int .i64 op1) ∧ W'.cell? ⟨b, o + i * 7 + 1, none⟩ = some (.int .i64 d1) ∧ W'.cell? ⟨b, o + i * 7 + 2, none⟩ = some (.int .i64 a1) ∧ W'.cell? ⟨b, o + i * 7 + 3, none⟩ = some (.int .i64 b1) ∧ W'.cell? ⟨b, o + i * 7 + 4, none⟩ = some (.int .i64 c1) ∧ W'.cell? ⟨b, o + i * 7 + 5, none⟩ = some (.int .i64 n1) ∧ W'.cell? ⟨b, o + i * 7 + 6, none⟩ = some (.string t1) ∧ W'.cell? ⟨b, o + k * 7, none⟩ = some (.int .i64 op2) ∧ W'.cell? ⟨b, o + k * 7 + 1, none⟩ = some (.int .i64 d2) ∧ W'.cell? ⟨b, o + k * 7 + 2, none⟩ = some (.int .i64 a2) ∧ W'.cell? ⟨b, o + k * 7 + 3, none⟩ = some (.int .i64 b2) ∧ W'.cell? ⟨b, o + k * 7 + 4, none⟩ = some (.int .i64 c2) ∧ W'.cell? ⟨b, o + k * 7 + 5, none⟩ = some (.int .i64 n2) ∧ W'.cell? ⟨b, o + k * 7 + 6, none⟩ = some (.string t2) ∧ W'.cell? ⟨gP, i * 4, none⟩ = some (.int .i64 pr1) ∧ W'.cell? ⟨gP, i * 4 + 1, none⟩ = some (.int .i64 pi1) ∧ W'.cell? ⟨gP, i * 4 + 2, none⟩ = some (.int .i64 pj1) ∧ W'.cell? ⟨gP, i * 4 + 3, none⟩ = some (.int .i64 po1) ∧ W'.cell? ⟨gP, k * 4, none⟩ = some (.int .i64 pr2) ∧ W'.cell? ⟨gP, k * 4 + 1, none⟩ = some (.int .i64 pi2) ∧ W'.cell? ⟨gP, k * 4 + 2, none⟩ = some (.int .i64 pj2) ∧ W'.cell? ⟨gP, k * 4 + 3, none⟩ = some (.int .i64 po2)) := fun W' h => ⟨(h.cell (p := ⟨b, _, none⟩) hb).trans q0, (h.cell (p := ⟨b, _, none⟩) hb).trans q1, (h.cell (p := ⟨b, _, none⟩) hb).trans q2, (h.cell (p := ⟨b, _, none⟩) hb).trans q3, (h.cell (p := ⟨b, _, none⟩) hb).trans q4, (h.cell (p := ⟨b, _, none⟩) hb).trans q5, (h.cell (p := ⟨b, _, none⟩) hb).trans q6, (h.cell (p := ⟨b, _, none⟩) hb).trans m0, (h.cell (p := ⟨b, _, none⟩) hb).trans m1, (h.cell (p := ⟨b, _, none⟩) hb).trans m2, (h.cell (p := ⟨b, _, none⟩) hb).trans m3, (h.cell (p := ⟨b, _, none⟩) hb).trans m4, (h.cell (p := ⟨b, _, none⟩) hb).trans m5, (h.cell (p := ⟨b, _, none⟩) hb).trans m6, (h.cell (p := ⟨gP, _, none⟩) hgP).trans u0, (h.cell (p := ⟨gP, _, none⟩) hgP).trans u1, (h.cell (p := ⟨gP, _, none⟩) hgP).trans u2, (h.cell (p := ⟨gP, _, none⟩) hgP).trans u3, (h.cell (p := ⟨gP, _, none⟩) hgP).trans v0, (h.cell (p := ⟨gP, _, none⟩) hgP).trans v1, (h.cell (p := ⟨gP, _, none⟩) hgP).trans v2, (h.cell (p := ⟨gP, _, none⟩) hgP).trans v3⟩
            obtain ⟨mt, hmt⟩ : ∃ m, meetP ⟨op1, d1, a1, b1, c1, n1, t1⟩ ⟨op2, d2, a2, b2, c2, n2, t2⟩ = m := ⟨_, rfl⟩
            obtain ⟨al, hal⟩ : ∃ m, aliasP ⟨pr1, pi1, pj1, po1⟩ ⟨pr2, pi2, pj2, po2⟩ = m := ⟨_, rfl⟩
            have CM : Hid (∀ W, Calls Try.prog 40 #[.agg #[.int .i64 op1, .int .i64 d1, .int .i64 a1, .int .i64 b1, .int .i64 c1, .int .i64 n1, .string t1], .agg #[.int .i64 op2, .int .i64 d2, .int .i64 a2, .int .i64 b2, .int .i64 c2, .int .i64 n2, .string t2]] W fun e w' => e = .returned (.bool mt) ∧ Below W.heap.size W w') := fun W => hmt ▸ mayMeet_any ⟨op1, d1, a1, b1, c1, n1, t1⟩ ⟨op2, d2, a2, b2, c2, n2, t2⟩ W
            have CA : Hid (∀ W, Calls Try.prog 41 #[.agg #[.int .i64 pr1, .int .i64 pi1, .int .i64 pj1, .int .i64 po1], .agg #[.int .i64 pr2, .int .i64 pi2, .int .i64 pj2, .int .i64 po2]] W fun e w' => e = .returned (.int .i64 al) ∧ Below W.heap.size W w') := fun W => hal ▸ implAlias_any ⟨pr1, pi1, pj1, po1⟩ ⟨pr2, pi2, pj2, po2⟩ W
            rw [hmt, hal] at HF0
            obtain ⟨gO, cO, hvO, _⟩ := id hw.out.own
            obtain ⟨nO, hnO⟩ : ∃ m, (clUp F code.length i ++ clIn F i k).length = m := ⟨_, rfl⟩
            rw [hnO] at hvO
            subst hvO
            clear hnO
            clear hmt hal hp1 hp2 hx1 hx2 q0 q1 q2 q3 q4 q5 q6 m0 m1 m2 m3 m4 m5 m6 u0 u1 u2 u3 v0 v1 v2 v3
            cases mt with
            | false =>
              have UPI := hideP (clIn_no (f := F) (i := i) (k := k) (by simpa using HF0))
              have IV : Hid (∀ W', Below wr.heap.size wr W' → CInv w V code gP code.length cP 0 W' (.slice (some ⟨gO, 0, none⟩) nO cO) (clUp F code.length i ++ clIn F i (k + 1))) := fun W' h => by
                rw [UPI.out]
                exact ⟨hw.out.own.stays h, hw.out.pls.stays h, below_trans hw.out.bel h, hw.out.ne, hw.out.few⟩
              clear hw UPI HF0
              go_upto_region 12 with fail
              go_cut [59] from 39 to 59 (fun s59 wx => s59 = .bool false ∧ Hid (Below wr.heap.size wr wx))
              case first =>
                clear CA IV
                refine wp_region_held_drew (S := fun W' => W'.cell? ⟨b, o + i * 7, none⟩ = some (.int .i64 op1) ∧ W'.cell? ⟨b, o + i * 7 + 1, none⟩ = some (.int .i64 d1) ∧ W'.cell? ⟨b, o + i * 7 + 2, none⟩ = some (.int .i64 a1) ∧ W'.cell? ⟨b, o + i * 7 + 3, none⟩ = some (.int .i64 b1) ∧ W'.cell? ⟨b, o + i * 7 + 4, none⟩ = some (.int .i64 c1) ∧ W'.cell? ⟨b, o + i * 7 + 5, none⟩ = some (.int .i64 n1) ∧ W'.cell? ⟨b, o + i * 7 + 6, none⟩ = some (.string t1) ∧ W'.cell? ⟨b, o + k * 7, none⟩ = some (.int .i64 op2) ∧ W'.cell? ⟨b, o + k * 7 + 1, none⟩ = some (.int .i64 d2) ∧ W'.cell? ⟨b, o + k * 7 + 2, none⟩ = some (.int .i64 a2) ∧ W'.cell? ⟨b, o + k * 7 + 3, none⟩ = some (.int .i64 b2) ∧ W'.cell? ⟨b, o + k * 7 + 4, none⟩ = some (.int .i64 c2) ∧ W'.cell? ⟨b, o + k * 7 + 5, none⟩ = some (.int .i64 n2) ∧ W'.cell? ⟨b, o + k * 7 + 6, none⟩ = some (.string t2) ∧ W'.cell? ⟨gP, i * 4, none⟩ = some (.int .i64 pr1) ∧ W'.cell? ⟨gP, i * 4 + 1, none⟩ = some (.int .i64 pi1) ∧ W'.cell? ⟨gP, i * 4 + 2, none⟩ = some (.int .i64 pj1) ∧ W'.cell? ⟨gP, i * 4 + 3, none⟩ = some (.int .i64 po1) ∧ W'.cell? ⟨gP, k * 4, none⟩ = some (.int .i64 pr2) ∧ W'.cell? ⟨gP, k * 4 + 1, none⟩ = some (.int .i64 pi2) ∧ W'.cell? ⟨gP, k * 4 + 2, none⟩ = some (.int .i64 pj2) ∧ W'.cell? ⟨gP, k * 4 + 3, none⟩ = some (.int .i64 po2)) (by kernel_rfl) (SK.out _ (Below.refl _ _).drew) (fun hHeld => ?_)
                refine wpAnyH_take (i := 0) (v := (.slice (some ⟨b, o, none⟩) code.length kc)) rfl (by kernel_rfl) (by kernel_rfl) (by kernel_rfl) (fun _ _ _ h => h) (Or.inl ⟨by rfl, ?_⟩) hHeld ?_
                · (intro w hSw; (try dsimp only at hSw); go_simp)
                walk_nrm
                refine wpAnyH_take (i := 1) (v := (.int .i64 (i : Int))) rfl (by kernel_rfl) (by kernel_rfl) (by kernel_rfl) (fun _ _ _ h => h) (Or.inl ⟨by rfl, ?_⟩) hHeld ?_
                · (intro w hSw; (try dsimp only at hSw); go_simp)
                walk_nrm
                refine wpAnyH_take (i := 2) (v := (.pointer (some ⟨b, o + i * 7, none⟩))) rfl (by kernel_rfl) (by kernel_rfl) (by kernel_rfl) (fun _ _ _ h => h) (Or.inl ⟨by rfl, ?_⟩) hHeld ?_
                · (intro w hSw; (try dsimp only at hSw); go_simp)
                walk_nrm
                refine wpAnyH_take (i := 3) (v := (.agg #[.int .i64 op1, .int .i64 d1, .int .i64 a1, .int .i64 b1, .int .i64 c1, .int .i64 n1, .string t1])) rfl (by kernel_rfl) (by kernel_rfl) (by kernel_rfl) (fun _ _ _ h => h) (Or.inl ⟨by rfl, ?_⟩) hHeld ?_
                · (intro w hSw; (try dsimp only at hSw); go_simp)
                walk_nrm
                refine wpAnyH_take (i := 4) (v := (.slice (some ⟨b, o, none⟩) code.length kc)) rfl (by kernel_rfl) (by kernel_rfl) (by kernel_rfl) (fun _ _ _ h => h) (Or.inl ⟨by rfl, ?_⟩) hHeld ?_
                · (intro w hSw; (try dsimp only at hSw); go_simp)
                walk_nrm
                refine wpAnyH_take (i := 5) (v := (.int .i64 (k : Int))) rfl (by kernel_rfl) (by kernel_rfl) (by kernel_rfl) (fun _ _ _ h => h) (Or.inl ⟨by rfl, ?_⟩) hHeld ?_
                · (intro w hSw; (try dsimp only at hSw); go_simp)
                walk_nrm
                refine wpAnyH_take (i := 6) (v := (.pointer (some ⟨b, o + k * 7, none⟩))) rfl (by kernel_rfl) (by kernel_rfl) (by kernel_rfl) (fun _ _ _ h => h) (Or.inl ⟨by rfl, ?_⟩) hHeld ?_
                · (intro w hSw; (try dsimp only at hSw); go_simp)
                walk_nrm
                refine wpAnyH_take (i := 7) (v := (.agg #[.int .i64 op2, .int .i64 d2, .int .i64 a2, .int .i64 b2, .int .i64 c2, .int .i64 n2, .string t2])) rfl (by kernel_rfl) (by kernel_rfl) (by kernel_rfl) (fun _ _ _ h => h) (Or.inl ⟨by rfl, ?_⟩) hHeld ?_
                · (intro w hSw; (try dsimp only at hSw); go_simp)
                walk_nrm
                refine wpAnyH_ready (rs := [8]) (by kernel_rfl) (by simp) ?_
                refine AllReadyH.cons rfl (fun K hK => ?_) AllReadyH.nil
                go_simp
                go_at_call 40
                refine (CM.out _).mono ?_
                rintro ea wa ⟨rfl, bela⟩
                have HBa := hideP ((Below.refl wr.heap.size wr).drew.trans (bela.mono (Nat.le_refl _)))
                clear bela
                go_wp2_with fail
                refine hK.out _ _ (SK.out _ HBa.out) (fun hHeld => ?_)
                clear hK K
                refine wpAnyH_take (i := 9) (v := (.bool false)) rfl (by kernel_rfl) (by kernel_rfl) (by kernel_rfl) (fun _ _ _ h => h) (Or.inl ⟨by rfl, ?_⟩) hHeld ?_
                · (intro w hSw; (try dsimp only at hSw); go_simp)
                walk_nrm
                refine wpAnyH_take (i := 10) (v := undef) rfl (by kernel_rfl) (by kernel_rfl) (by kernel_rfl) (fun _ _ _ h => h) (Or.inr ⟨by rfl, rfl⟩) hHeld ?_
                walk_nrm
                refine wpAnyH_take (i := 11) (v := undef) rfl (by kernel_rfl) (by kernel_rfl) (by kernel_rfl) (fun _ _ _ h => h) (Or.inr ⟨by rfl, rfl⟩) hHeld ?_
                walk_nrm
                refine wpAnyH_take (i := 12) (v := undef) rfl (by kernel_rfl) (by kernel_rfl) (by kernel_rfl) (fun _ _ _ h => h) (Or.inr ⟨by rfl, rfl⟩) hHeld ?_
                walk_nrm
                refine wpAnyH_take (i := 13) (v := undef) rfl (by kernel_rfl) (by kernel_rfl) (by kernel_rfl) (fun _ _ _ h => h) (Or.inr ⟨by rfl, rfl⟩) hHeld ?_
                walk_nrm
                refine wpAnyH_take (i := 14) (v := undef) rfl (by kernel_rfl) (by kernel_rfl) (by kernel_rfl) (fun _ _ _ h => h) (Or.inr ⟨by rfl, rfl⟩) hHeld ?_
                walk_nrm
                refine wpAnyH_take (i := 15) (v := undef) rfl (by kernel_rfl) (by kernel_rfl) (by kernel_rfl) (fun _ _ _ h => h) (Or.inr ⟨by rfl, rfl⟩) hHeld ?_
                walk_nrm
                refine wpAnyH_take (i := 16) (v := undef) rfl (by kernel_rfl) (by kernel_rfl) (by kernel_rfl) (fun _ _ _ h => h) (Or.inr ⟨by rfl, rfl⟩) hHeld ?_
                walk_nrm
                refine wpAnyH_take (i := 17) (v := undef) rfl (by kernel_rfl) (by kernel_rfl) (by kernel_rfl) (fun _ _ _ h => h) (Or.inr ⟨by rfl, rfl⟩) hHeld ?_
                walk_nrm
                refine wpAnyH_take (i := 18) (v := undef) rfl (by kernel_rfl) (by kernel_rfl) (by kernel_rfl) (fun _ _ _ h => h) (Or.inr ⟨by rfl, rfl⟩) hHeld ?_
                walk_nrm
                refine wpAnyH_take (i := 19) (v := undef) rfl (by kernel_rfl) (by kernel_rfl) (by kernel_rfl) (fun _ _ _ h => h) (Or.inr ⟨by rfl, rfl⟩) hHeld ?_
                walk_nrm
                refine wpAnyH_take (i := 20) (v := (.bool false)) rfl (by kernel_rfl) (by kernel_rfl) (by kernel_rfl) (fun _ _ _ h => h) (Or.inl ⟨by rfl, ?_⟩) hHeld ?_
                · (intro w hSw; (try dsimp only at hSw); go_simp)
                walk_nrm
                refine wpAnyH_done (by kernel_rfl) ?_ _
                go_wp2_with fail
                go_meet
                exact ⟨rfl, HBa⟩
              case rest =>
              obtain ⟨rfl, hc⟩ := hcut
              have IV2 := hideP (IV.out _ hc.out)
              clear IV hc SK CM CA
              go_wp2
              go_roundg (code.length - (k + 1))
              case rel => exact ⟨k + 1, by omega, by omega, by go_num, IV2.out⟩
              case measure => omega
            | true =>
              by_cases hal0 : al = 0
              · have HNE : (al != 0) = false := by simp [hal0]
                have UPI := hideP (clIn_no (f := F) (i := i) (k := k) (by rw [HF0, hal0]; rfl))
                have IV : Hid (∀ W', Below wr.heap.size wr W' → CInv w V code gP code.length cP 0 W' (.slice (some ⟨gO, 0, none⟩) nO cO) (clUp F code.length i ++ clIn F i (k + 1))) := fun W' h => by
                  rw [UPI.out]
                  exact ⟨hw.out.own.stays h, hw.out.pls.stays h, below_trans hw.out.bel h, hw.out.ne, hw.out.few⟩
                clear hw UPI HF0 hal0
                go_upto_region 12 with fail
                go_cut [59] from 39 to 59 (fun s59 wx => s59 = .bool false ∧ Hid (Below wr.heap.size wr wx))
                case first =>
                  go_region_held3 (fun W' => W'.cell? ⟨b, o + i * 7, none⟩ = some (.int .i64 op1) ∧ W'.cell? ⟨b, o + i * 7 + 1, none⟩ = some (.int .i64 d1) ∧ W'.cell? ⟨b, o + i * 7 + 2, none⟩ = some (.int .i64 a1) ∧ W'.cell? ⟨b, o + i * 7 + 3, none⟩ = some (.int .i64 b1) ∧ W'.cell? ⟨b, o + i * 7 + 4, none⟩ = some (.int .i64 c1) ∧ W'.cell? ⟨b, o + i * 7 + 5, none⟩ = some (.int .i64 n1) ∧ W'.cell? ⟨b, o + i * 7 + 6, none⟩ = some (.string t1) ∧ W'.cell? ⟨b, o + k * 7, none⟩ = some (.int .i64 op2) ∧ W'.cell? ⟨b, o + k * 7 + 1, none⟩ = some (.int .i64 d2) ∧ W'.cell? ⟨b, o + k * 7 + 2, none⟩ = some (.int .i64 a2) ∧ W'.cell? ⟨b, o + k * 7 + 3, none⟩ = some (.int .i64 b2) ∧ W'.cell? ⟨b, o + k * 7 + 4, none⟩ = some (.int .i64 c2) ∧ W'.cell? ⟨b, o + k * 7 + 5, none⟩ = some (.int .i64 n2) ∧ W'.cell? ⟨b, o + k * 7 + 6, none⟩ = some (.string t2) ∧ W'.cell? ⟨gP, i * 4, none⟩ = some (.int .i64 pr1) ∧ W'.cell? ⟨gP, i * 4 + 1, none⟩ = some (.int .i64 pi1) ∧ W'.cell? ⟨gP, i * 4 + 2, none⟩ = some (.int .i64 pj1) ∧ W'.cell? ⟨gP, i * 4 + 3, none⟩ = some (.int .i64 po1) ∧ W'.cell? ⟨gP, k * 4, none⟩ = some (.int .i64 pr2) ∧ W'.cell? ⟨gP, k * 4 + 1, none⟩ = some (.int .i64 pi2) ∧ W'.cell? ⟨gP, k * 4 + 2, none⟩ = some (.int .i64 pj2) ∧ W'.cell? ⟨gP, k * 4 + 3, none⟩ = some (.int .i64 po2)) (first | exact SK.out _ (Below.refl _ _).drew | exact SK.out _ HBb.out | exact SK.out _ HBa.out) (first
                    | (go_at_call 40; refine (CM.out _).mono ?_; rintro ea wa ⟨rfl, bela⟩; have HBa := hideP ((Below.refl wr.heap.size wr).drew.trans (bela.mono (Nat.le_refl _))); clear bela)
                    | (go_at_call 41; refine (CA.out _).mono ?_; rintro eb wb ⟨rfl, belb⟩; have HBb := hideP (HBa.out.trans (belb.mono HBa.out.size)); clear belb))
                  all_goals (go_wp2_with fail; go_meet; exact ⟨rfl, HBb⟩)
                case rest =>
                obtain ⟨rfl, hc⟩ := hcut
                have IV2 := hideP (IV.out _ hc.out)
                clear IV hc SK CM CA
                go_wp2
                go_roundg (code.length - (k + 1))
                case rel => exact ⟨k + 1, by omega, by omega, by go_num, IV2.out⟩
                case measure => omega
              · have HNE : (al != 0) = true := by simp [hal0]
                have HF : Hid (F i k = true) := by show _ = _; rw [HF0, decide_eq_false hal0]; rfl
                clear HF0 hal0
                go_upto_region 12 with fail
                go_cut [59] from 39 to 59 (fun s59 wx => s59 = .bool true ∧ Hid (Below wr.heap.size wr wx))
                case first =>
                  go_region_held3 (fun W' => W'.cell? ⟨b, o + i * 7, none⟩ = some (.int .i64 op1) ∧ W'.cell? ⟨b, o + i * 7 + 1, none⟩ = some (.int .i64 d1) ∧ W'.cell? ⟨b, o + i * 7 + 2, none⟩ = some (.int .i64 a1) ∧ W'.cell? ⟨b, o + i * 7 + 3, none⟩ = some (.int .i64 b1) ∧ W'.cell? ⟨b, o + i * 7 + 4, none⟩ = some (.int .i64 c1) ∧ W'.cell? ⟨b, o + i * 7 + 5, none⟩ = some (.int .i64 n1) ∧ W'.cell? ⟨b, o + i * 7 + 6, none⟩ = some (.string t1) ∧ W'.cell? ⟨b, o + k * 7, none⟩ = some (.int .i64 op2) ∧ W'.cell? ⟨b, o + k * 7 + 1, none⟩ = some (.int .i64 d2) ∧ W'.cell? ⟨b, o + k * 7 + 2, none⟩ = some (.int .i64 a2) ∧ W'.cell? ⟨b, o + k * 7 + 3, none⟩ = some (.int .i64 b2) ∧ W'.cell? ⟨b, o + k * 7 + 4, none⟩ = some (.int .i64 c2) ∧ W'.cell? ⟨b, o + k * 7 + 5, none⟩ = some (.int .i64 n2) ∧ W'.cell? ⟨b, o + k * 7 + 6, none⟩ = some (.string t2) ∧ W'.cell? ⟨gP, i * 4, none⟩ = some (.int .i64 pr1) ∧ W'.cell? ⟨gP, i * 4 + 1, none⟩ = some (.int .i64 pi1) ∧ W'.cell? ⟨gP, i * 4 + 2, none⟩ = some (.int .i64 pj1) ∧ W'.cell? ⟨gP, i * 4 + 3, none⟩ = some (.int .i64 po1) ∧ W'.cell? ⟨gP, k * 4, none⟩ = some (.int .i64 pr2) ∧ W'.cell? ⟨gP, k * 4 + 1, none⟩ = some (.int .i64 pi2) ∧ W'.cell? ⟨gP, k * 4 + 2, none⟩ = some (.int .i64 pj2) ∧ W'.cell? ⟨gP, k * 4 + 3, none⟩ = some (.int .i64 po2)) (first | exact SK.out _ (Below.refl _ _).drew | exact SK.out _ HBb.out | exact SK.out _ HBa.out) (first
                    | (go_at_call 40; refine (CM.out _).mono ?_; rintro ea wa ⟨rfl, bela⟩; have HBa := hideP ((Below.refl wr.heap.size wr).drew.trans (bela.mono (Nat.le_refl _))); clear bela)
                    | (go_at_call 41; refine (CA.out _).mono ?_; rintro eb wb ⟨rfl, belb⟩; have HBb := hideP (HBa.out.trans (belb.mono HBa.out.size)); clear belb))
                  all_goals (go_wp2_with fail; go_meet; exact ⟨rfl, HBb⟩)
                case rest =>
                obtain ⟨rfl, hc⟩ := hcut
                have OX := hideP (hw.out.own.stays hc.out)
                have PX := hideP (hw.out.pls.stays hc.out)
                have BX := hideP (below_trans hw.out.bel hc.out)
                clear hc SK CM CA HNE
                obtain ⟨wx, hwx⟩ : ∃ wx, wc = wx := ⟨_, rfl⟩
                rw [hwx] at OX PX BX ⊢
                clear hwx
                have UPI := hideP (clIn_yes hik HF.out)
                have hpl := hw.out.few
                have al := (Below.refl wx.heap.size wx).alloc (Nat.le_refl _) (.cells #[.int .i64 (i : Int), .int .i64 (k : Int)] 73)
                have CQ : Hid (∀ r, r < A2E.sz → (wx.alloc (.cells #[.int .i64 (i : Int), .int .i64 (k : Int)] 73)).cell? ⟨wx.heap.size, 0 + r, none⟩ = (A2E.cs (i, k))[r]?) := fun r _ => by
                  have := (cells_of (heap_alloc_new wx (.cells #[.int .i64 (i : Int), .int .i64 (k : Int)] 73))).1 r
                  rw [Nat.zero_add, this]; simp [A2E]
                have OA := hideP (OX.out.stays al)
                have PA := hideP (PX.out.stays al)
                have BA := hideP (below_trans BX.out al)
                clear al
                have hne := hideP hw.out.ne
                go_upto_region 11 with (at_builtin; refine list_appE A2Ok _ rfl _ _ rfl w.heap.size _ (clUp F code.length i ++ clIn F i k) (i, k) wx.heap.size 0 1 rfl rfl OA.out CQ.out (by omega) BA.out.size ?_; intro v6 w6 o6 grow6 loc6)
                replace grow6 : World.grownBy _ w6 ((Value.slice (some ⟨gO, 0, none⟩) nO cO).ownBlock) := grow6
                replace loc6 : v6.ownBlock = ((Value.slice (some ⟨gO, 0, none⟩) nO cO).ownBlock) ∨ v6.ownBlock = some (wx.alloc (.cells #[.int .i64 (i : Int), .int .i64 (k : Int)] 73)).heap.size := loc6
                rw [List.append_assoc, ← UPI.out] at o6
                have IV : Hid (CInv w V code gP code.length cP 0 w6 v6 (clUp F code.length i ++ clIn F i (k + 1))) := by
                  refine ⟨o6, PA.out.kept grow6 (fun e => hne.out (by rw [← e]; rfl)), BA.out.grown grow6 BA.out.size (fun b' hb' => (OA.out.low b' hb').1), ?_, by
                    have h1 := clUp_len F code.length i
                    have h2 := clIn_len F i (k + 1)
                    have h3 : i * code.length ≤ 1000 * 1000 := Nat.mul_le_mul (by omega) (by omega)
                    rw [List.length_append]; omega⟩
                  have l1 := (PA.out.low gP rfl).2
                  rcases loc6 with e | e
                  · rw [e]; exact hne.out
                  · rw [e]; exact fun h => by injection h with h; omega
                obtain ⟨g6, c6, rfl, _⟩ := id o6
                clear o6 grow6 loc6 OA PA BA CQ UPI hne 
                go_wp2
                go_roundg (code.length - (k + 1))
                case rel => exact ⟨k + 1, by omega, by omega, by go_num, IV.out⟩
                case measure => omega
          · have hkn : k = code.length := by omega
            subst hkn
            have IV : Hid (CInv w V code gP code.length cP 0 wr _ (clUp F code.length (i + 1))) := hw.out
            obtain ⟨gO, cO, rfl, _⟩ := id hw.out.own
            clear hw
            go_wp2
            go_roundg (code.length - (i + 1))
            case rel => exact ⟨i + 1, by omega, by go_num, IV.out⟩
            case measure => omega
      · have hin : i = code.length := by omega
        subst hin
        go_wp2
        go_ret
        exact ⟨_, rfl, hv.out.own, hv.out.bel⟩
  · rw [show clashP g n = [] from if_neg hb6]
    rw [decide_eq_false hb6] at HB1
    obtain ⟨sizes, params, vars, slots, blocks⟩ := g
    obtain ⟨us, cs, ub, cb, rfl, _, _, hbs⟩ := h
    simp only at *
    have BW := hideP (below2 w (.cells #[.slice us sizes.length cs, .int .i64 params, .int .i64 vars, .int .i64 slots, .slice ub blocks.length cb] 32) (.cells #[] 73))
    have O0 : Hid (OwnE A2E ((w.alloc (.cells #[.slice us sizes.length cs, .int .i64 params, .int .i64 vars, .int .i64 slots, .slice ub blocks.length cb] 32)).alloc (.cells #[] 73)) w.heap.size (.slice (some ⟨w.heap.size + 1, 0, none⟩) 0 0) []) := (own_nil A2Ok (w.alloc (.cells #[.slice us sizes.length cs, .int .i64 params, .int .i64 vars, .int .i64 slots, .slice ub blocks.length cb] 32)) (w.heap.size + 1) (by simp)).mono (by simp)
    clear hbs hb6
    go_enter Try.func21, Try.ntmps21
    go_wp2_with fail
    refine (HB1.out _ B _ (GrKeeps.stays hG.out BW.out)).mono ?_
    rintro e1 w1 ⟨rfl, bel1⟩
    replace BW := hideP (below_trans BW.out bel1)
    replace O0 := hideP (O0.out.stays bel1)
    clear bel1
    go_wp2
    go_ret
    exact ⟨_, rfl, O0.out, BW.out⟩
end Go.Proofs.Ytgiboadcfnfooab
