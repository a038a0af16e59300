/- The contract of spec.Clash (written by wip/mkclashs.py). -/
import Derived.Test.YtgiboadcfnfooabClPre
import Derived.Test.YtgiboadcfnfooabPlacesS
namespace Go.Proofs.Ytgiboadcfnfooab
open Go.ChangeShapes Go.WideShapes Go.ChangeAt Go.RowKit
theorem below_drewNS (B : Nat) (w : World) (q : Nat) : Below B w (w.drewN q) := ⟨rfl, rfl, rfl, Nat.le_refl _, fun _ _ => rfl⟩
/-- Between two rounds of the specification's Clash. -/
structure CInvS (w : World) (V : Nat) (code : List Ins) (gP nP cP : Nat) (gv : Array Value) (wr : World) (o : Value) (l : List (Nat × Nat)) : Prop where
  own : OwnE A2E wr (w.heap.size + 1) o l
  pls : OwnE PlE wr w.heap.size (.slice (some ⟨gP, 0, none⟩) nP cP) (placesUp V code code.length)
  bel : Below w.heap.size w wr
  ne : o.ownBlock ≠ some gP
  few : l.length ≤ 2000000
  box : wr.heap[w.heap.size]? = some (.cells gv 32 (0, 0))
set_option maxRecDepth 100000 in
set_option maxHeartbeats 16000000 in
theorem spec_clash (g : Gr) (n : Int) (w : World) (B : Nat) (v : Array Value) (h : GrIs w B v g) (GO : OkIs 28 g) :
    Calls Try.prog 20 #[.agg v, .int .i64 n] w fun en w' => ∃ v', en = .returned v' ∧ OwnE A2E w' w.heap.size v' (clashP g n) ∧ Below w.heap.size w w' := by
  have hG := hideP h
  have SP : Hid (∀ W A v, GrIs W A v g → Calls Try.prog 37 #[.agg v, .int .i64 n] W fun en w' => ∃ v', en = .returned v' ∧ OwnE PlE w' W.heap.size v' (placesP g n) ∧ Below W.heap.size W w') := fun W A v hv => spec_places g n W A v hv GO
  clear GO
  by_cases hb6 : hasB6 g n
  · rw [show clashP g n = clashUp g.slots.toNat (codeAt g n) from if_pos hb6]
    rw [show placesP g n = placesUp g.slots.toNat (codeAt g n) (codeAt g n).length from if_pos hb6] at SP
    obtain ⟨ib, V, rfl, hV, hV1, hi, hce, hcl, hall⟩ := hasB6_ok hb6
    rw [hce, hV] at SP ⊢
    obtain ⟨sizes, params, vars, slots, blocks⟩ := g
    obtain ⟨us, cs, ub, cb, rfl, _, _, hbs⟩ := h
    simp only at *
    subst hV
    obtain ⟨bb, oo, u, kc, rfl, hbb, hcell, hcode⟩ := code_of hbs ib hi
    have hl := hcode.1
    have hlb := hbs.1
    have hm := maxLen_lt
    have HC := hideP hcode
    have HALL := hideP hall
    have BW := hideP (below2 w (.cells #[.slice us sizes.length cs, .int .i64 params, .int .i64 vars, .int .i64 (V : Int), .slice (some ⟨bb, oo, none⟩) blocks.length cb] 32) (.cells #[] 73))
    have Q := hideP (two (Below.refl ((w.alloc (.cells #[.slice us sizes.length cs, .int .i64 params, .int .i64 vars, .int .i64 (V : Int), .slice (some ⟨bb, oo, none⟩) blocks.length cb] 32)).alloc (.cells #[] 73)).heap.size _)).1
    have O0 : Hid (OwnE A2E ((w.alloc (.cells #[.slice us sizes.length cs, .int .i64 params, .int .i64 vars, .int .i64 (V : Int), .slice (some ⟨bb, oo, none⟩) blocks.length cb] 32)).alloc (.cells #[] 73)) (w.heap.size + 1) (.slice (some ⟨w.heap.size + 1, 0, none⟩) 0 0) []) := (own_nil A2Ok (w.alloc (.cells #[.slice us sizes.length cs, .int .i64 params, .int .i64 vars, .int .i64 (V : Int), .slice (some ⟨bb, oo, none⟩) blocks.length cb] 32)) (w.heap.size + 1) (by simp)).mono (by simp)
    have hi2 : ib < blocks.length := hi
    clear hce hb6 hall hbs hcode
    obtain ⟨code, hcd⟩ : ∃ code, (blocks[ib]).code = code := ⟨_, rfl⟩
    rw [hcd] at SP HC HALL hcell hcl hl ⊢
    clear hcd
    replace SP : Hid (∀ W A v, GrIs W A v ⟨sizes, params, vars, (V : Int), blocks⟩ → Calls Try.prog 37 #[.agg v, .int .i64 (ib : Int)] W fun en w' => ∃ v', en = .returned v' ∧ OwnE PlE w' W.heap.size v' (placesUp V code code.length) ∧ Below W.heap.size W w') := SP
    unfold clashUp
    have HFD : Hid (∀ i k x y p q, code[i]? = some x → code[k]? = some y → (placesUp V code code.length)[i]? = some p → (placesUp V code code.length)[k]? = some q → clF V code i k = (meetP x y && !decide (aliasP p q = 0))) := fun i k x y p q h1 h2 h3 h4 => clF_at h1 h2 h3 h4
    have HPR : Hid (∀ (i : Nat) (x : Ins) (p : Pla), code[i]? = some x → (placesUp V code code.length)[i]? = some p → (p.r != -1) = touchB x) := fun i x p h1 h2 => by
      have hi : i < code.length := (List.getElem?_eq_some_iff.1 h1).1
      rw [placesUp_step V code code.length (Nat.le_refl _) i hi, h1] at h2
      simp only [Option.map_some, Option.some.injEq] at h2
      have hx : x ∈ code := by obtain ⟨_, rfl⟩ := List.getElem?_eq_some_iff.1 h1; exact List.getElem_mem _
      have := placeP_r (l := ledP V (code.take i)) (HALL.out x hx)
      rw [h2] at this
      rw [Bool.eq_iff_iff]
      simp only [bne_iff_ne, ne_eq, this, touchB, decide_eq_true_eq, Classical.not_not]
    show Calls _ _ _ _ fun en w' => ∃ v', en = .returned v' ∧ OwnE A2E w' w.heap.size v' (clUp (clF V code) code.length code.length) ∧ Below w.heap.size w w'
    obtain ⟨F, hF⟩ : ∃ F, clF V code = F := ⟨_, rfl⟩
    rw [hF] at HFD ⊢
    clear hF
    go_enter Try.func20, Try.ntmps20
    go_wp2_with fail
    refine (SP.out _ B _ (GrKeeps.stays hG.out BW.out)).mono ?_
    rintro e2 w2 ⟨v2, rfl, o2, bel2⟩
    obtain ⟨gP, cP, rfl, _⟩ := id o2
    have hnP := placesUp_len V code code.length (Nat.le_refl _)
    rw [hnP] at o2 ⊢
    have IV : Hid (CInvS w V code gP code.length cP #[.slice us sizes.length cs, .int .i64 params, .int .i64 vars, .int .i64 (V : Int), .slice (some ⟨bb, oo, none⟩) blocks.length cb] w2 (.slice (some ⟨w.heap.size + 1, 0, none⟩) 0 0) (clUp F code.length 0)) := by
      have l1 := (O0.out.low (w.heap.size + 1) rfl).2
      have l2 := (o2.low gP rfl).1
      exact ⟨O0.out.stays bel2, o2.mono BW.out.size, below_trans BW.out bel2, by simp [Value.ownBlock]; omega, by simp [clUp], heldB Q.out bel2⟩
    clear bel2 o2 O0 Q BW SP
    go_wp2
    go_loopg [5, 7] code.length (fun gk o ix wr => ∃ i : Nat, gk + i = code.length ∧ ix = .int .i64 i ∧ Hid (CInvS w V code gP code.length cP #[.slice us sizes.length cs, .int .i64 params, .int .i64 vars, .int .i64 (V : Int), .slice (some ⟨bb, oo, none⟩) blocks.length cb] wr o (clUp F code.length i)))
    case atStart => exact ⟨0, rfl, rfl, IV.out⟩
    case round =>
      obtain ⟨i, hj, rfl, hv⟩ := hrel
      clear IV
      by_cases hlt : i < code.length
      · obtain ⟨gO0, cO0, rfl, _⟩ := id hv.out.own
        have IV : Hid (CInvS w V code gP code.length cP #[.slice us sizes.length cs, .int .i64 params, .int .i64 vars, .int .i64 (V : Int), .slice (some ⟨bb, oo, none⟩) blocks.length cb] wr (.slice (some ⟨gO0, 0, none⟩) (clUp F code.length i).length cO0) (clUp F code.length i ++ clIn F i (i + 1))) := by
          rw [clIn_low F i (i + 1) (Nat.le_refl _), List.append_nil]; exact hv.out
        clear hv
        go_wp2
        go_loopg [5, 8] (code.length - (i + 1)) (fun hk o kx wr2 => ∃ k : Nat, hk + k = code.length ∧ i < k ∧ kx = .int .i64 k ∧ Hid (CInvS w V code gP code.length cP #[.slice us sizes.length cs, .int .i64 params, .int .i64 vars, .int .i64 (V : Int), .slice (some ⟨bb, oo, none⟩) blocks.length cb] wr2 o (clUp F code.length i ++ clIn F i k)))
        case atStart => exact ⟨i + 1, by omega, by omega, by go_num, IV.out⟩
        case round =>
          obtain ⟨k, hk, hik, rfl, hw⟩ := hrel
          clear IV
          by_cases hkl : k < code.length
          · obtain ⟨b, o, op1, d1, a1, b1, c1, n1, t1, rfl, _, hb, hx1, z2, _⟩ := Ins_get (HC.out.stays InsKeeps hw.out.bel) i hlt
            obtain ⟨b', o', op2, d2, a2, b2, c2, n2, t2, he2, _, _, hx2, z3, _⟩ := Ins_get (HC.out.stays InsKeeps hw.out.bel) k hkl
            cases he2
            have z0 := (cells_of hw.out.box).1 4
            simp at z0
            have z1 := (hw.out.bel.cell (p := ⟨bb, oo + ib * 5, none⟩) hbb).trans hcell
            have hgP := (hw.out.pls.low gP rfl).2
            obtain ⟨u0, u1, u2, u3⟩ := pla_at hw.out.pls i (by omega)
            obtain ⟨v0, v1, v2, v3⟩ := pla_at hw.out.pls k (by omega)
            obtain ⟨⟨pr1, pi1, pj1, po1⟩, hp1⟩ : ∃ p, (placesUp V code code.length)[i]'(by omega) = p := ⟨_, rfl⟩
            obtain ⟨⟨pr2, pi2, pj2, po2⟩, hp2⟩ : ∃ p, (placesUp V code code.length)[k]'(by omega) = p := ⟨_, rfl⟩
            rw [hp1] at u0 u1 u2 u3
            rw [hp2] at v0 v1 v2 v3
            simp only at u0 u1 u2 u3 v0 v1 v2 v3
            have g1 : code[i]? = some ⟨op1, d1, a1, b1, c1, n1, t1⟩ := by rw [List.getElem?_eq_getElem hlt, hx1]
            have g2 : code[k]? = some ⟨op2, d2, a2, b2, c2, n2, t2⟩ := by rw [List.getElem?_eq_getElem hkl, hx2]
            have g3 : (placesUp V code code.length)[i]? = some ⟨pr1, pi1, pj1, po1⟩ := by rw [List.getElem?_eq_getElem (by omega), hp1]
            have g4 : (placesUp V code code.length)[k]? = some ⟨pr2, pi2, pj2, po2⟩ := by rw [List.getElem?_eq_getElem (by omega), hp2]
            have HF0 := HFD.out i k _ _ _ _ g1 g2 g3 g4
            have r1 := HPR.out i _ _ g1 g3
            have r2 := HPR.out k _ _ g2 g4
            simp only at r1 r2
            have SK : Hid (∀ W', Below wr.heap.size wr W' → W'.cell? ⟨gP, i * 4, none⟩ = some (.int .i64 pr1) ∧ W'.cell? ⟨gP, i * 4 + 1, none⟩ = some (.int .i64 pi1) ∧ W'.cell? ⟨gP, i * 4 + 2, none⟩ = some (.int .i64 pj1) ∧ W'.cell? ⟨gP, i * 4 + 3, none⟩ = some (.int .i64 po1) ∧ W'.cell? ⟨gP, k * 4, none⟩ = some (.int .i64 pr2) ∧ W'.cell? ⟨gP, k * 4 + 1, none⟩ = some (.int .i64 pi2) ∧ W'.cell? ⟨gP, k * 4 + 2, none⟩ = some (.int .i64 pj2) ∧ W'.cell? ⟨gP, k * 4 + 3, none⟩ = some (.int .i64 po2)) := fun W' h => ⟨(h.cell (p := ⟨gP, _, none⟩) hgP).trans u0, (h.cell (p := ⟨gP, _, none⟩) hgP).trans u1, (h.cell (p := ⟨gP, _, none⟩) hgP).trans u2, (h.cell (p := ⟨gP, _, none⟩) hgP).trans u3, (h.cell (p := ⟨gP, _, none⟩) hgP).trans v0, (h.cell (p := ⟨gP, _, none⟩) hgP).trans v1, (h.cell (p := ⟨gP, _, none⟩) hgP).trans v2, (h.cell (p := ⟨gP, _, none⟩) hgP).trans v3⟩
            obtain ⟨al, hal⟩ : ∃ m, aliasP ⟨pr1, pi1, pj1, po1⟩ ⟨pr2, pi2, pj2, po2⟩ = m := ⟨_, rfl⟩
            have CA : Hid (∀ W, Calls Try.prog 38 #[.agg #[.int .i64 pr1, .int .i64 pi1, .int .i64 pj1, .int .i64 po1], .agg #[.int .i64 pr2, .int .i64 pi2, .int .i64 pj2, .int .i64 po2]] W fun e w' => e = .returned (.int .i64 al) ∧ Below W.heap.size W w') := fun W => hal ▸ specAlias_any ⟨pr1, pi1, pj1, po1⟩ ⟨pr2, pi2, pj2, po2⟩ W
            rw [hal] at HF0
            unfold meetP at HF0
            rw [← r1, ← r2] at HF0
            have HF1 : F i k = ((pr1 != -1) && (pr2 != -1) && (op1 == 4 || op2 == 4) && !decide (al = 0)) := by
              rw [HF0]; congr 2
            clear HF0
            have HF0 := HF1
            clear HF1 r1 r2
            obtain ⟨gO, cO, hvO, _⟩ := id hw.out.own
            obtain ⟨nO, hnO⟩ : ∃ m, (clUp F code.length i ++ clIn F i k).length = m := ⟨_, rfl⟩
            rw [hnO] at hvO
            subst hvO
            clear hnO
            clear hal hp1 hp2 hx1 hx2 g1 g2 g3 g4 u0 u1 u2 u3 v0 v1 v2 v3
            by_cases h4 : op1 = 4
            · subst h4
              have hst : ((4 : Int) == 4 || op2 == 4) = true := rfl
              by_cases hr1 : (pr1 != -1) = true
              · by_cases hr2 : (pr2 != -1) = true
                · by_cases hal0 : al = 0
                  · have HNE : (al != 0) = false := by simp [hal0]
                    have UPI := hideP (clIn_no (f := F) (i := i) (k := k) (by rw [HF0, hal0]; simp))
                    have IV : Hid (∀ W', Below wr.heap.size wr W' → CInvS w V code gP code.length cP #[.slice us sizes.length cs, .int .i64 params, .int .i64 vars, .int .i64 (V : Int), .slice (some ⟨bb, oo, none⟩) blocks.length cb] W' (.slice (some ⟨gO, 0, none⟩) nO cO) (clUp F code.length i ++ clIn F i (k + 1))) := fun W' h => by
                      rw [UPI.out]
                      exact ⟨hw.out.own.stays h, hw.out.pls.stays h, below_trans hw.out.bel h, hw.out.ne, hw.out.few, (h.block _ (Array.getElem?_eq_some_iff.1 hw.out.box).1).trans hw.out.box⟩
                    clear hw UPI HF0
                    clear hal0
                    go_upto_region 10 with fail
                    clear z0 z1 z2 z3
                    go_cut [80] from 52 to 80 (fun s80 wx => s80 = .bool false ∧ Hid (Below wr.heap.size wr wx))
                    case first =>
                      go_region_held3 (fun W' => W'.cell? ⟨gP, i * 4, none⟩ = some (.int .i64 pr1) ∧ W'.cell? ⟨gP, i * 4 + 1, none⟩ = some (.int .i64 pi1) ∧ W'.cell? ⟨gP, i * 4 + 2, none⟩ = some (.int .i64 pj1) ∧ W'.cell? ⟨gP, i * 4 + 3, none⟩ = some (.int .i64 po1) ∧ W'.cell? ⟨gP, k * 4, none⟩ = some (.int .i64 pr2) ∧ W'.cell? ⟨gP, k * 4 + 1, none⟩ = some (.int .i64 pi2) ∧ W'.cell? ⟨gP, k * 4 + 2, none⟩ = some (.int .i64 pj2) ∧ W'.cell? ⟨gP, k * 4 + 3, none⟩ = some (.int .i64 po2)) (first | exact SK.out _ (Below.refl _ _).drew | exact SK.out _ HBb.out) (first
                        | (go_at_call 38; refine (CA.out _).mono ?_; rintro eb wb ⟨rfl, belb⟩; have HBb := hideP ((Below.refl wr.heap.size wr).drew.trans (belb.mono (Nat.le_refl _))); clear belb))
                      all_goals (go_wp2_with fail; go_meet; exact ⟨rfl, HBb⟩)
                    case rest =>
                    obtain ⟨rfl, hc⟩ := hcut
                    have IV2 := hideP (IV.out _ hc.out)
                    clear IV hc SK CA
                    go_wp2
                    go_roundg (code.length - (k + 1))
                    case rel => exact ⟨k + 1, by omega, by omega, by go_num, IV2.out⟩
                    case measure => omega
                  · have HNE : (al != 0) = true := by simp [hal0]
                    have HF : Hid (F i k = true) := by show _ = _; rw [HF0, hr1, hr2, hst, decide_eq_false hal0]; rfl
                    clear HF0 hal0
                    go_upto_region 10 with fail
                    clear z0 z1 z2 z3
                    go_cut [80] from 52 to 80 (fun s80 wx => s80 = .bool true ∧ Hid (Below wr.heap.size wr wx))
                    case first =>
                      go_region_held3 (fun W' => W'.cell? ⟨gP, i * 4, none⟩ = some (.int .i64 pr1) ∧ W'.cell? ⟨gP, i * 4 + 1, none⟩ = some (.int .i64 pi1) ∧ W'.cell? ⟨gP, i * 4 + 2, none⟩ = some (.int .i64 pj1) ∧ W'.cell? ⟨gP, i * 4 + 3, none⟩ = some (.int .i64 po1) ∧ W'.cell? ⟨gP, k * 4, none⟩ = some (.int .i64 pr2) ∧ W'.cell? ⟨gP, k * 4 + 1, none⟩ = some (.int .i64 pi2) ∧ W'.cell? ⟨gP, k * 4 + 2, none⟩ = some (.int .i64 pj2) ∧ W'.cell? ⟨gP, k * 4 + 3, none⟩ = some (.int .i64 po2)) (first | exact SK.out _ (Below.refl _ _).drew | exact SK.out _ HBb.out) (first
                        | (go_at_call 38; refine (CA.out _).mono ?_; rintro eb wb ⟨rfl, belb⟩; have HBb := hideP ((Below.refl wr.heap.size wr).drew.trans (belb.mono (Nat.le_refl _))); clear belb))
                      all_goals (go_wp2_with fail; go_meet; exact ⟨rfl, HBb⟩)
                    case rest =>
                    obtain ⟨rfl, hc⟩ := hcut
                    have OX := hideP (hw.out.own.stays hc.out)
                    have PX := hideP (hw.out.pls.stays hc.out)
                    have BX := hideP (below_trans hw.out.bel hc.out)
                    have XX := hideP ((hc.out.block _ (Array.getElem?_eq_some_iff.1 hw.out.box).1).trans hw.out.box)
                    clear hc SK CA HNE
                    obtain ⟨wx, hwx⟩ : ∃ wx, wc = wx := ⟨_, rfl⟩
                    rw [hwx] at OX PX BX XX ⊢
                    clear hwx
                    have UPI := hideP (clIn_yes hik HF.out)
                    have hpl := hw.out.few
                    have al := (Below.refl wx.heap.size wx).alloc (Nat.le_refl _) (.cells #[.int .i64 (i : Int), .int .i64 (k : Int)] 73)
                    have CQ : Hid (∀ r, r < A2E.sz → (wx.alloc (.cells #[.int .i64 (i : Int), .int .i64 (k : Int)] 73)).cell? ⟨wx.heap.size, 0 + r, none⟩ = (A2E.cs (i, k))[r]?) := fun r _ => by
                      have := (cells_of (heap_alloc_new wx (.cells #[.int .i64 (i : Int), .int .i64 (k : Int)] 73))).1 r
                      rw [Nat.zero_add, this]; simp [A2E]
                    have OA := hideP (OX.out.stays al)
                    have PA := hideP (PX.out.stays al)
                    have BA := hideP (below_trans BX.out al)
                    have BXX := hideP ((al.block _ (Array.getElem?_eq_some_iff.1 XX.out).1).trans XX.out)
                    have hsz1 : w.heap.size + 1 ≤ (wx.alloc (.cells #[.int .i64 (i : Int), .int .i64 (k : Int)] 73)).heap.size := (Array.getElem?_eq_some_iff.1 BXX.out).1
                    clear al
                    have hne := hideP hw.out.ne
                    go_upto_region 8 with (at_builtin; refine list_appE A2Ok _ rfl _ _ rfl (w.heap.size + 1) _ (clUp F code.length i ++ clIn F i k) (i, k) wx.heap.size 0 1 rfl rfl OA.out CQ.out (by omega) hsz1 ?_; intro v6 w6 o6 grow6 loc6)
                    replace grow6 : World.grownBy _ w6 ((Value.slice (some ⟨gO, 0, none⟩) nO cO).ownBlock) := grow6
                    replace loc6 : v6.ownBlock = ((Value.slice (some ⟨gO, 0, none⟩) nO cO).ownBlock) ∨ v6.ownBlock = some (wx.alloc (.cells #[.int .i64 (i : Int), .int .i64 (k : Int)] 73)).heap.size := loc6
                    rw [List.append_assoc, ← UPI.out] at o6
                    have IV : Hid (CInvS w V code gP code.length cP #[.slice us sizes.length cs, .int .i64 params, .int .i64 vars, .int .i64 (V : Int), .slice (some ⟨bb, oo, none⟩) blocks.length cb] w6 v6 (clUp F code.length i ++ clIn F i (k + 1))) := by
                      refine ⟨o6, PA.out.kept grow6 (fun e => hne.out (by rw [← e]; rfl)), BA.out.grown grow6 BA.out.size (fun b' hb' => Nat.le_of_succ_le (OA.out.low b' hb').1), ?_, by
                        have h1 := clUp_len F code.length i
                        have h2 := clIn_len F i (k + 1)
                        have h3 : i * code.length ≤ 1000 * 1000 := Nat.mul_le_mul (by omega) (by omega)
                        rw [List.length_append]; omega, ?_⟩
                      · have l1 := (PA.out.low gP rfl).2
                        rcases loc6 with e | e
                        · rw [e]; exact hne.out
                        · rw [e]; exact fun h => by injection h with h; omega
                      · refine (grow6.block w.heap.size (Array.getElem?_eq_some_iff.1 BXX.out).1 (fun e => ?_)).trans BXX.out
                        have := (OA.out.low _ e.symm).1
                        omega
                    obtain ⟨g6, c6, rfl, _⟩ := id o6
                    clear o6 grow6 loc6 OA PA BA CQ UPI hne BXX
                    go_wp2
                    go_roundg (code.length - (k + 1))
                    case rel => exact ⟨k + 1, by omega, by omega, by go_num, IV.out⟩
                    case measure => omega
                · have hr2 : (pr2 != -1) = false := by simpa using hr2
                  have UPI := hideP (clIn_no (f := F) (i := i) (k := k) (by rw [HF0, hr1, hr2]; simp))
                  have IV : Hid (∀ W', Below wr.heap.size wr W' → CInvS w V code gP code.length cP #[.slice us sizes.length cs, .int .i64 params, .int .i64 vars, .int .i64 (V : Int), .slice (some ⟨bb, oo, none⟩) blocks.length cb] W' (.slice (some ⟨gO, 0, none⟩) nO cO) (clUp F code.length i ++ clIn F i (k + 1))) := fun W' h => by
                    rw [UPI.out]
                    exact ⟨hw.out.own.stays h, hw.out.pls.stays h, below_trans hw.out.bel h, hw.out.ne, hw.out.few, (h.block _ (Array.getElem?_eq_some_iff.1 hw.out.box).1).trans hw.out.box⟩
                  clear hw UPI HF0
                  go_upto_region 10 with fail
                  clear z0 z1 z2 z3
                  go_cut [80] from 52 to 80 (fun s80 wx => s80 = .bool false ∧ Hid (Below wr.heap.size wr wx))
                  case first =>
                    obtain ⟨u0, u1, u2, u3, v0, v1, v2, v3⟩ := SK.out wr (Below.refl _ _)
                    clear SK CA IV
                    go_quiet (fail)
                    go_wp2_with fail
                    go_meet
                    exact ⟨rfl, below_drewNS _ _ _⟩
                  case rest =>
                  obtain ⟨rfl, hc⟩ := hcut
                  have IV2 := hideP (IV.out _ hc.out)
                  clear IV hc SK CA
                  go_wp2
                  go_roundg (code.length - (k + 1))
                  case rel => exact ⟨k + 1, by omega, by omega, by go_num, IV2.out⟩
                  case measure => omega
              · have hr1 : (pr1 != -1) = false := by simpa using hr1
                have UPI := hideP (clIn_no (f := F) (i := i) (k := k) (by rw [HF0, hr1]; simp))
                have IV : Hid (∀ W', Below wr.heap.size wr W' → CInvS w V code gP code.length cP #[.slice us sizes.length cs, .int .i64 params, .int .i64 vars, .int .i64 (V : Int), .slice (some ⟨bb, oo, none⟩) blocks.length cb] W' (.slice (some ⟨gO, 0, none⟩) nO cO) (clUp F code.length i ++ clIn F i (k + 1))) := fun W' h => by
                  rw [UPI.out]
                  exact ⟨hw.out.own.stays h, hw.out.pls.stays h, below_trans hw.out.bel h, hw.out.ne, hw.out.few, (h.block _ (Array.getElem?_eq_some_iff.1 hw.out.box).1).trans hw.out.box⟩
                clear hw UPI HF0
                go_upto_region 10 with fail
                clear z0 z1 z2 z3
                go_cut [80] from 52 to 80 (fun s80 wx => s80 = .bool false ∧ Hid (Below wr.heap.size wr wx))
                case first =>
                  obtain ⟨u0, u1, u2, u3, v0, v1, v2, v3⟩ := SK.out wr (Below.refl _ _)
                  clear SK CA IV
                  go_quiet (fail)
                  go_wp2_with fail
                  go_meet
                  exact ⟨rfl, below_drewNS _ _ _⟩
                case rest =>
                obtain ⟨rfl, hc⟩ := hcut
                have IV2 := hideP (IV.out _ hc.out)
                clear IV hc SK CA
                go_wp2
                go_roundg (code.length - (k + 1))
                case rel => exact ⟨k + 1, by omega, by omega, by go_num, IV2.out⟩
                case measure => omega
            · have o1 : (op1 == 4) = false := by simpa using h4
              by_cases h5 : op2 = 4
              · subst h5
                have hst : (op1 == 4 || (4 : Int) == 4) = true := by simp
                by_cases hr1 : (pr1 != -1) = true
                · by_cases hr2 : (pr2 != -1) = true
                  · by_cases hal0 : al = 0
                    · have HNE : (al != 0) = false := by simp [hal0]
                      have UPI := hideP (clIn_no (f := F) (i := i) (k := k) (by rw [HF0, hal0]; simp))
                      have IV : Hid (∀ W', Below wr.heap.size wr W' → CInvS w V code gP code.length cP #[.slice us sizes.length cs, .int .i64 params, .int .i64 vars, .int .i64 (V : Int), .slice (some ⟨bb, oo, none⟩) blocks.length cb] W' (.slice (some ⟨gO, 0, none⟩) nO cO) (clUp F code.length i ++ clIn F i (k + 1))) := fun W' h => by
                        rw [UPI.out]
                        exact ⟨hw.out.own.stays h, hw.out.pls.stays h, below_trans hw.out.bel h, hw.out.ne, hw.out.few, (h.block _ (Array.getElem?_eq_some_iff.1 hw.out.box).1).trans hw.out.box⟩
                      clear hw UPI HF0
                      clear hal0
                      go_upto_region 10 with fail
                      clear z0 z1 z2 z3
                      go_cut [80] from 52 to 80 (fun s80 wx => s80 = .bool false ∧ Hid (Below wr.heap.size wr wx))
                      case first =>
                        go_region_held3 (fun W' => W'.cell? ⟨gP, i * 4, none⟩ = some (.int .i64 pr1) ∧ W'.cell? ⟨gP, i * 4 + 1, none⟩ = some (.int .i64 pi1) ∧ W'.cell? ⟨gP, i * 4 + 2, none⟩ = some (.int .i64 pj1) ∧ W'.cell? ⟨gP, i * 4 + 3, none⟩ = some (.int .i64 po1) ∧ W'.cell? ⟨gP, k * 4, none⟩ = some (.int .i64 pr2) ∧ W'.cell? ⟨gP, k * 4 + 1, none⟩ = some (.int .i64 pi2) ∧ W'.cell? ⟨gP, k * 4 + 2, none⟩ = some (.int .i64 pj2) ∧ W'.cell? ⟨gP, k * 4 + 3, none⟩ = some (.int .i64 po2)) (first | exact SK.out _ (Below.refl _ _).drew | exact SK.out _ HBb.out) (first
                          | (go_at_call 38; refine (CA.out _).mono ?_; rintro eb wb ⟨rfl, belb⟩; have HBb := hideP ((Below.refl wr.heap.size wr).drew.trans (belb.mono (Nat.le_refl _))); clear belb))
                        all_goals (go_wp2_with fail; go_meet; exact ⟨rfl, HBb⟩)
                      case rest =>
                      obtain ⟨rfl, hc⟩ := hcut
                      have IV2 := hideP (IV.out _ hc.out)
                      clear IV hc SK CA
                      go_wp2
                      go_roundg (code.length - (k + 1))
                      case rel => exact ⟨k + 1, by omega, by omega, by go_num, IV2.out⟩
                      case measure => omega
                    · have HNE : (al != 0) = true := by simp [hal0]
                      have HF : Hid (F i k = true) := by show _ = _; rw [HF0, hr1, hr2, hst, decide_eq_false hal0]; rfl
                      clear HF0 hal0
                      go_upto_region 10 with fail
                      clear z0 z1 z2 z3
                      go_cut [80] from 52 to 80 (fun s80 wx => s80 = .bool true ∧ Hid (Below wr.heap.size wr wx))
                      case first =>
                        go_region_held3 (fun W' => W'.cell? ⟨gP, i * 4, none⟩ = some (.int .i64 pr1) ∧ W'.cell? ⟨gP, i * 4 + 1, none⟩ = some (.int .i64 pi1) ∧ W'.cell? ⟨gP, i * 4 + 2, none⟩ = some (.int .i64 pj1) ∧ W'.cell? ⟨gP, i * 4 + 3, none⟩ = some (.int .i64 po1) ∧ W'.cell? ⟨gP, k * 4, none⟩ = some (.int .i64 pr2) ∧ W'.cell? ⟨gP, k * 4 + 1, none⟩ = some (.int .i64 pi2) ∧ W'.cell? ⟨gP, k * 4 + 2, none⟩ = some (.int .i64 pj2) ∧ W'.cell? ⟨gP, k * 4 + 3, none⟩ = some (.int .i64 po2)) (first | exact SK.out _ (Below.refl _ _).drew | exact SK.out _ HBb.out) (first
                          | (go_at_call 38; refine (CA.out _).mono ?_; rintro eb wb ⟨rfl, belb⟩; have HBb := hideP ((Below.refl wr.heap.size wr).drew.trans (belb.mono (Nat.le_refl _))); clear belb))
                        all_goals (go_wp2_with fail; go_meet; exact ⟨rfl, HBb⟩)
                      case rest =>
                      obtain ⟨rfl, hc⟩ := hcut
                      have OX := hideP (hw.out.own.stays hc.out)
                      have PX := hideP (hw.out.pls.stays hc.out)
                      have BX := hideP (below_trans hw.out.bel hc.out)
                      have XX := hideP ((hc.out.block _ (Array.getElem?_eq_some_iff.1 hw.out.box).1).trans hw.out.box)
                      clear hc SK CA HNE
                      obtain ⟨wx, hwx⟩ : ∃ wx, wc = wx := ⟨_, rfl⟩
                      rw [hwx] at OX PX BX XX ⊢
                      clear hwx
                      have UPI := hideP (clIn_yes hik HF.out)
                      have hpl := hw.out.few
                      have al := (Below.refl wx.heap.size wx).alloc (Nat.le_refl _) (.cells #[.int .i64 (i : Int), .int .i64 (k : Int)] 73)
                      have CQ : Hid (∀ r, r < A2E.sz → (wx.alloc (.cells #[.int .i64 (i : Int), .int .i64 (k : Int)] 73)).cell? ⟨wx.heap.size, 0 + r, none⟩ = (A2E.cs (i, k))[r]?) := fun r _ => by
                        have := (cells_of (heap_alloc_new wx (.cells #[.int .i64 (i : Int), .int .i64 (k : Int)] 73))).1 r
                        rw [Nat.zero_add, this]; simp [A2E]
                      have OA := hideP (OX.out.stays al)
                      have PA := hideP (PX.out.stays al)
                      have BA := hideP (below_trans BX.out al)
                      have BXX := hideP ((al.block _ (Array.getElem?_eq_some_iff.1 XX.out).1).trans XX.out)
                      have hsz1 : w.heap.size + 1 ≤ (wx.alloc (.cells #[.int .i64 (i : Int), .int .i64 (k : Int)] 73)).heap.size := (Array.getElem?_eq_some_iff.1 BXX.out).1
                      clear al
                      have hne := hideP hw.out.ne
                      go_upto_region 8 with (at_builtin; refine list_appE A2Ok _ rfl _ _ rfl (w.heap.size + 1) _ (clUp F code.length i ++ clIn F i k) (i, k) wx.heap.size 0 1 rfl rfl OA.out CQ.out (by omega) hsz1 ?_; intro v6 w6 o6 grow6 loc6)
                      replace grow6 : World.grownBy _ w6 ((Value.slice (some ⟨gO, 0, none⟩) nO cO).ownBlock) := grow6
                      replace loc6 : v6.ownBlock = ((Value.slice (some ⟨gO, 0, none⟩) nO cO).ownBlock) ∨ v6.ownBlock = some (wx.alloc (.cells #[.int .i64 (i : Int), .int .i64 (k : Int)] 73)).heap.size := loc6
                      rw [List.append_assoc, ← UPI.out] at o6
                      have IV : Hid (CInvS w V code gP code.length cP #[.slice us sizes.length cs, .int .i64 params, .int .i64 vars, .int .i64 (V : Int), .slice (some ⟨bb, oo, none⟩) blocks.length cb] w6 v6 (clUp F code.length i ++ clIn F i (k + 1))) := by
                        refine ⟨o6, PA.out.kept grow6 (fun e => hne.out (by rw [← e]; rfl)), BA.out.grown grow6 BA.out.size (fun b' hb' => Nat.le_of_succ_le (OA.out.low b' hb').1), ?_, by
                          have h1 := clUp_len F code.length i
                          have h2 := clIn_len F i (k + 1)
                          have h3 : i * code.length ≤ 1000 * 1000 := Nat.mul_le_mul (by omega) (by omega)
                          rw [List.length_append]; omega, ?_⟩
                        · have l1 := (PA.out.low gP rfl).2
                          rcases loc6 with e | e
                          · rw [e]; exact hne.out
                          · rw [e]; exact fun h => by injection h with h; omega
                        · refine (grow6.block w.heap.size (Array.getElem?_eq_some_iff.1 BXX.out).1 (fun e => ?_)).trans BXX.out
                          have := (OA.out.low _ e.symm).1
                          omega
                      obtain ⟨g6, c6, rfl, _⟩ := id o6
                      clear o6 grow6 loc6 OA PA BA CQ UPI hne BXX
                      go_wp2
                      go_roundg (code.length - (k + 1))
                      case rel => exact ⟨k + 1, by omega, by omega, by go_num, IV.out⟩
                      case measure => omega
                  · have hr2 : (pr2 != -1) = false := by simpa using hr2
                    have UPI := hideP (clIn_no (f := F) (i := i) (k := k) (by rw [HF0, hr1, hr2]; simp))
                    have IV : Hid (∀ W', Below wr.heap.size wr W' → CInvS w V code gP code.length cP #[.slice us sizes.length cs, .int .i64 params, .int .i64 vars, .int .i64 (V : Int), .slice (some ⟨bb, oo, none⟩) blocks.length cb] W' (.slice (some ⟨gO, 0, none⟩) nO cO) (clUp F code.length i ++ clIn F i (k + 1))) := fun W' h => by
                      rw [UPI.out]
                      exact ⟨hw.out.own.stays h, hw.out.pls.stays h, below_trans hw.out.bel h, hw.out.ne, hw.out.few, (h.block _ (Array.getElem?_eq_some_iff.1 hw.out.box).1).trans hw.out.box⟩
                    clear hw UPI HF0
                    go_upto_region 10 with fail
                    clear z0 z1 z2 z3
                    go_cut [80] from 52 to 80 (fun s80 wx => s80 = .bool false ∧ Hid (Below wr.heap.size wr wx))
                    case first =>
                      obtain ⟨u0, u1, u2, u3, v0, v1, v2, v3⟩ := SK.out wr (Below.refl _ _)
                      clear SK CA IV
                      go_quiet (fail)
                      go_wp2_with fail
                      go_meet
                      exact ⟨rfl, below_drewNS _ _ _⟩
                    case rest =>
                    obtain ⟨rfl, hc⟩ := hcut
                    have IV2 := hideP (IV.out _ hc.out)
                    clear IV hc SK CA
                    go_wp2
                    go_roundg (code.length - (k + 1))
                    case rel => exact ⟨k + 1, by omega, by omega, by go_num, IV2.out⟩
                    case measure => omega
                · have hr1 : (pr1 != -1) = false := by simpa using hr1
                  have UPI := hideP (clIn_no (f := F) (i := i) (k := k) (by rw [HF0, hr1]; simp))
                  have IV : Hid (∀ W', Below wr.heap.size wr W' → CInvS w V code gP code.length cP #[.slice us sizes.length cs, .int .i64 params, .int .i64 vars, .int .i64 (V : Int), .slice (some ⟨bb, oo, none⟩) blocks.length cb] W' (.slice (some ⟨gO, 0, none⟩) nO cO) (clUp F code.length i ++ clIn F i (k + 1))) := fun W' h => by
                    rw [UPI.out]
                    exact ⟨hw.out.own.stays h, hw.out.pls.stays h, below_trans hw.out.bel h, hw.out.ne, hw.out.few, (h.block _ (Array.getElem?_eq_some_iff.1 hw.out.box).1).trans hw.out.box⟩
                  clear hw UPI HF0
                  go_upto_region 10 with fail
                  clear z0 z1 z2 z3
                  go_cut [80] from 52 to 80 (fun s80 wx => s80 = .bool false ∧ Hid (Below wr.heap.size wr wx))
                  case first =>
                    obtain ⟨u0, u1, u2, u3, v0, v1, v2, v3⟩ := SK.out wr (Below.refl _ _)
                    clear SK CA IV
                    go_quiet (fail)
                    go_wp2_with fail
                    go_meet
                    exact ⟨rfl, below_drewNS _ _ _⟩
                  case rest =>
                  obtain ⟨rfl, hc⟩ := hcut
                  have IV2 := hideP (IV.out _ hc.out)
                  clear IV hc SK CA
                  go_wp2
                  go_roundg (code.length - (k + 1))
                  case rel => exact ⟨k + 1, by omega, by omega, by go_num, IV2.out⟩
                  case measure => omega
              · have o2 : (op2 == 4) = false := by simpa using h5
                have hst : (op1 == 4 || op2 == 4) = false := by rw [o1, o2]; rfl
                by_cases hr1 : (pr1 != -1) = true
                · by_cases hr2 : (pr2 != -1) = true
                  · have UPI := hideP (clIn_no (f := F) (i := i) (k := k) (by rw [HF0, hst]; simp))
                    have IV : Hid (∀ W', Below wr.heap.size wr W' → CInvS w V code gP code.length cP #[.slice us sizes.length cs, .int .i64 params, .int .i64 vars, .int .i64 (V : Int), .slice (some ⟨bb, oo, none⟩) blocks.length cb] W' (.slice (some ⟨gO, 0, none⟩) nO cO) (clUp F code.length i ++ clIn F i (k + 1))) := fun W' h => by
                      rw [UPI.out]
                      exact ⟨hw.out.own.stays h, hw.out.pls.stays h, below_trans hw.out.bel h, hw.out.ne, hw.out.few, (h.block _ (Array.getElem?_eq_some_iff.1 hw.out.box).1).trans hw.out.box⟩
                    clear hw UPI HF0
                    go_upto_region 10 with fail
                    clear z0 z1 z2 z3
                    go_cut [80] from 52 to 80 (fun s80 wx => s80 = .bool false ∧ Hid (Below wr.heap.size wr wx))
                    case first =>
                      obtain ⟨u0, u1, u2, u3, v0, v1, v2, v3⟩ := SK.out wr (Below.refl _ _)
                      clear SK CA IV
                      go_quiet (fail)
                      go_wp2_with fail
                      go_meet
                      exact ⟨rfl, below_drewNS _ _ _⟩
                    case rest =>
                    obtain ⟨rfl, hc⟩ := hcut
                    have IV2 := hideP (IV.out _ hc.out)
                    clear IV hc SK CA
                    go_wp2
                    go_roundg (code.length - (k + 1))
                    case rel => exact ⟨k + 1, by omega, by omega, by go_num, IV2.out⟩
                    case measure => omega
                  · have hr2 : (pr2 != -1) = false := by simpa using hr2
                    have UPI := hideP (clIn_no (f := F) (i := i) (k := k) (by rw [HF0, hr1, hr2]; simp))
                    have IV : Hid (∀ W', Below wr.heap.size wr W' → CInvS w V code gP code.length cP #[.slice us sizes.length cs, .int .i64 params, .int .i64 vars, .int .i64 (V : Int), .slice (some ⟨bb, oo, none⟩) blocks.length cb] W' (.slice (some ⟨gO, 0, none⟩) nO cO) (clUp F code.length i ++ clIn F i (k + 1))) := fun W' h => by
                      rw [UPI.out]
                      exact ⟨hw.out.own.stays h, hw.out.pls.stays h, below_trans hw.out.bel h, hw.out.ne, hw.out.few, (h.block _ (Array.getElem?_eq_some_iff.1 hw.out.box).1).trans hw.out.box⟩
                    clear hw UPI HF0
                    go_upto_region 10 with fail
                    clear z0 z1 z2 z3
                    go_cut [80] from 52 to 80 (fun s80 wx => s80 = .bool false ∧ Hid (Below wr.heap.size wr wx))
                    case first =>
                      obtain ⟨u0, u1, u2, u3, v0, v1, v2, v3⟩ := SK.out wr (Below.refl _ _)
                      clear SK CA IV
                      go_quiet (fail)
                      go_wp2_with fail
                      go_meet
                      exact ⟨rfl, below_drewNS _ _ _⟩
                    case rest =>
                    obtain ⟨rfl, hc⟩ := hcut
                    have IV2 := hideP (IV.out _ hc.out)
                    clear IV hc SK CA
                    go_wp2
                    go_roundg (code.length - (k + 1))
                    case rel => exact ⟨k + 1, by omega, by omega, by go_num, IV2.out⟩
                    case measure => omega
                · have hr1 : (pr1 != -1) = false := by simpa using hr1
                  have UPI := hideP (clIn_no (f := F) (i := i) (k := k) (by rw [HF0, hr1]; simp))
                  have IV : Hid (∀ W', Below wr.heap.size wr W' → CInvS w V code gP code.length cP #[.slice us sizes.length cs, .int .i64 params, .int .i64 vars, .int .i64 (V : Int), .slice (some ⟨bb, oo, none⟩) blocks.length cb] W' (.slice (some ⟨gO, 0, none⟩) nO cO) (clUp F code.length i ++ clIn F i (k + 1))) := fun W' h => by
                    rw [UPI.out]
                    exact ⟨hw.out.own.stays h, hw.out.pls.stays h, below_trans hw.out.bel h, hw.out.ne, hw.out.few, (h.block _ (Array.getElem?_eq_some_iff.1 hw.out.box).1).trans hw.out.box⟩
                  clear hw UPI HF0
                  go_upto_region 10 with fail
                  clear z0 z1 z2 z3
                  go_cut [80] from 52 to 80 (fun s80 wx => s80 = .bool false ∧ Hid (Below wr.heap.size wr wx))
                  case first =>
                    obtain ⟨u0, u1, u2, u3, v0, v1, v2, v3⟩ := SK.out wr (Below.refl _ _)
                    clear SK CA IV
                    go_quiet (fail)
                    go_wp2_with fail
                    go_meet
                    exact ⟨rfl, below_drewNS _ _ _⟩
                  case rest =>
                  obtain ⟨rfl, hc⟩ := hcut
                  have IV2 := hideP (IV.out _ hc.out)
                  clear IV hc SK CA
                  go_wp2
                  go_roundg (code.length - (k + 1))
                  case rel => exact ⟨k + 1, by omega, by omega, by go_num, IV2.out⟩
                  case measure => omega
          · have hkn : k = code.length := by omega
            subst hkn
            have IV : Hid (CInvS w V code gP code.length cP #[.slice us sizes.length cs, .int .i64 params, .int .i64 vars, .int .i64 (V : Int), .slice (some ⟨bb, oo, none⟩) blocks.length cb] wr _ (clUp F code.length (i + 1))) := hw.out
            obtain ⟨gO, cO, rfl, _⟩ := id hw.out.own
            clear hw
            go_wp2
            go_roundg (code.length - (i + 1))
            case rel => exact ⟨i + 1, by omega, by go_num, IV.out⟩
            case measure => omega
      · have hin : i = code.length := by omega
        subst hin
        go_wp2
        go_ret
        exact ⟨_, rfl, hv.out.own.mono (Nat.le_succ _), hv.out.bel⟩
  · rw [show clashP g n = [] from if_neg hb6]
    rw [show placesP g n = [] from if_neg hb6] at SP
    obtain ⟨sizes, params, vars, slots, blocks⟩ := g
    obtain ⟨us, cs, ub, cb, rfl, _, _, hbs⟩ := h
    simp only at *
    have BW := hideP (below2 w (.cells #[.slice us sizes.length cs, .int .i64 params, .int .i64 vars, .int .i64 slots, .slice ub blocks.length cb] 32) (.cells #[] 73))
    have O0 : Hid (OwnE A2E ((w.alloc (.cells #[.slice us sizes.length cs, .int .i64 params, .int .i64 vars, .int .i64 slots, .slice ub blocks.length cb] 32)).alloc (.cells #[] 73)) w.heap.size (.slice (some ⟨w.heap.size + 1, 0, none⟩) 0 0) []) := (own_nil A2Ok (w.alloc (.cells #[.slice us sizes.length cs, .int .i64 params, .int .i64 vars, .int .i64 slots, .slice ub blocks.length cb] 32)) (w.heap.size + 1) (by simp)).mono (by simp)
    clear hbs hb6
    go_enter Try.func20, Try.ntmps20
    go_wp2_with fail
    refine (SP.out _ B _ (GrKeeps.stays hG.out BW.out)).mono ?_
    rintro e2 w2 ⟨v2, rfl, o2, bel2⟩
    obtain ⟨gP, cP, rfl, _⟩ := id o2
    replace BW := hideP (below_trans BW.out bel2)
    replace O0 := hideP (O0.out.stays bel2)
    clear bel2 o2
    go_wp2
    go_loopg [5, 7] 0 (fun gk o ix wr => gk = 0 ∧ ix = .int .i64 0 ∧ o = .slice (some ⟨w.heap.size + 1, 0, none⟩) 0 0 ∧ wr = w2)
    case atStart => exact ⟨rfl, rfl, rfl, rfl⟩
    case round =>
      obtain ⟨rfl, rfl, rfl, rfl⟩ := hrel
      go_wp2
      go_ret
      exact ⟨_, rfl, O0.out, BW.out⟩
end Go.Proofs.Ytgiboadcfnfooab
