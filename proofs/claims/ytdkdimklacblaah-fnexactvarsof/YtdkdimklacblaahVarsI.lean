/- The contract of impl.VarsOf. -/
import Derived.Test.YtdkdimklacblaahVarsI0
import Derived.Deep.CutRange
namespace Go.Proofs.Ytdkdimklacblaah
open Go.ChangeShapes Go.WideShapes Go.ChangeAt Go.RowKit
theorem OwnI.keepB {w w' : World} {A : Nat} {v : Value} {l : List Int} (h : OwnI w A v l) (hk : ∀ b, v.ownBlock = some b → w'.heap[b]? = w.heap[b]?) : OwnI w' A v l := by
  obtain ⟨g0, cap, hv, hl, h0 | ⟨g', cap', cur, hv', hB', hh, hr⟩⟩ := h
  · exact ⟨g0, cap, hv, hl, Or.inl h0⟩
  · exact ⟨g0, cap, hv, hl, Or.inr ⟨g', cap', cur, hv', hB', (hk g' (by rw [hv']; rfl)).trans hh, hr⟩⟩
set_option maxHeartbeats 8000000 in
set_option maxRecDepth 100000 in
theorem impl_varsOf (e : Ex) (w : World) (B : Nat) (v : Array Value) (hx : ExIs w B v e) (hB : 0 < B) (hsz : e.sz ≤ 1048576) :
    Calls Try.prog 16 #[.agg v] w fun en w' => ∃ v', en = .returned v' ∧ OwnI w' w.heap.size v' (varsP e) ∧ Below w.heap.size w w' := by
  have hx0 := hx
  have ER0 : Hid (ascP (e.vis.flatMap labVar) = varsP e) := ascP_eq _ _ (fun y => by have := mem_vars e y; simpa [exsVis] using this)
  have hvl0 := vis_le_ex e
  have NOST0 : Hid (∀ k n bs le lx ly, ¬ Lab.st k n bs le lx ly ∈ e.vis) := fun k n bs le lx ly h => by
    obtain ⟨x, _, hxx⟩ := (vis_ex e _).1 h
    obtain ⟨k', n', b', t', kids'⟩ := x
    cases hxx
  obtain ⟨labs, hlabs⟩ : ∃ labs, e.vis = labs := ⟨_, rfl⟩
  rw [hlabs] at ER0 hvl0 NOST0
  have hND : ∀ (W3 : World) (K blk : Nat), Below w.heap.size w W3 → w.heap.size ≤ K → blk < K → W3.heap[blk]? = some (.cells v 41 (0, 0)) → ∃ nd : Nd, nd.pt = .ex blk 0 ∧ NdAll (NodeOk W3 K (innOf W3)) nd ∧ F2 (LabIn W3 K) nd.visit labs := fun W3 K blk h1 h2 h3 h4 => by
    rw [← hlabs]
    exact ndEx w W3 K h1 h2 e B v blk 0 hx0 hB (fun j _ => by rw [Nat.zero_add, (cells_of h4).1]) ⟨_, _, h4⟩ h3 hsz
  have ND := hideP hND
  clear hlabs hND hx0
  obtain ⟨R, hR⟩ : ∃ R, varsP e = R := ⟨_, rfl⟩
  rw [hR] at ER0 ⊢
  clear hR
  obtain ⟨k0, n0, b0, t0, kids0⟩ := e
  obtain ⟨a, cap, rfl, _, _⟩ := hx.out
  clear hx
  have hvl : labs.length ≤ 1048577 := by omega
  have ER := ER0
  have NOST := NOST0
  have BW := hideP (below3 w (.cells #[.int .i64 k0, .int .i64 n0, .int .i64 b0, .string t0, .slice a kids0.length cap] 41) (.cells #[] 3) (.cells #[.int .i64 k0, .int .i64 n0, .int .i64 b0, .string t0, .slice a kids0.length cap] 41))
  have T3 := hideP (three (Below.refl (((w.alloc (.cells #[.int .i64 k0, .int .i64 n0, .int .i64 b0, .string t0, .slice a kids0.length cap] 41)).alloc (.cells #[] 3)).alloc (.cells #[.int .i64 k0, .int .i64 n0, .int .i64 b0, .string t0, .slice a kids0.length cap] 41)).heap.size _))
  have hzW : (((w.alloc (.cells #[.int .i64 k0, .int .i64 n0, .int .i64 b0, .string t0, .slice a kids0.length cap] 41)).alloc (.cells #[] 3)).alloc (.cells #[.int .i64 k0, .int .i64 n0, .int .i64 b0, .string t0, .slice a kids0.length cap] 41)).heap.size = w.heap.size + 3 := by simp
  have HZW := hideP hzW
  have O1 : Hid (OwnI ((w.alloc (.cells #[.int .i64 k0, .int .i64 n0, .int .i64 b0, .string t0, .slice a kids0.length cap] 41)).alloc (.cells #[] 3)) (w.heap.size + 1) (.slice (some ⟨w.heap.size + 1, 0, none⟩) 0 0) []) := by
    have := own_lit (w.alloc (.cells #[.int .i64 k0, .int .i64 n0, .int .i64 b0, .string t0, .slice a kids0.length cap] 41)) [] #[] (w.heap.size + 1) 0 (by simp) rfl rfl (by simp)
    show OwnI _ _ _ _
    simpa using this
  have O2 := hideP (O1.out.stays ((Below.refl _ _).alloc (Nat.le_refl _) (.cells #[.int .i64 k0, .int .i64 n0, .int .i64 b0, .string t0, .slice a kids0.length cap] 41)))
  obtain ⟨nd, hpt, hall, hv⟩ := ND.out _ (w.heap.size + 3) (w.heap.size + 1 + 1) BW.out (by omega) (by omega) T3.out.2.2.1
  have hN : nd.visit.length = labs.length := hv.len
  have hNsz : ndsSz [nd] ≤ 2097152 := by rw [← ndsVisit_len]; simp [ndsVisit]; omega
  have HALL := hideP hall
  have HPT := hideP hpt
  obtain ⟨pts, hptsv⟩ : ∃ pts, nd.visit = pts := ⟨_, rfl⟩
  rw [hptsv] at hv hN
  have HV := hideP hv
  have HN := hideP hN
  have HPV := hideP hptsv
  have LT2 := hideP T3.out.2.1
  clear hv hall hN hzW hptsv hpt ND T3 O1 ER0 NOST0 hvl0
  go_enter Try.func16, Try.ntmps16
  go_wp2_with fail
  refine (expParts_any _ (w.heap.size + 1 + 1) 0 1 1 (by omega)).mono ?_
  rintro e1 w1 ⟨v1, rfl, own1, bel1⟩
  have OWN1 : Hid (OwnPts w1 (w.heap.size + 3) v1 ([nd].map Nd.pt)) := by
    rw [HZW.out] at own1
    show OwnPts _ _ _ _
    simpa [rowPts, HPT.out] using own1
  have HB1 := hideP bel1
  rw [HZW.out] at HB1
  clear own1 bel1
  go_wp2_with fail
  have HZ1 : Hid (w.heap.size + 3 ≤ w1.heap.size) := by have := HB1.out.size; rw [HZW.out] at this; exact this
  have hnd1 := HALL.out.mono fun y hy => NodeOk.on hy HB1.out
  have HND := hideP (fun x (hx : x ∈ [nd]) => (List.mem_singleton.1 hx).symm ▸ hnd1)
  clear hnd1
  refine (partsWithin_any [nd] _ _ v1 _ OWN1.out HZ1.out HND.out hNsz).mono ?_
  rintro e2 w2 ⟨v2, rfl, own2, bel2, _, _⟩
  rw [show ndsVisit [nd] = pts by simp [ndsVisit, HPV.out]] at own2
  obtain ⟨g2, c2, rfl, _⟩ := id own2
  have bel12 := HB1.out.trans bel2
  have BB := hideP (BW.out.trans (bel12.mono (by have := BW.out.size; omega)))
  have LABS : Hid (∀ j (h1 : j < pts.length) (h2 : j < labs.length), LabAt w2 pts[j] labs[j]) := fun j h1 h2 => ((HV.out.get j h1 h2).on bel12).2
  have LIT := hideP ((bel12.block (w.heap.size + 1) (by omega)).trans LT2.out)
  have V0 : Hid (VI w w2 w2 (.slice (some ⟨w.heap.size + 1, 0, none⟩) 0 0) []) := ⟨by
    refine (OwnI.keepB O2.out (fun b hb' => ?_))
    have : w.heap.size + 1 = b := by simpa [Value.ownBlock] using hb'
    subst this
    exact bel12.block _ (by omega), But.refl _ _, Or.inl rfl⟩
  have OWN2 := hideP own2
  have hgg : w.heap.size + 2 ≤ g2 := by
    have := (own2.choose_spec.choose_spec.2.lt g2 rfl).1
    omega
  have hN := HN.out
  rw [hN]
  clear own2 bel2 bel12 HALL OWN1 HB1 O2 LT2 BW HV HPT HND HZ1
  go_wp2
  go_loopg [3, 18] labs.length (fun hk q i wr => ∃ j : Nat, hk + j = labs.length ∧ i = .int .i64 j ∧ Hid (VI w w2 wr q ((labs.take j).flatMap labVar)))
  case atStart => exact ⟨0, by simp, rfl, V0.out⟩
  case round =>
    obtain ⟨j, hhk, rfl, hv⟩ := hrel
    clear V0
    by_cases hlt : j < labs.length
    · have hft := flatMap_take labVar labs j hlt
      have hLab := LABS.out j (by omega) hlt
      obtain ⟨c0, c1, hgB, hgl⟩ := pts_cells OWN2.out j (by omega)
      obtain ⟨L, hL⟩ : ∃ L, labs[j] = L := ⟨_, rfl⟩
      obtain ⟨p, hp⟩ : ∃ p, pts[j]'(by omega) = p := ⟨_, rfl⟩
      have hLm : L ∈ labs := by rw [← hL]; exact List.getElem_mem hlt
      rw [hL, hp] at hLab
      rw [hp] at c0 c1
      rw [hL] at hft
      have hne := lab_ne hLab LIT.out
      have hplt := lab_lt hLab
      have hLw := lab_on hLab hv.out.but hne hplt
      have hlw := hv.out.but.size
      replace c0 := (World.cell?_of_block (w := w2) (w' := wr) (a := ⟨g2, j * 2, none⟩) (hv.out.but.block g2 hgl (by omega))).trans c0
      replace c1 := (World.cell?_of_block (w := w2) (w' := wr) (a := ⟨g2, j * 2 + 1, none⟩) (hv.out.but.block g2 hgl (by omega))).trans c1
      have HFT := hideP hft
      clear hft hp hL
      cases L with
      | ex k n bs t m =>
        cases p with
        | st b o => exact hLab.elim
        | ex b o =>
          have hb : b < w2.heap.size := hplt
          have hbne : b ≠ w.heap.size + 1 := hne
          have al := (Below.refl wr.heap.size wr).alloc (Nat.le_refl _) (.cells #[.pointer none, .pointer (some ⟨b, o, none⟩)] 70)
          have l0 := (al.cell (p := ⟨b, o, none⟩) (by show b < wr.heap.size; omega)).trans hLw.1
          have l1 := (al.cell (p := ⟨b, o + 1, none⟩) (by show b < wr.heap.size; omega)).trans hLw.2.1
          have l2 := (al.cell (p := ⟨b, o + 2, none⟩) (by show b < wr.heap.size; omega)).trans hLw.2.2.1
          have d0 : wr.cell? ⟨g2, j * 2, none⟩ = some (.pointer none) := c0
          have d1 : wr.cell? ⟨g2, j * 2 + 1, none⟩ = some (.pointer (some ⟨b, o, none⟩)) := c1
          clear c0 c1 hLab hLw hne hplt
          by_cases hk1 : k = 1
          · rw [hk1] at l0
            have FX : Hid (labVar (.ex k n bs t m) = [n]) := by show _ = _; simp [labVar, hk1]
            have ST : Hid ((labs.take (j + 1)).flatMap labVar = (labs.take j).flatMap labVar ++ [n]) := by show _ = _; rw [HFT.out, FX.out]
            have V1 := hv.out.on al
            obtain ⟨g5, c5, rfl, _⟩ := id hv.out.own
            have al2 := (Below.refl (wr.alloc (.cells #[.pointer none, .pointer (some ⟨b, o, none⟩)] 70)).heap.size _).alloc (Nat.le_refl _) (.cells #[.int .i64 n] 3)
            have V2 := hideP (V1.on al2)
            have hz1 : (wr.alloc (.cells #[.pointer none, .pointer (some ⟨b, o, none⟩)] 70)).heap.size = wr.heap.size + 1 := by simp
            have OD := hideP (own_lit (wr.alloc (.cells #[.pointer none, .pointer (some ⟨b, o, none⟩)] 70)) [n] #[.int .i64 n] (wr.heap.size + 1) 1 (by rw [hz1]) rfl rfl (by simp))
            have SC : Hid (w.heap.size + 1 ≤ ((wr.alloc (.cells #[.pointer none, .pointer (some ⟨b, o, none⟩)] 70)).alloc (.cells #[.int .i64 n] 3)).heap.size) := by show _ ≤ _; have := hv.out.but.size; simp; omega
            have hll : ((labs.take j).flatMap labVar).length ≤ 2000000 := by have := flatMap_len labVar labVar_len (labs.take j); rw [List.length_take] at this; omega
            have XB := hideP ((al2.block wr.heap.size (by simp)).trans (show (wr.alloc (.cells #[.pointer none, .pointer (some ⟨b, o, none⟩)] 70)).heap[wr.heap.size]? = some (.cells #[.pointer none, .pointer (some ⟨b, o, none⟩)] 70 (0, 0)) from Array.getElem?_push_size))
            have LB := hideP (al2.block b (by simp; omega))
            clear al al2 V1 hz1
            go_upto_region 8 with (at_builtin; refine list_appI _ rfl _ _ rfl (w.heap.size + 1) _ ((labs.take j).flatMap labVar) [n] (wr.heap.size + 1) 0 1 1 rfl rfl rfl V2.out.own OD.out.at (by rw [List.length_singleton]; omega) SC.out ?_; intro v6 w6 o6 grow6 loc6)
            replace grow6 : World.grownBy _ w6 (Value.slice (some ⟨g5, 0, none⟩) ((labs.take j).flatMap labVar).length c5).ownBlock := grow6
            replace loc6 : v6.ownBlock = (Value.slice (some ⟨g5, 0, none⟩) ((labs.take j).flatMap labVar).length c5).ownBlock ∨ v6.ownBlock = some ((wr.alloc (.cells #[.pointer none, .pointer (some ⟨b, o, none⟩)] 70)).alloc (.cells #[.int .i64 n] 3)).heap.size := loc6
            have V6 := hideP (V2.out.app o6 grow6 loc6)
            rw [← ST.out] at V6
            have hg5 := V2.out.own.low g5 rfl
            have h5 : g5 < wr.heap.size := (hv.out.own.low g5 rfl).2
            have xb := (grow6.block wr.heap.size (by simp; omega) (by simp [Value.ownBlock]; omega)).trans XB.out
            have y0 := (cells_of xb).1 0
            have y1 := (cells_of xb).1 1
            simp at y0 y1
            have hb5 : b ≠ g5 := fun e => hv.out.loc.elim (fun q => hbne (by rw [e]; simpa [Value.ownBlock] using q)) (fun q => by have := q g5 rfl; omega)
            have z0 : w6.cell? ⟨b, o, none⟩ = some (.int .i64 1) := (World.cell?_of_block (a := ⟨b, o, none⟩) ((grow6.block b (by simp; omega) (by simp [Value.ownBlock]; omega)).trans LB.out)).trans l0
            obtain ⟨g6, c6, rfl, _⟩ := id o6
            clear o6 grow6 loc6
            clear l0 l1 l2 d0 d1
            go_wp2
            go_roundg (labs.length - (j + 1))
            case rel => exact ⟨j + 1, by omega, by go_num, by simpa using V6⟩
            case measure => omega
          · skip
            by_cases hk2 : k = 2 ∧ 0 ≤ bs
            · obtain ⟨hka, hkb⟩ := hk2
              rw [hka] at l0
              have FX : Hid (labVar (.ex k n bs t m) = [bs]) := by show _ = _; simp [labVar, hka, hkb]
              have ST : Hid ((labs.take (j + 1)).flatMap labVar = (labs.take j).flatMap labVar ++ [bs]) := by show _ = _; rw [HFT.out, FX.out]
              have V1 := hv.out.on al
              obtain ⟨g5, c5, rfl, _⟩ := id hv.out.own
              have al2 := (Below.refl (wr.alloc (.cells #[.pointer none, .pointer (some ⟨b, o, none⟩)] 70)).heap.size _).alloc (Nat.le_refl _) (.cells #[.int .i64 bs] 3)
              have V2 := hideP (V1.on al2)
              have hz1 : (wr.alloc (.cells #[.pointer none, .pointer (some ⟨b, o, none⟩)] 70)).heap.size = wr.heap.size + 1 := by simp
              have OD := hideP (own_lit (wr.alloc (.cells #[.pointer none, .pointer (some ⟨b, o, none⟩)] 70)) [bs] #[.int .i64 bs] (wr.heap.size + 1) 1 (by rw [hz1]) rfl rfl (by simp))
              have SC : Hid (w.heap.size + 1 ≤ ((wr.alloc (.cells #[.pointer none, .pointer (some ⟨b, o, none⟩)] 70)).alloc (.cells #[.int .i64 bs] 3)).heap.size) := by show _ ≤ _; have := hv.out.but.size; simp; omega
              have hll : ((labs.take j).flatMap labVar).length ≤ 2000000 := by have := flatMap_len labVar labVar_len (labs.take j); rw [List.length_take] at this; omega
              clear al al2 V1 hz1
              go_wp2_with (at_builtin; refine list_appI _ rfl _ _ rfl (w.heap.size + 1) _ ((labs.take j).flatMap labVar) [bs] (wr.heap.size + 1) 0 1 1 rfl rfl rfl V2.out.own OD.out.at (by rw [List.length_singleton]; omega) SC.out ?_; intro v6 w6 o6 grow6 loc6)
              replace grow6 : World.grownBy _ w6 (Value.slice (some ⟨g5, 0, none⟩) ((labs.take j).flatMap labVar).length c5).ownBlock := grow6
              replace loc6 : v6.ownBlock = (Value.slice (some ⟨g5, 0, none⟩) ((labs.take j).flatMap labVar).length c5).ownBlock ∨ v6.ownBlock = some ((wr.alloc (.cells #[.pointer none, .pointer (some ⟨b, o, none⟩)] 70)).alloc (.cells #[.int .i64 bs] 3)).heap.size := loc6
              have V6 := hideP (V2.out.app o6 grow6 loc6)
              rw [← ST.out] at V6
              obtain ⟨g6, c6, rfl, _⟩ := id o6
              clear o6 grow6 loc6
              go_wp2
              go_roundg (labs.length - (j + 1))
              case rel => exact ⟨j + 1, by omega, by go_num, by simpa using V6⟩
              case measure => omega
            · skip
              by_cases hk3 : k = 2
              · rw [hk3] at l0
                have hkb : ¬ 0 ≤ bs := fun h => hk2 ⟨hk3, h⟩
                have FX : Hid (labVar (.ex k n bs t m) = []) := by show _ = _; simp [labVar, hk3]; omega
                have ST : Hid ((labs.take (j + 1)).flatMap labVar = (labs.take j).flatMap labVar) := by show _ = _; rw [HFT.out, FX.out, List.append_nil]
                have VN := hideP (hv.out.on al)
                clear al
                go_wp2
                go_roundg (labs.length - (j + 1))
                case rel => exact ⟨j + 1, by omega, by go_num, by rw [ST.out]; exact VN.out⟩
                case measure => omega
              · skip
                have FX : Hid (labVar (.ex k n bs t m) = []) := by show _ = _; simp [labVar, hk1, hk3]
                have ST : Hid ((labs.take (j + 1)).flatMap labVar = (labs.take j).flatMap labVar) := by show _ = _; rw [HFT.out, FX.out, List.append_nil]
                have VN := hideP (hv.out.on al)
                clear al
                go_wp2
                go_roundg (labs.length - (j + 1))
                case rel => exact ⟨j + 1, by omega, by go_num, by rw [ST.out]; exact VN.out⟩
                case measure => omega
      | st k n bs le lx ly =>
        exact absurd hLm (NOST.out _ _ _ _ _ _)
    · have hjn : j = labs.length := by omega
      subst hjn
      have h1 := hv.out
      rw [List.take_length] at h1
      have V1 := hideP h1
      clear h1
      go_wp2_with fail
      refine (ascending_any _ _ _ _ V1.out.own (by have := flatMap_len labVar labVar_len labs; omega)).mono ?_
      rintro e5 w5 ⟨v5, rfl, o5, g5, hg5, hg5', but5⟩
      have hb5 : Below w.heap.size w w5 := (BB.out.trans (V1.out.but.below (by omega) BB.out.size)).trans (but5.below (by have := (V1.out.own.low g5 hg5).1; omega) (by have := BB.out.size; have := V1.out.but.size; omega))
      rw [ER.out] at o5
      obtain ⟨g6, c6, rfl, _⟩ := id o5
      have O5 := hideP (o5.mono (Nat.le_succ _))
      clear o5 but5
      go_wp2
      go_ret
      exact ⟨_, rfl, O5.out, hb5⟩
end Go.Proofs.Ytdkdimklacblaah
