/- The contract of impl.Sets. -/
import Derived.Test.YtdkdimklacblaahVarsI0
import Derived.Deep.CutRange
namespace Go.Proofs.Ytdkdimklacblaah
open Go.ChangeShapes Go.WideShapes Go.ChangeAt Go.RowKit
theorem OwnI.keepB {w w' : World} {A : Nat} {v : Value} {l : List Int} (h : OwnI w A v l) (hk : ∀ b, v.ownBlock = some b → w'.heap[b]? = w.heap[b]?) : OwnI w' A v l := by
  obtain ⟨g0, cap, hv, hl, h0 | ⟨g', cap', cur, hv', hB', hh, hr⟩⟩ := h
  · exact ⟨g0, cap, hv, hl, Or.inl h0⟩
  · exact ⟨g0, cap, hv, hl, Or.inr ⟨g', cap', cur, hv', hB', (hk g' (by rw [hv']; rfl)).trans hh, hr⟩⟩
set_option maxHeartbeats 8000000 in
set_option maxRecDepth 100000 in
theorem impl_sets (p : Pr) (w : World) (B : Nat) (v : Array Value) (hp : PrIs w B v p) (hB : 0 < B) (hsz : p.sz ≤ 1048576) :
    Calls Try.prog 23 #[.agg v] w fun en w' => ∃ v', en = .returned v' ∧ OwnI w' w.heap.size v' (setsP p.body) ∧ Below w.heap.size w w' := by
  obtain ⟨a, cap, ab, cb, rfl, hz, hb⟩ := hp
  obtain ⟨sizes, params, vars, body⟩ := p
  simp only [Pr.sz] at hsz hz hb ⊢
  have hbs : stsSz body ≤ 1048576 := by omega
  have hbl : body.length ≤ 1048576 := by unfold stsSz at hbs; omega
  have BW := hideP (below2 w (.cells #[.slice a sizes.length cap, .int .i64 params, .int .i64 vars, .slice ab body.length cb] 30) (.cells #[] 3))
  have O1 : Hid (OwnI ((w.alloc (.cells #[.slice a sizes.length cap, .int .i64 params, .int .i64 vars, .slice ab body.length cb] 30)).alloc (.cells #[] 3)) (w.heap.size + 1) (.slice (some ⟨w.heap.size + 1, 0, none⟩) 0 0) []) := by
    have := own_lit (w.alloc (.cells #[.slice a sizes.length cap, .int .i64 params, .int .i64 vars, .slice ab body.length cb] 30)) [] #[] (w.heap.size + 1) 0 (by simp) rfl rfl (by simp)
    show OwnI _ _ _ _
    simpa using this
  have T2 := hideP (two (Below.refl ((w.alloc (.cells #[.slice a sizes.length cap, .int .i64 params, .int .i64 vars, .slice ab body.length cb] 30)).alloc (.cells #[] 3)).heap.size _)).2.1
  have hzW : ((w.alloc (.cells #[.slice a sizes.length cap, .int .i64 params, .int .i64 vars, .slice ab body.length cb] 30)).alloc (.cells #[] 3)).heap.size = w.heap.size + 2 := by simp
  obtain ⟨ha, nds, hpts, hG⟩ := ndSts _ _ _ (Below.refl _ _) (Nat.le_refl _) body B ab (hb.stays BW.out) hB hbs
  obtain ⟨hv, hall⟩ := visSt hG
  have hN : (ndsVisit nds).length = (stsVis body).length := hv.len
  have hNsz : ndsSz nds ≤ 2097152 := by rw [← ndsVisit_len, hN]; have := vis_le_sts body; omega
  have hvl : (stsVis body).length ≤ 1048576 := by have := vis_le_sts body; omega
  have ER : Hid (ascP ((stsVis body).flatMap labSet) = setsP body) := ascP_eq _ _ (mem_sets body)
  have HALL := hideP hall
  have HPTS := hideP hpts
  have HZW := hideP hzW
  obtain ⟨labs, hlabs⟩ : ∃ labs, stsVis body = labs := ⟨_, rfl⟩
  obtain ⟨pts, hptsv⟩ : ∃ pts, ndsVisit nds = pts := ⟨_, rfl⟩
  rw [hlabs] at hv hN hvl ER
  rw [hptsv] at hv hN
  have HV := hideP hv
  have HN := hideP hN
  have HPV := hideP hptsv
  clear hz hb hG hv hall hpts hlabs hN hzW hptsv
  go_enter Try.func23, Try.ntmps23
  go_wp2_with fail
  refine (stmtParts_row _ ab body.length cb hbl ha).mono ?_
  rintro e1 w1 ⟨v1, rfl, own1, bel1⟩
  rw [← HPTS.out] at own1
  have OWN1 := hideP own1
  have HB1 := hideP bel1
  clear own1 bel1
  go_wp2_with fail
  refine (partsWithin_any nds _ _ v1 _ OWN1.out HB1.out.size (fun x hx => (HALL.out x hx).mono fun y hy => hy.on HB1.out) hNsz).mono ?_
  rintro e2 w2 ⟨v2, rfl, own2, bel2, _, _⟩
  rw [HPV.out] at own2
  obtain ⟨g2, c2, rfl, _⟩ := id own2
  have bel12 := HB1.out.trans bel2
  have BB := hideP (BW.out.trans (bel12.mono BW.out.size))
  have LABS : Hid (∀ j (h1 : j < pts.length) (h2 : j < labs.length), LabAt w2 pts[j] labs[j]) := fun j h1 h2 => ((HV.out.get j h1 h2).on bel12).2
  have LIT := hideP ((bel12.block (w.heap.size + 1) (by rw [HZW.out]; omega)).trans T2.out)
  have V0 : Hid (VI w w2 w2 (.slice (some ⟨w.heap.size + 1, 0, none⟩) 0 0) []) := ⟨by
    have h0 := O1.out
    obtain ⟨g', cap', cur, hv', hB', hh, hr⟩ := h0.parts
    have hg' : w.heap.size + 1 = g' := by simp at hv'; exact hv'.1
    subst hg'
    refine (OwnI.keepB h0 (fun b hb' => ?_))
    have : w.heap.size + 1 = b := by simpa [Value.ownBlock] using hb'
    subst this
    exact bel12.block _ (by rw [HZW.out]; omega), But.refl _ _, Or.inl rfl⟩
  have OWN2 := hideP own2
  have hgg : w.heap.size + 2 ≤ g2 := by
    have := (own2.choose_spec.choose_spec.2.lt g2 rfl).1
    rw [HZW.out] at this; exact this
  have hN := HN.out
  rw [hN]
  clear own2 bel2 bel12 HALL OWN1 HB1 O1 T2 BW HV HPTS
  go_wp2
  go_loopg [3, 18] labs.length (fun hk q i wr => ∃ j : Nat, hk + j = labs.length ∧ i = .int .i64 j ∧ Hid (VI w w2 wr q ((labs.take j).flatMap labSet)))
  case atStart => exact ⟨0, by simp, rfl, V0.out⟩
  case round =>
    obtain ⟨j, hhk, rfl, hv⟩ := hrel
    clear V0
    by_cases hlt : j < labs.length
    · have hft := flatMap_take labSet labs j hlt
      have hLab := LABS.out j (by omega) hlt
      obtain ⟨c0, c1, hgB, hgl⟩ := pts_cells OWN2.out j (by omega)
      obtain ⟨L, hL⟩ : ∃ L, labs[j] = L := ⟨_, rfl⟩
      obtain ⟨p, hp⟩ : ∃ p, pts[j]'(by omega) = p := ⟨_, rfl⟩
      have hLm : L ∈ labs := by rw [← hL]; exact List.getElem_mem hlt
      rw [hL, hp] at hLab
      rw [hp] at c0 c1
      rw [hL] at hft
      have hne := lab_ne hLab LIT.out
      have hplt := lab_lt hLab
      have hLw := lab_on hLab hv.out.but hne hplt
      have hlw := hv.out.but.size
      replace c0 := (World.cell?_of_block (w := w2) (w' := wr) (a := ⟨g2, j * 2, none⟩) (hv.out.but.block g2 hgl (by omega))).trans c0
      replace c1 := (World.cell?_of_block (w := w2) (w' := wr) (a := ⟨g2, j * 2 + 1, none⟩) (hv.out.but.block g2 hgl (by omega))).trans c1
      have HFT := hideP hft
      clear hft hp hL
      cases L with
      | ex k n bs t m =>
        cases p with
        | st b o => exact hLab.elim
        | ex b o =>
          have hb : b < w2.heap.size := hplt
          have hbne : b ≠ w.heap.size + 1 := hne
          have al := (Below.refl wr.heap.size wr).alloc (Nat.le_refl _) (.cells #[.pointer none, .pointer (some ⟨b, o, none⟩)] 70)
          have l0 := (al.cell (p := ⟨b, o, none⟩) (by show b < wr.heap.size; omega)).trans hLw.1
          have l1 := (al.cell (p := ⟨b, o + 1, none⟩) (by show b < wr.heap.size; omega)).trans hLw.2.1
          have l2 := (al.cell (p := ⟨b, o + 2, none⟩) (by show b < wr.heap.size; omega)).trans hLw.2.2.1
          have d0 : wr.cell? ⟨g2, j * 2, none⟩ = some (.pointer none) := c0
          have d1 : wr.cell? ⟨g2, j * 2 + 1, none⟩ = some (.pointer (some ⟨b, o, none⟩)) := c1
          clear c0 c1 hLab hLw hne hplt
          have FX : Hid (labSet (.ex k n bs t m) = []) := by show _ = _; rfl
          have ST : Hid ((labs.take (j + 1)).flatMap labSet = (labs.take j).flatMap labSet) := by show _ = _; rw [HFT.out, FX.out, List.append_nil]
          have VN := hideP (hv.out.on al)
          clear al
          go_wp2
          go_roundg (labs.length - (j + 1))
          case rel => exact ⟨j + 1, by omega, by go_num, by rw [ST.out]; exact VN.out⟩
          case measure => omega
      | st k n bs le lx ly =>
        cases p with
        | ex b o => exact hLab.elim
        | st b o =>
          have hb : b < w2.heap.size := hplt
          have hbne : b ≠ w.heap.size + 1 := hne
          have al := (Below.refl wr.heap.size wr).alloc (Nat.le_refl _) (.cells #[.pointer (some ⟨b, o, none⟩), .pointer none] 70)
          have l0 := (al.cell (p := ⟨b, o, none⟩) (by show b < wr.heap.size; omega)).trans hLw.1
          have l1 := (al.cell (p := ⟨b, o + 1, none⟩) (by show b < wr.heap.size; omega)).trans hLw.2.1
          have l2 := (al.cell (p := ⟨b, o + 2, none⟩) (by show b < wr.heap.size; omega)).trans hLw.2.2.1
          have d0 : wr.cell? ⟨g2, j * 2, none⟩ = some (.pointer (some ⟨b, o, none⟩)) := c0
          have d1 : wr.cell? ⟨g2, j * 2 + 1, none⟩ = some (.pointer none) := c1
          clear c0 c1 hLab hLw hne hplt
          by_cases hk1 : k = 0
          · rw [hk1] at l0
            have FX : Hid (labSet (.st k n bs le lx ly) = [n]) := by show _ = _; simp [labSet, hk1]
            have ST : Hid ((labs.take (j + 1)).flatMap labSet = (labs.take j).flatMap labSet ++ [n]) := by show _ = _; rw [HFT.out, FX.out]
            have V1 := hv.out.on al
            obtain ⟨g5, c5, rfl, _⟩ := id hv.out.own
            have al2 := (Below.refl (wr.alloc (.cells #[.pointer (some ⟨b, o, none⟩), .pointer none] 70)).heap.size _).alloc (Nat.le_refl _) (.cells #[.int .i64 n] 3)
            have V2 := hideP (V1.on al2)
            have hz1 : (wr.alloc (.cells #[.pointer (some ⟨b, o, none⟩), .pointer none] 70)).heap.size = wr.heap.size + 1 := by simp
            have OD := hideP (own_lit (wr.alloc (.cells #[.pointer (some ⟨b, o, none⟩), .pointer none] 70)) [n] #[.int .i64 n] (wr.heap.size + 1) 1 (by rw [hz1]) rfl rfl (by simp))
            have SC : Hid (w.heap.size + 1 ≤ ((wr.alloc (.cells #[.pointer (some ⟨b, o, none⟩), .pointer none] 70)).alloc (.cells #[.int .i64 n] 3)).heap.size) := by show _ ≤ _; have := hv.out.but.size; simp; omega
            have hll : ((labs.take j).flatMap labSet).length ≤ 2000000 := by have := flatMap_len labSet labSet_len (labs.take j); rw [List.length_take] at this; omega
            clear al al2 V1 hz1
            go_wp2_with (at_builtin; refine list_appI _ rfl _ _ rfl (w.heap.size + 1) _ ((labs.take j).flatMap labSet) [n] (wr.heap.size + 1) 0 1 1 rfl rfl rfl V2.out.own OD.out.at (by rw [List.length_singleton]; omega) SC.out ?_; intro v6 w6 o6 grow6 loc6)
            replace grow6 : World.grownBy _ w6 (Value.slice (some ⟨g5, 0, none⟩) ((labs.take j).flatMap labSet).length c5).ownBlock := grow6
            replace loc6 : v6.ownBlock = (Value.slice (some ⟨g5, 0, none⟩) ((labs.take j).flatMap labSet).length c5).ownBlock ∨ v6.ownBlock = some ((wr.alloc (.cells #[.pointer (some ⟨b, o, none⟩), .pointer none] 70)).alloc (.cells #[.int .i64 n] 3)).heap.size := loc6
            have V6 := hideP (V2.out.app o6 grow6 loc6)
            rw [← ST.out] at V6
            obtain ⟨g6, c6, rfl, _⟩ := id o6
            clear o6 grow6 loc6
            go_wp2
            go_roundg (labs.length - (j + 1))
            case rel => exact ⟨j + 1, by omega, by go_num, by simpa using V6⟩
            case measure => omega
          · skip
            have FX : Hid (labSet (.st k n bs le lx ly) = []) := by show _ = _; simp [labSet, hk1]
            have ST : Hid ((labs.take (j + 1)).flatMap labSet = (labs.take j).flatMap labSet) := by show _ = _; rw [HFT.out, FX.out, List.append_nil]
            have VN := hideP (hv.out.on al)
            clear al
            go_wp2
            go_roundg (labs.length - (j + 1))
            case rel => exact ⟨j + 1, by omega, by go_num, by rw [ST.out]; exact VN.out⟩
            case measure => omega
    · have hjn : j = labs.length := by omega
      subst hjn
      have h1 := hv.out
      rw [List.take_length] at h1
      have V1 := hideP h1
      clear h1
      go_wp2_with fail
      refine (ascending_any _ _ _ _ V1.out.own (by have := flatMap_len labSet labSet_len labs; omega)).mono ?_
      rintro e5 w5 ⟨v5, rfl, o5, g5, hg5, hg5', but5⟩
      have hb5 : Below w.heap.size w w5 := (BB.out.trans (V1.out.but.below (by omega) BB.out.size)).trans (but5.below (by have := (V1.out.own.low g5 hg5).1; omega) (by have := BB.out.size; have := V1.out.but.size; omega))
      rw [ER.out] at o5
      obtain ⟨g6, c6, rfl, _⟩ := id o5
      have O5 := hideP (o5.mono (Nat.le_succ _))
      clear o5 but5
      go_wp2
      go_ret
      exact ⟨_, rfl, O5.out, hb5⟩
end Go.Proofs.Ytdkdimklacblaah
