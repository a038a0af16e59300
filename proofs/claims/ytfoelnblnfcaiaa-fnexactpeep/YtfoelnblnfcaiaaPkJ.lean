/- The contract of impl.Peep. -/
import Derived.Test.YtfoelnblnfcaiaaPkA
import Derived.Test.YtfoelnblnfcaiaaAimI
import Derived.Conc.WalkWords
namespace Go.Proofs.Ytfoelnblnfcaiaa
open Go.ChangeShapes Go.WideShapes Go.ChangeAt Go.RowKit Go.Maps
theorem below_drewP (B : Nat) (w : World) (q : Nat) : Below B w (w.drewN q) := ⟨rfl, rfl, rfl, Nat.le_refl _, fun _ _ => rfl⟩
theorem goL_i64 {l : List Wrd} (h : ∀ x ∈ l, x.wf) : ∀ z ∈ goL l, I64 z := fun z hz => by
  unfold goL at hz
  obtain ⟨x, hx, rfl⟩ := List.mem_map.1 hz
  exact (h x (List.mem_filter.1 hx).1).2.2.2.2
set_option maxHeartbeats 8000000 in
set_option maxRecDepth 100000 in
theorem impl_peep (m : Img) (w : World) (B : Nat) (v : Array Value) (h : ImgIs w B v m) (hn : m.sz ≤ 1048576) (GO : ImOk 11 m) :
    Calls Try.prog 14 #[.agg v] w fun en w' => MadeIm w (peepP m) en w' := by
  obtain ⟨y, hy⟩ : ∃ y, imgOk m = y := ⟨_, rfl⟩
  have CY : Hid (∀ W, Below w.heap.size w W → Calls Try.prog 11 #[.agg v] W fun en w' => en = .returned (.bool y) ∧ Below W.heap.size W w') := fun W hW => by rw [← hy]; exact GO W B v (ImgKeeps.stays h hW)
  have CC : Hid (∀ W, Below w.heap.size w W → Calls Try.prog 38 #[.agg v] W fun en w' => MadeIm W m en w') := fun W hW => imageCopy_any m W B v (ImgKeeps.stays h hW) hn
  have CA : Hid (∀ W, Below w.heap.size w W → Calls Try.prog 20 #[.agg v] W fun en w' => ∃ v', en = .returned v' ∧ OwnI w' W.heap.size v' (aimsP m) ∧ Below W.heap.size W w') := fun W hW => impl_aims m W B v (ImgKeeps.stays h hW) GO
  have H6 : Hid (y = true → m.code.length ≤ 6000) := fun e => (imgOk_few (by rw [hy]; exact e)).1
  have EP : Hid (peepP m = if y = true then ⟨m.sizes, m.params, m.slots, (keptUp m.code m.code.length).map (aimX (numUp m.code m.code.length))⟩ else m) := by show _ = _; unfold peepP; rw [hy]
  have HG : Hid (y = true → ∀ x ∈ m.code, goesW x = true → 0 ≤ x.n ∧ x.n < (m.code.length : Int)) := fun e => goes_in (by rw [hy]; exact e)
  have AM : Hid (y = true → ∀ z, z ∈ aimsP m ↔ z ∈ goL m.code) := fun e z => by unfold aimsP; rw [hy, if_pos e]; exact addAll_mem _ z
  have AN : Hid (y = true → (aimsP m).length ≤ 6000) := fun e => by
    have h1 := H6.out e
    unfold aimsP; rw [hy, if_pos e]
    exact Nat.le_trans (addAll_len _) (Nat.le_trans (goL_len _) h1)
  obtain ⟨P, hP⟩ : ∃ P, peepP m = P := ⟨_, rfl⟩
  obtain ⟨aims, haims⟩ : ∃ z, aimsP m = z := ⟨_, rfl⟩
  rw [hP] at EP ⊢
  rw [haims] at AM AN CA
  clear hy hP GO haims
  obtain ⟨sizes, params, slots, code⟩ := m
  obtain ⟨us, cs, ub, cb, rfl, _, _, hb⟩ := h
  simp only at *
  have hm := maxLen_lt
  have WF := hideP (wrd_wf hb)
  have HB := hideP hb
  clear hb hn
  obtain ⟨bm, hbm⟩ : ∃ bm : Array Value, bm = #[.slice us sizes.length cs, .int .i64 params, .int .i64 slots, .slice ub code.length cb] := ⟨_, rfl⟩
  obtain ⟨br, hbr⟩ : ∃ br : Array Value, br = #[.slice none 0 0, .int .i64 0, .int .i64 0, .slice none 0 0] := ⟨_, rfl⟩
  have AL := hideP (below2 w (.cells #[.slice us sizes.length cs, .int .i64 params, .int .i64 slots, .slice ub code.length cb] 30) (.cells #[.slice none 0 0, .int .i64 0, .int .i64 0, .slice none 0 0] 30))
  have TW := two (w := w) (o1 := .cells #[.slice us sizes.length cs, .int .i64 params, .int .i64 slots, .slice ub code.length cb] 30) (o2 := .cells #[.slice none 0 0, .int .i64 0, .int .i64 0, .slice none 0 0] 30) (Below.refl _ _)
  have BX1 := hideP TW.1
  have BX2 := hideP TW.2.1
  clear TW
  go_enter Try.func14, Try.ntmps14
  go_upto_region 1 with fail
  obtain ⟨WA, hWA⟩ : ∃ WA, ((w.alloc (.cells #[.slice us sizes.length cs, .int .i64 params, .int .i64 slots, .slice ub code.length cb] 30)).alloc (.cells #[.slice none 0 0, .int .i64 0, .int .i64 0, .slice none 0 0] 30)) = WA := ⟨_, rfl⟩
  rw [hWA] at AL BX1 BX2 ⊢
  clear hWA
  have zA : w.heap.size + 1 < WA.heap.size := (Array.getElem?_eq_some_iff.1 BX2.out).1
  have p0 := (cells_of BX1.out).1 0
  have p1 := (cells_of BX1.out).1 1
  have p2 := (cells_of BX1.out).1 2
  have p3 := (cells_of BX1.out).1 3
  simp at p0 p1 p2 p3
  go_wp2_with fail
  refine (CC.out _ AL.out).mono ?_
  rintro e1 w1 ⟨gs, cgs, gc, cc, rfl, o1, o2, b1⟩
  simp only at o1 o2
  have al1 := (Below.refl w1.heap.size w1).alloc (Nat.le_refl _) (.cells #[.slice (some ⟨gs, 0, none⟩) sizes.length cgs, .int .i64 params, .int .i64 slots, .slice (some ⟨gc, 0, none⟩) code.length cc] 30)
  have BB1 := hideP (below_trans (below_trans AL.out b1) al1)
  have O1 := hideP (o1.stays al1)
  have O2 := hideP (o2.stays al1)
  have hgs := (o1.low gs rfl).2
  have hgc := (o2.low gc rfl)
  have hz1 := b1.size
  have I1 := hideP (keepC (keepC BX1.out b1) al1)
  have I2 := hideP (keepC (keepC BX2.out b1) al1)
  have I3 := hideP (heap_alloc_new w1 (.cells #[.slice (some ⟨gs, 0, none⟩) sizes.length cgs, .int .i64 params, .int .i64 slots, .slice (some ⟨gc, 0, none⟩) code.length cc] 30))
  clear o1 o2 b1 al1 p0 p1 p2 p3 BX1 BX2 AL CC
  go_upto_region 2 with fail
  obtain ⟨w2, hw2⟩ : ∃ w2, (w1.alloc (.cells #[.slice (some ⟨gs, 0, none⟩) sizes.length cgs, .int .i64 params, .int .i64 slots, .slice (some ⟨gc, 0, none⟩) code.length cc] 30)) = w2 := ⟨_, rfl⟩
  rw [hw2] at BB1 O1 O2 I1 I2 I3 ⊢
  clear hw2
  obtain ⟨K, hK⟩ : ∃ K, w1.heap.size = K := ⟨_, rfl⟩
  rw [hK] at I3 hgs hz1 hgc ⊢
  clear hK
  have hz2 : K < w2.heap.size := (Array.getElem?_eq_some_iff.1 I3.out).1
  have p0 := (cells_of I1.out).1 0
  have p1 := (cells_of I1.out).1 1
  have p2 := (cells_of I1.out).1 2
  have p3 := (cells_of I1.out).1 3
  simp at p0 p1 p2 p3
  go_wp2_with fail
  refine (CY.out _ BB1.out).mono ?_
  rintro e3 w3 ⟨rfl, b3⟩
  have BB3 := hideP (below_trans BB1.out b3)
  have O3 := hideP (O1.out.stays b3)
  have O4 := hideP (O2.out.stays b3)
  have J1 := hideP (keepC I1.out b3)
  have J2 := hideP (keepC I2.out b3)
  have J3 := hideP (keepC I3.out b3)
  have hz3 := b3.size
  clear b3 I1 I2 I3 O1 O2 BB1 p0 p1 p2 p3 CY
  cases y
  · have c0 := (cells_of J3.out).1 0
    have c1 := (cells_of J3.out).1 1
    have c2 := (cells_of J3.out).1 2
    have c3 := (cells_of J3.out).1 3
    have d0 := (cells_of J2.out).1 0
    have d1 := (cells_of J2.out).1 1
    have d2 := (cells_of J2.out).1 2
    have d3 := (cells_of J2.out).1 3
    have f2 := (cells_of J2.out).2
    simp at c0 c1 c2 c3 d0 d1 d2 d3
    have pb := put4_but w3 (w.heap.size + 1) (.slice (some ⟨gs, 0, none⟩) sizes.length cgs) (.int .i64 params) (.int .i64 slots) (.slice (some ⟨gc, 0, none⟩) code.length cc)
    have P2 := hideP (put4_box J2.out (.slice (some ⟨gs, 0, none⟩) sizes.length cgs) (.int .i64 params) (.int .i64 slots) (.slice (some ⟨gc, 0, none⟩) code.length cc))
    have lo1 := O3.out.low gs rfl
    have lo2 := O4.out.low gc rfl
    have GOAL : Hid (MadeIm w P (.returned (.agg #[.slice (some ⟨gs, 0, none⟩) sizes.length cgs, .int .i64 params, .int .i64 slots, .slice (some ⟨gc, 0, none⟩) code.length cc])) (put4 w3 (w.heap.size + 1) (.slice (some ⟨gs, 0, none⟩) sizes.length cgs) (.int .i64 params) (.int .i64 slots) (.slice (some ⟨gc, 0, none⟩) code.length cc))) := by
      have e := EP.out
      rw [if_neg (by simp)] at e
      rw [e]
      exact ⟨gs, cgs, gc, cc, rfl, (O3.out.butG pb (by simp [Value.ownBlock]; omega)).mono (by omega), (O4.out.butG pb (by simp [Value.ownBlock]; omega)).mono (by omega), BB3.out.trans (pb.below (Nat.le_succ _) BB3.out.size)⟩
    clear pb O3 O4 lo1 lo2 J1 J2 J3 EP CA H6 HG AM AN WF HB
    go_wp2
    refine bodyPost_ret (results_cell_row rfl _ _ (w.heap.size + 1) 30 #[.slice (some ⟨gs, 0, none⟩) sizes.length cgs, .int .i64 params, .int .i64 slots, .slice (some ⟨gc, 0, none⟩) code.length cc] (0, 0) _ rfl P2.out Try.underlying30 rfl (by kernel_rfl)) rfl ?_
    exact GOAL.out
  · rw [if_pos rfl] at EP
    have hl6 := H6.out rfl
    have hg := hideP (HG.out rfl)
    have am := hideP (AM.out rfl)
    have an := AN.out rfl
    have hmm := @run_makeMap Try.prog
    have al3 := (Below.refl w3.heap.size w3).alloc (Nat.le_refl _) (.map #[] 0)
    have S0 : Hid (SetIs InK (w3.alloc (.map #[] 0)) w3.heap.size 0 []) := SetIs.made InK_ok w3
    have BB4 := hideP (below_trans BB3.out al3)
    have O5 := hideP (O3.out.stays al3)
    have I1 := hideP (keepC J1.out al3)
    have I2 := hideP (keepC J2.out al3)
    have I3 := hideP (keepC J3.out al3)
    clear al3 J1 J2 J3 H6 HG AM AN BB3 O3 O4
    go_upto_region 5 with fail
    obtain ⟨w4, hw4⟩ : ∃ w4, (w3.alloc (.map #[] 0)) = w4 := ⟨_, rfl⟩
    rw [hw4] at BB4 O5 I1 I2 I3 S0 ⊢
    clear hw4
    obtain ⟨D, hD⟩ : ∃ D, w3.heap.size = D := ⟨_, rfl⟩
    rw [hD] at S0 hz3 ⊢
    clear hD hmm
    have hz4 : D < w4.heap.size := S0.out.lt
    have p0 := (cells_of I1.out).1 0
    have p1 := (cells_of I1.out).1 1
    have p2 := (cells_of I1.out).1 2
    have p3 := (cells_of I1.out).1 3
    simp at p0 p1 p2 p3
    go_wp2_with fail
    refine (CA.out _ BB4.out).mono ?_
    rintro e5 w5 ⟨v5, rfl, o5, b5⟩
    have BB5 := hideP (below_trans BB4.out b5)
    have SS := hideP (addI_any [] aims w5 D 0 _ v5 (S0.out.stays b5) o5 (fun z hz => goL_i64 WF.out z ((am.out z).1 hz)) (by omega) (by omega))
    have J1 := hideP (keepC I1.out b5)
    have J2 := hideP (keepC I2.out b5)
    have J3 := hideP (keepC I3.out b5)
    have O6 := hideP (O5.out.stays b5)
    have hz5 := b5.size
    obtain ⟨g5, c5, rfl, _⟩ := id o5
    clear b5 o5 I1 I2 I3 O5 BB4 p0 p1 p2 p3 CA S0
    go_wp2_with fail
    refine SS.out.mono ?_
    rintro e6 w6 ⟨rfl, s6, b6⟩
    have S6 : Hid (SetIs InK w6 D (0 + aims.length) aims) := s6
    have hz6 := b6.size
    have lo6 := O6.out.low gs rfl
    have BB6 := hideP (BB5.out.trans (b6.below (by omega) BB5.out.size))
    have I1 := hideP (keepG J1.out b6 (by omega))
    have I2 := hideP (keepG J2.out b6 (by omega))
    have I3 := hideP (keepG J3.out b6 (by omega))
    have O7 := hideP (O6.out.butG b6 (by simp [Value.ownBlock]; omega))
    clear s6 b6 J1 J2 J3 O6 BB5 SS
    have k0 := (cells_of I3.out).1 0
    have k1 := (cells_of I3.out).1 1
    have k2 := (cells_of I3.out).1 2
    have k3 := (cells_of I3.out).1 3
    have kf := (cells_of I3.out).2
    simp at k0 k1 k2 k3
    have hKD : K < D := by omega
    have hK2 : w.heap.size + 1 < K := by omega
    have hK6 : K < w6.heap.size := by omega
    have P8 := hideP (PkAt.start S6.out BB6.out I1.out I2.out I3.out O7.out (by omega) hKD hK2)
    clear S6 BB6 I1 I2 I3 O7
    go_upto_region 8 with fail
    obtain ⟨W8, hW8⟩ : ∃ W8, (((w6.setCell ⟨K, 3, none⟩ (.slice (some ⟨w6.heap.size, 0, none⟩) 0 0)).alloc (.cells #[] 44)).alloc (.cells #[] 3)) = W8 := ⟨_, rfl⟩
    rw [hW8] at P8 ⊢
    clear hW8 k0 k1 k2 k3 kf
    obtain ⟨C, hC⟩ : ∃ C, w6.heap.size = C := ⟨_, rfl⟩
    rw [hC] at P8 ⊢
    clear hC
    have hm3 := (cells_of P8.out.inb).1 3
    simp at hm3
    go_wp2
    clear hm3
    go_loopg [5, 25] code.length (fun gk o i wr => ∃ j gn cn gq cq : Nat, gk + j = code.length ∧ i = .int .i64 j ∧ o = .slice (some ⟨gn, 0, none⟩) j cn ∧ Hid (PkAt w _ _ K D (0 + aims.length) C gs cgs sizes params slots aims gn cn gq cq (keptUp code j) (numUp code j) wr))
    case atStart => exact ⟨0, C + 1, 0, C, 0, by simp, rfl, rfl, P8.out⟩
    case round =>
      obtain ⟨j, gn, cn, gq, cq, hj, rfl, rfl, hP⟩ := hrel
      clear P8
      by_cases hlt : j < code.length
      · have L0 := hP.out.low
        obtain ⟨b, o, y0, y1, y2, y3, y4, rfl, _, hbi, hy, r0, r1, r2, r3, r4, hxx⟩ := Wrd_get (HB.out.stays WrdKeeps hP.out.bel) j hlt
        have HY := hideP hy
        have al := (Below.refl wr.heap.size wr).alloc (Nat.le_refl _) (.cells #[.int .i64 y0, .int .i64 y1, .int .i64 y2, .int .i64 y3, .int .i64 y4] 44)
        have P1 := hideP (hP.out.stays al)
        have NX := hideP (heap_alloc_new wr (.cells #[.int .i64 y0, .int .i64 y1, .int .i64 y2, .int .i64 y3, .int .i64 y4] 44))
        have MB := hideP (HB.out.stays WrdKeeps (below_trans hP.out.bel al))
        clear hy hxx al hP
        go_upto_region 11 with fail
        obtain ⟨W1, hW1⟩ : ∃ W1, (wr.alloc (.cells #[.int .i64 y0, .int .i64 y1, .int .i64 y2, .int .i64 y3, .int .i64 y4] 44)) = W1 := ⟨_, rfl⟩
        rw [hW1] at P1 NX MB ⊢
        clear hW1 r0 r1 r2 r3 r4
        have L1 := P1.out.low
        have k3 := (cells_of P1.out.box).1 3
        simp at k3
        obtain ⟨kb, hkb⟩ : ∃ kb, kpB code j = kb := ⟨_, rfl⟩
        have KB := hideP hkb
        have UN : Hid (numUp code (j + 1) = numUp code j ++ [((keptUp code j).length : Int)]) := rfl
        have UY : Hid (kb = true → keptUp code (j + 1) = keptUp code j ++ [⟨y0, y1, y2, y3, y4⟩]) := fun e => keptUp_yes hlt HY.out (by rw [hkb]; exact e)
        have UX : Hid (kb = false → keptUp code (j + 1) = keptUp code j) := fun e => keptUp_no (by rw [hkb]; exact e)
        have NL := numUp_len code j
        have KL := keptUp_len code j
        clear hkb
        obtain ⟨ns, hns⟩ : ∃ ns, numUp code j = ns := ⟨_, rfl⟩
        obtain ⟨ks, hks⟩ : ∃ ks, keptUp code j = ks := ⟨_, rfl⟩
        rw [hns] at P1 UN NL
        rw [hks] at P1 UN UY UX KL k3
        clear hns hks
        have al2 := (Below.refl W1.heap.size W1).alloc (Nat.le_refl _) (.cells #[.int .i64 (ks.length : Int)] 3)
        have P2 := hideP (P1.out.stays al2)
        have OC : Hid (OwnI (W1.alloc (.cells #[.int .i64 (ks.length : Int)] 3)) C (.slice (some ⟨gn, 0, none⟩) j cn) ns) := by have := P2.out.num; rw [NL] at this; exact this
        have OD := hideP (own_lit W1 [(ks.length : Int)] #[.int .i64 (ks.length : Int)] W1.heap.size 1 rfl rfl rfl (by simp))
        have SC : C ≤ (W1.alloc (.cells #[.int .i64 (ks.length : Int)] 3)).heap.size := by simp; omega
        have NX2 := hideP (keepC NX.out al2)
        have MB2 := hideP (MB.out.stays WrdKeeps (al2.mono (Nat.le_refl _)))
        clear al2
        go_upto_region 12 with (at_builtin; refine list_appI _ rfl _ _ rfl C _ ns [(ks.length : Int)] W1.heap.size 0 1 1 rfl rfl rfl OC.out OD.out.at (by simp; omega) SC ?_; intro v6 w7 o6 grow6 loc6)
        replace grow6 : World.grownBy _ w7 (some gn) := grow6
        obtain ⟨g6, c6, rfl, _⟩ := id o6
        have P6 := hideP (P2.out.grewN (But.ofG grow6) o6)
        have NX6 := hideP (keepG NX2.out (But.ofG grow6) (by omega))
        have EL : Hid ((ns ++ [(ks.length : Int)]).length = j + 1) := by show _ = _; simp [NL]
        clear o6 grow6 loc6 k3 P1 P2 NX NX2 OC OD SC MB2
        rw [EL.out]
        have L6 := P6.out.low
        have MB6 := hideP (HB.out.stays WrdKeeps P6.out.bel)
        go_cut [53] from 36 to 53 (fun s53 wx => s53 = .bool kb ∧ Hid (Below w7.heap.size w7 wx))
        case first =>
          clear UN UY UX EP EL
          by_cases hj0 : j = 0
          · subst hj0
            have hkt : kb = true := by rw [← KB.out]; simp [kpB]
            subst hkt
            clear KB am hg MB MB6 P6 NX6
            go_quiet (fail)
            go_wp2_with fail
            go_meet
            exact ⟨rfl, below_drewP _ _ _⟩
          · obtain ⟨k, hk⟩ : ∃ k, j = k + 1 := ⟨j - 1, by omega⟩
            have hkl : k < code.length := by omega
            obtain ⟨b', o', x0, x1, x2, x3, x4, he2, _, hb7, hx, q0, q1, q2, q3, q4, _⟩ := Wrd_get MB6.out k hkl
            cases he2
            have bm3 := (cells_of P6.out.inb).1 3
            simp at bm3
            have yc := (cells_of NX6.out).1
            have hw7 : w.heap.size < w7.heap.size := (Array.getElem?_eq_some_iff.1 P6.out.inb).1
            have hr7 : wr.heap.size < w7.heap.size := (Array.getElem?_eq_some_iff.1 NX6.out).1
            have SK : Hid (∀ W', Below w7.heap.size w7 W' → W'.cell? ⟨w.heap.size, 3, none⟩ = some (.slice (some ⟨b, o, none⟩) code.length cb) ∧ W'.cell? ⟨b, o + k * 5, none⟩ = some (.int .i64 x0) ∧ W'.cell? ⟨b, o + k * 5 + 1, none⟩ = some (.int .i64 x1) ∧ W'.cell? ⟨b, o + k * 5 + 2, none⟩ = some (.int .i64 x2) ∧ W'.cell? ⟨b, o + k * 5 + 3, none⟩ = some (.int .i64 x3) ∧ W'.cell? ⟨b, o + k * 5 + 4, none⟩ = some (.int .i64 x4) ∧ W'.cell? ⟨wr.heap.size, 0, none⟩ = some (.int .i64 y0) ∧ W'.cell? ⟨wr.heap.size, 1, none⟩ = some (.int .i64 y1) ∧ W'.cell? ⟨wr.heap.size, 2, none⟩ = some (.int .i64 y2) ∧ W'.cell? ⟨wr.heap.size, 3, none⟩ = some (.int .i64 y3) ∧ W'.cell? ⟨wr.heap.size, 4, none⟩ = some (.int .i64 y4)) := fun W' h => ⟨(h.cell (p := ⟨w.heap.size, _, none⟩) hw7).trans bm3, (h.cell (p := ⟨b, _, none⟩) hb7).trans q0, (h.cell (p := ⟨b, _, none⟩) hb7).trans q1, (h.cell (p := ⟨b, _, none⟩) hb7).trans q2, (h.cell (p := ⟨b, _, none⟩) hb7).trans q3, (h.cell (p := ⟨b, _, none⟩) hb7).trans q4, (h.cell (p := ⟨wr.heap.size, _, none⟩) hr7).trans (yc 0), (h.cell (p := ⟨wr.heap.size, _, none⟩) hr7).trans (yc 1), (h.cell (p := ⟨wr.heap.size, _, none⟩) hr7).trans (yc 2), (h.cell (p := ⟨wr.heap.size, _, none⟩) hr7).trans (yc 3), (h.cell (p := ⟨wr.heap.size, _, none⟩) hr7).trans (yc 4)⟩
            obtain ⟨hs, hhs⟩ : ∃ hs, inL aims (j : Int) = hs := ⟨_, rfl⟩
            obtain ⟨al, hal⟩ : ∃ al, alrW ⟨x0, x1, x2, x3, x4⟩ ⟨y0, y1, y2, y3, y4⟩ = al := ⟨_, rfl⟩
            have CH : Hid (∀ W, Below w7.heap.size w7 W → Calls Try.prog 40 #[.map (some D), .int .i64 (j : Int)] W fun e w' => e = .returned (.bool hs) ∧ Below W.heap.size W w') := fun W hW => hhs ▸ hasI_any aims (j : Int) W D _ (P6.out.set.stays hW) (by unfold I64; omega)
            have CI : Hid (∀ W, Calls Try.prog 41 #[.agg #[.int .i64 x0, .int .i64 x1, .int .i64 x2, .int .i64 x3, .int .i64 x4], .agg #[.int .i64 y0, .int .i64 y1, .int .i64 y2, .int .i64 y3, .int .i64 y4]] W fun e w' => e = .returned (.bool al) ∧ Below W.heap.size W w') := fun W => hal ▸ alr_any x0 x1 x2 x3 x4 y0 y1 y2 y3 y4 W
            have EK : kb = (hs || !al) := by
              rw [← KB.out, ← hhs, ← hal]
              unfold kpB inL
              rw [decide_eq_false hj0, Bool.false_or, show j - 1 = k by omega, List.getElem?_eq_getElem hkl, hx, List.getElem?_eq_getElem hlt, HY.out]
              congr 1
              rw [decide_eq_decide]
              exact (am.out _).symm
            have e0 : ((j : Int) == 0) = false := by simp; omega
            have ek : ((j : Int) - 1) = (k : Int) := by omega
            have wk : IntKind.i64.wrap (k : Int) = (k : Int) := by rw [IntKind.wrap_i64]; omega
            subst EK
            clear KB am hg MB MB6 P6 NX6 hhs hal hx q0 q1 q2 q3 q4 bm3 yc HY hk hj0
            cases hs
            · skip
              refine wp_region_held_drew (S := fun W' => W'.cell? ⟨w.heap.size, 3, none⟩ = some (.slice (some ⟨b, o, none⟩) code.length cb) ∧ W'.cell? ⟨b, o + k * 5, none⟩ = some (.int .i64 x0) ∧ W'.cell? ⟨b, o + k * 5 + 1, none⟩ = some (.int .i64 x1) ∧ W'.cell? ⟨b, o + k * 5 + 2, none⟩ = some (.int .i64 x2) ∧ W'.cell? ⟨b, o + k * 5 + 3, none⟩ = some (.int .i64 x3) ∧ W'.cell? ⟨b, o + k * 5 + 4, none⟩ = some (.int .i64 x4) ∧ W'.cell? ⟨wr.heap.size, 0, none⟩ = some (.int .i64 y0) ∧ W'.cell? ⟨wr.heap.size, 1, none⟩ = some (.int .i64 y1) ∧ W'.cell? ⟨wr.heap.size, 2, none⟩ = some (.int .i64 y2) ∧ W'.cell? ⟨wr.heap.size, 3, none⟩ = some (.int .i64 y3) ∧ W'.cell? ⟨wr.heap.size, 4, none⟩ = some (.int .i64 y4)) (by kernel_rfl) (SK.out _ (Below.refl _ _).drew) (fun hHeld => ?_)
              refine wpAnyH_take (i := 0) (v := (.int .i64 (j : Int))) rfl (by kernel_rfl) (by kernel_rfl) (by kernel_rfl) (fun _ _ _ h => h) (Or.inl ⟨by rfl, ?_⟩) hHeld ?_
              · (intro w hSw; (try dsimp only at hSw); go_simp)
              walk_nrm
              refine wpAnyH_take (i := 1) (v := (.bool false)) rfl (by kernel_rfl) (by kernel_rfl) (by kernel_rfl) (fun _ _ _ h => h) (Or.inl ⟨by rfl, ?_⟩) hHeld ?_
              · (intro w hSw; (try dsimp only at hSw); go_simp)
              walk_nrm
              refine wpAnyH_take (i := 2) (v := (.bool false)) rfl (by kernel_rfl) (by kernel_rfl) (by kernel_rfl) (fun _ _ _ h => h) (Or.inl ⟨by rfl, ?_⟩) hHeld ?_
              · (intro w hSw; (try dsimp only at hSw); go_simp)
              walk_nrm
              refine wpAnyH_take (i := 3) (v := (.map (some D))) rfl (by kernel_rfl) (by kernel_rfl) (by kernel_rfl) (fun _ _ _ h => h) (Or.inl ⟨by rfl, ?_⟩) hHeld ?_
              · (intro w hSw; (try dsimp only at hSw); go_simp)
              walk_nrm
              refine wpAnyH_take (i := 4) (v := (.int .i64 (j : Int))) rfl (by kernel_rfl) (by kernel_rfl) (by kernel_rfl) (fun _ _ _ h => h) (Or.inl ⟨by rfl, ?_⟩) hHeld ?_
              · (intro w hSw; (try dsimp only at hSw); go_simp)
              walk_nrm
              refine wpAnyH_ready (rs := [5]) (by kernel_rfl) (by simp) ?_
              refine AllReadyH.cons rfl (fun K hK => ?_) AllReadyH.nil
              go_simp
              go_at_call 40
              refine (CH.out _ (Below.refl _ _).drew).mono ?_
              rintro ea wa ⟨rfl, bela⟩
              have HBa := hideP ((Below.refl w7.heap.size w7).drew.trans (bela.mono (Nat.le_refl _)))
              clear bela
              go_wp2_with fail
              refine hK.out _ _ (SK.out _ HBa.out) (fun hHeld => ?_)
              clear hK K
              refine wpAnyH_take (i := 6) (v := (.bool false)) rfl (by kernel_rfl) (by kernel_rfl) (by kernel_rfl) (fun _ _ _ h => h) (Or.inl ⟨by rfl, ?_⟩) hHeld ?_
              · (intro w hSw; (try dsimp only at hSw); go_simp)
              walk_nrm
              refine wpAnyH_take (i := 7) (v := (.bool false)) rfl (by kernel_rfl) (by kernel_rfl) (by kernel_rfl) (fun _ _ _ h => h) (Or.inl ⟨by rfl, ?_⟩) hHeld ?_
              · (intro w hSw; (try dsimp only at hSw); go_simp)
              walk_nrm
              refine wpAnyH_take (i := 8) (v := (.pointer (some ⟨w.heap.size, 3, none⟩))) rfl (by kernel_rfl) (by kernel_rfl) (by kernel_rfl) (fun _ _ _ h => h) (Or.inl ⟨by rfl, ?_⟩) hHeld ?_
              · (intro w hSw; (try dsimp only at hSw); go_simp)
              walk_nrm
              refine wpAnyH_take (i := 9) (v := (.slice (some ⟨b, o, none⟩) code.length cb)) rfl (by kernel_rfl) (by kernel_rfl) (by kernel_rfl) (fun _ _ _ h => h) (Or.inl ⟨by rfl, ?_⟩) hHeld ?_
              · (intro w hSw; (try dsimp only at hSw); go_simp)
              walk_nrm
              refine wpAnyH_take (i := 10) (v := (.int .i64 (j : Int))) rfl (by kernel_rfl) (by kernel_rfl) (by kernel_rfl) (fun _ _ _ h => h) (Or.inl ⟨by rfl, ?_⟩) hHeld ?_
              · (intro w hSw; (try dsimp only at hSw); go_simp)
              walk_nrm
              refine wpAnyH_take (i := 11) (v := (.int .i64 (k : Int))) rfl (by kernel_rfl) (by kernel_rfl) (by kernel_rfl) (fun _ _ _ h => h) (Or.inl ⟨by rfl, ?_⟩) hHeld ?_
              · (intro w hSw; (try dsimp only at hSw); go_simp)
              walk_nrm
              refine wpAnyH_take (i := 12) (v := (.pointer (some ⟨b, o + k * 5, none⟩))) rfl (by kernel_rfl) (by kernel_rfl) (by kernel_rfl) (fun _ _ _ h => h) (Or.inl ⟨by rfl, ?_⟩) hHeld ?_
              · (intro w hSw; (try dsimp only at hSw); go_simp)
              walk_nrm
              refine wpAnyH_take (i := 13) (v := (.agg #[.int .i64 x0, .int .i64 x1, .int .i64 x2, .int .i64 x3, .int .i64 x4])) rfl (by kernel_rfl) (by kernel_rfl) (by kernel_rfl) (fun _ _ _ h => h) (Or.inl ⟨by rfl, ?_⟩) hHeld ?_
              · (intro w hSw; (try dsimp only at hSw); go_simp)
              walk_nrm
              refine wpAnyH_take (i := 14) (v := (.agg #[.int .i64 y0, .int .i64 y1, .int .i64 y2, .int .i64 y3, .int .i64 y4])) rfl (by kernel_rfl) (by kernel_rfl) (by kernel_rfl) (fun _ _ _ h => h) (Or.inl ⟨by rfl, ?_⟩) hHeld ?_
              · (intro w hSw; (try dsimp only at hSw); go_simp)
              walk_nrm
              refine wpAnyH_ready (rs := [15]) (by kernel_rfl) (by simp) ?_
              refine AllReadyH.cons rfl (fun K hK => ?_) AllReadyH.nil
              go_simp
              go_at_call 41
              refine (CI.out _).mono ?_
              rintro eb wb ⟨rfl, belb⟩
              have HBb := hideP (HBa.out.trans (belb.mono HBa.out.size))
              clear belb
              go_wp2_with fail
              refine hK.out _ _ (SK.out _ HBb.out) (fun hHeld => ?_)
              clear hK K
              refine wpAnyH_take (i := 16) (v := (.bool (!al))) rfl (by kernel_rfl) (by kernel_rfl) (by kernel_rfl) (fun _ _ _ h => h) (Or.inl ⟨by rfl, ?_⟩) hHeld ?_
              · (intro w hSw; (try dsimp only at hSw); go_simp)
              walk_nrm
              refine wpAnyH_take (i := 17) (v := (.bool (!al))) rfl (by kernel_rfl) (by kernel_rfl) (by kernel_rfl) (fun _ _ _ h => h) (Or.inl ⟨by rfl, ?_⟩) hHeld ?_
              · (intro w hSw; (try dsimp only at hSw); go_simp)
              walk_nrm
              refine wpAnyH_done (by kernel_rfl) ?_ _
              go_wp2_with fail
              go_meet
              exact ⟨rfl, HBb⟩
            · clear CI SK
              refine wp_region_held_drew (S := fun _ => True) (by kernel_rfl) trivial (fun hHeld => ?_)
              refine wpAnyH_take (i := 0) (v := (.int .i64 (j : Int))) rfl (by kernel_rfl) (by kernel_rfl) (by kernel_rfl) (fun _ _ _ h => h) (Or.inl ⟨by rfl, ?_⟩) hHeld ?_
              · (intro w hSw; (try dsimp only at hSw); go_simp)
              walk_nrm
              refine wpAnyH_take (i := 1) (v := (.bool false)) rfl (by kernel_rfl) (by kernel_rfl) (by kernel_rfl) (fun _ _ _ h => h) (Or.inl ⟨by rfl, ?_⟩) hHeld ?_
              · (intro w hSw; (try dsimp only at hSw); go_simp)
              walk_nrm
              refine wpAnyH_take (i := 2) (v := (.bool false)) rfl (by kernel_rfl) (by kernel_rfl) (by kernel_rfl) (fun _ _ _ h => h) (Or.inl ⟨by rfl, ?_⟩) hHeld ?_
              · (intro w hSw; (try dsimp only at hSw); go_simp)
              walk_nrm
              refine wpAnyH_take (i := 3) (v := (.map (some D))) rfl (by kernel_rfl) (by kernel_rfl) (by kernel_rfl) (fun _ _ _ h => h) (Or.inl ⟨by rfl, ?_⟩) hHeld ?_
              · (intro w hSw; (try dsimp only at hSw); go_simp)
              walk_nrm
              refine wpAnyH_take (i := 4) (v := (.int .i64 (j : Int))) rfl (by kernel_rfl) (by kernel_rfl) (by kernel_rfl) (fun _ _ _ h => h) (Or.inl ⟨by rfl, ?_⟩) hHeld ?_
              · (intro w hSw; (try dsimp only at hSw); go_simp)
              walk_nrm
              refine wpAnyH_ready (rs := [5]) (by kernel_rfl) (by simp) ?_
              refine AllReadyH.cons rfl (fun K hK => ?_) AllReadyH.nil
              go_simp
              go_at_call 40
              refine (CH.out _ (Below.refl _ _).drew).mono ?_
              rintro ea wa ⟨rfl, bela⟩
              have HBa := hideP ((Below.refl w7.heap.size w7).drew.trans (bela.mono (Nat.le_refl _)))
              clear bela
              go_wp2_with fail
              refine hK.out _ _ trivial (fun hHeld => ?_)
              clear hK K
              refine wpAnyH_take (i := 6) (v := (.bool true)) rfl (by kernel_rfl) (by kernel_rfl) (by kernel_rfl) (fun _ _ _ h => h) (Or.inl ⟨by rfl, ?_⟩) hHeld ?_
              · (intro w hSw; (try dsimp only at hSw); go_simp)
              walk_nrm
              refine wpAnyH_take (i := 7) (v := (.bool true)) rfl (by kernel_rfl) (by kernel_rfl) (by kernel_rfl) (fun _ _ _ h => h) (Or.inl ⟨by rfl, ?_⟩) hHeld ?_
              · (intro w hSw; (try dsimp only at hSw); go_simp)
              walk_nrm
              refine wpAnyH_take (i := 8) (v := undef) rfl (by kernel_rfl) (by kernel_rfl) (by kernel_rfl) (fun _ _ _ h => h) (Or.inr ⟨by rfl, rfl⟩) hHeld ?_
              walk_nrm
              refine wpAnyH_take (i := 9) (v := undef) rfl (by kernel_rfl) (by kernel_rfl) (by kernel_rfl) (fun _ _ _ h => h) (Or.inr ⟨by rfl, rfl⟩) hHeld ?_
              walk_nrm
              refine wpAnyH_take (i := 10) (v := undef) rfl (by kernel_rfl) (by kernel_rfl) (by kernel_rfl) (fun _ _ _ h => h) (Or.inr ⟨by rfl, rfl⟩) hHeld ?_
              walk_nrm
              refine wpAnyH_take (i := 11) (v := undef) rfl (by kernel_rfl) (by kernel_rfl) (by kernel_rfl) (fun _ _ _ h => h) (Or.inr ⟨by rfl, rfl⟩) hHeld ?_
              walk_nrm
              refine wpAnyH_take (i := 12) (v := undef) rfl (by kernel_rfl) (by kernel_rfl) (by kernel_rfl) (fun _ _ _ h => h) (Or.inr ⟨by rfl, rfl⟩) hHeld ?_
              walk_nrm
              refine wpAnyH_take (i := 13) (v := undef) rfl (by kernel_rfl) (by kernel_rfl) (by kernel_rfl) (fun _ _ _ h => h) (Or.inr ⟨by rfl, rfl⟩) hHeld ?_
              walk_nrm
              refine wpAnyH_take (i := 14) (v := undef) rfl (by kernel_rfl) (by kernel_rfl) (by kernel_rfl) (fun _ _ _ h => h) (Or.inr ⟨by rfl, rfl⟩) hHeld ?_
              walk_nrm
              refine wpAnyH_take (i := 15) (v := undef) rfl (by kernel_rfl) (by kernel_rfl) (by kernel_rfl) (fun _ _ _ h => h) (Or.inr ⟨by rfl, rfl⟩) hHeld ?_
              walk_nrm
              refine wpAnyH_take (i := 16) (v := undef) rfl (by kernel_rfl) (by kernel_rfl) (by kernel_rfl) (fun _ _ _ h => h) (Or.inr ⟨by rfl, rfl⟩) hHeld ?_
              walk_nrm
              refine wpAnyH_take (i := 17) (v := (.bool true)) rfl (by kernel_rfl) (by kernel_rfl) (by kernel_rfl) (fun _ _ _ h => h) (Or.inl ⟨by rfl, ?_⟩) hHeld ?_
              · (intro w hSw; (try dsimp only at hSw); go_simp)
              walk_nrm
              refine wpAnyH_done (by kernel_rfl) ?_ _
              go_wp2_with fail
              go_meet
              exact ⟨rfl, HBa⟩
        case rest =>
        obtain ⟨rfl, hc⟩ := hcut
        obtain ⟨wx, hwx⟩ : ∃ wx, wc = wx := ⟨_, rfl⟩
        rw [hwx] at hc ⊢
        clear hwx
        have PX := hideP (P6.out.stays hc.out)
        have NXX := hideP (keepC NX6.out hc.out)
        clear hc P6 NX6 MB MB6 am KB
        cases kb
        · rw [← UN.out, ← UX.out rfl] at PX
          clear UN UY UX
          go_wp2
          go_roundg (code.length - (j + 1))
          case rel => exact ⟨j + 1, g6, c6, gq, cq, by omega, by go_num, rfl, PX.out⟩
          case measure => omega
        · have LX := PX.out.low
          have x3 := (cells_of PX.out.box).1 3
          have xf := (cells_of PX.out.box).2
          simp at x3
          have yc := (cells_of NXX.out).1
          have z0 := yc 0
          have z1 := yc 1
          have z2 := yc 2
          have z3 := yc 3
          have z4 := yc 4
          simp at z0 z1 z2 z3 z4
          have hKx : K < wx.heap.size := (Array.getElem?_eq_some_iff.1 PX.out.box).1
          have hrx : wr.heap.size < wx.heap.size := (Array.getElem?_eq_some_iff.1 NXX.out).1
          have al := (Below.refl wx.heap.size wx).alloc (Nat.le_refl _) (.cells #[.int .i64 y0, .int .i64 y1, .int .i64 y2, .int .i64 y3, .int .i64 y4] 44)
          have PY := hideP (PX.out.stays al)
          have CQ : Hid (∀ r, r < WrE.sz → (wx.alloc (.cells #[.int .i64 y0, .int .i64 y1, .int .i64 y2, .int .i64 y3, .int .i64 y4] 44)).cell? ⟨wx.heap.size, 0 + r, none⟩ = (WrE.cs ⟨y0, y1, y2, y3, y4⟩)[r]?) := fun r _ => by
            have := (cells_of (heap_alloc_new wx (.cells #[.int .i64 y0, .int .i64 y1, .int .i64 y2, .int .i64 y3, .int .i64 y4] 44))).1 r
            rw [Nat.zero_add, this]; simp [WrE, wcs]
          have SC : C ≤ (wx.alloc (.cells #[.int .i64 y0, .int .i64 y1, .int .i64 y2, .int .i64 y3, .int .i64 y4] 44)).heap.size := by simp; omega
          clear al yc
          go_upto_region 14 with (at_builtin; refine list_appE WrOk _ rfl _ _ rfl C _ ks ⟨y0, y1, y2, y3, y4⟩ wx.heap.size 0 1 rfl rfl PY.out.kept CQ.out (by omega) SC ?_; intro v8 w8 o8 grow8 loc8; replace grow8 : World.grownBy _ w8 (some gq) := grow8; obtain ⟨g8, c8, rfl, _⟩ := id o8; have P8 := hideP (PY.out.grewK (But.ofG grow8) o8); have BK := hideP (keepG PY.out.box (But.ofG grow8) (by have := PY.out.lo; omega)); have u3 := (cells_of BK.out).1 3; have uf := (cells_of BK.out).2; simp at u3; have hK8 : K < w8.heap.size := (Array.getElem?_eq_some_iff.1 BK.out).1; clear o8 grow8 loc8 PY BK x3 xf z0 z1 z2 z3 z4 CQ)
          rw [show (ks ++ [(⟨y0, y1, y2, y3, y4⟩ : Wrd)]).length = ks.length + 1 by simp, ← UN.out, ← UY.out rfl] at P8
          go_wp2
          go_roundg (code.length - (j + 1))
          case rel => exact ⟨j + 1, g6, c6, g8, c8, by omega, by go_num, rfl, P8.out⟩
          case measure => omega
      · have hjn : j = code.length := by omega
        subst hjn
        have NL := numUp_len code code.length
        have KL := keptUp_len code code.length
        have KM := hideP (keptUp_mem code code.length (Nat.le_refl _))
        obtain ⟨ns, hns⟩ : ∃ ns, numUp code code.length = ns := ⟨_, rfl⟩
        obtain ⟨ks, hks⟩ : ∃ ks, keptUp code code.length = ks := ⟨_, rfl⟩
        rw [hns] at hP EP NL
        rw [hks] at hP EP KL KM
        clear hns hks
        have x3 := (cells_of hP.out.box).1 3
        simp at x3
        have ON : OwnI wr C (.slice (some ⟨gn, 0, none⟩) code.length cn) ns := by have := hP.out.num; rw [NL] at this; exact this
        have AI := hideP (aim_any ks ns wr C C gq ks.length cq gn code.length cn hP.out.kept ON (by omega) (fun x hx hgx => by rw [NL]; exact hg.out x (KM.out x hx) hgx))
        clear ON
        go_wp2_with fail
        refine AI.out.mono ?_
        rintro e9 w9 ⟨rfl, o9, b9⟩
        have P9 := hideP (hP.out.aimed b9 (by simp) o9)
        clear o9 b9 x3 AI hP KM
        have c0 := (cells_of P9.out.box).1 0
        have c1 := (cells_of P9.out.box).1 1
        have c2 := (cells_of P9.out.box).1 2
        have c3 := (cells_of P9.out.box).1 3
        have d0 := (cells_of P9.out.out).1 0
        have d1 := (cells_of P9.out.out).1 1
        have d2 := (cells_of P9.out.out).1 2
        have d3 := (cells_of P9.out.out).1 3
        have f2 := (cells_of P9.out.out).2
        simp at c0 c1 c2 c3 d0 d1 d2 d3
        have GOAL := hideP (P9.out.made _ (put4_but w9 (w.heap.size + 1) (.slice (some ⟨gs, 0, none⟩) sizes.length cgs) (.int .i64 params) (.int .i64 slots) (.slice (some ⟨gq, 0, none⟩) (ks.map (aimX ns)).length cq)))
        have P2 := hideP (put4_box P9.out.out (.slice (some ⟨gs, 0, none⟩) sizes.length cgs) (.int .i64 params) (.int .i64 slots) (.slice (some ⟨gq, 0, none⟩) (ks.map (aimX ns)).length cq))
        rw [← EP.out] at GOAL
        rw [List.length_map] at GOAL P2
        clear P9 EP
        go_wp2
        refine bodyPost_ret (results_cell_row rfl _ _ (w.heap.size + 1) 30 #[.slice (some ⟨gs, 0, none⟩) sizes.length cgs, .int .i64 params, .int .i64 slots, .slice (some ⟨gq, 0, none⟩) ks.length cq] (0, 0) _ rfl P2.out Try.underlying30 rfl (by kernel_rfl)) rfl ?_
        exact GOAL.out
end Go.Proofs.Ytfoelnblnfcaiaa
