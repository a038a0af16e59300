/- The contract of spec.Touches. -/
import Derived.Test.YtdkdimklacblaahVarsP
import Derived.Test.YtdkdimklacblaahAddO
namespace Go.Proofs.Ytdkdimklacblaah
open Go.ChangeShapes Go.WideShapes Go.ChangeAt Go.RowKit
theorem box_of {W W' : World} {b : Nat} {o : Obj} (h : W.heap[b]? = some o) (bel : Below W.heap.size W W') : W'.heap[b]? = some o := (bel.block b (Array.getElem?_eq_some_iff.1 h).1).trans h
set_option maxHeartbeats 4000000 in
theorem spec_tch (p : Pr) (w : World) (B : Nat) (v : Array Value) (hp : PrIs w B v p) (hsz : p.sz ≤ 1048576) :
    Calls Try.prog 25 #[.agg v] w fun en w' => ∃ v', en = .returned v' ∧ OwnI w' w.heap.size v' (tchP p.body) ∧ Below w.heap.size w w' := by
  obtain ⟨sizes, params, vars, body⟩ := p
  have hp0 := hp
  obtain ⟨a, cap, ab, cb, rfl, hz, hb⟩ := hp
  simp only at hb hz hp0 ⊢
  have hbs : stsSz body ≤ 1048576 := by simp only [Pr.sz] at hsz; omega
  have hfl := flat_le_sts body fun e _ => flat_le_st e
  have hal := all_le_sts body fun e _ => all_le_st e
  obtain ⟨fl, hflt⟩ : ∃ fl, stsFlat body = fl := ⟨_, rfl⟩
  rw [hflt] at hfl hal
  replace hal : (allOf fl).length ≤ 1048576 := by omega
  have hR : tchP body = addAll (fl.flatMap stTch ++ (allOf fl).flatMap exTch) := by rw [← hflt]; rfl
  rw [hR]
  have LX : Hid (∀ X, Below w.heap.size w X → Calls Try.prog 31 #[.slice ab body.length cb] X fun en w' => ∃ r xs, en = .returned r ∧ OwnR 74 6 w' X.heap.size r fl.length xs ∧ RC (StIs w B) xs fl ∧ Below X.heap.size X w') := fun X hX => by rw [← hflt]; exact l02Stmts_any body w X B ab cb hb hX hbs
  have LA : Hid (∀ X, Below w.heap.size w X → Calls Try.prog 32 #[.agg #[.slice a sizes.length cap, .int .i64 params, .int .i64 vars, .slice ab body.length cb]] X fun en w' => ∃ r xs, en = .returned r ∧ OwnR 41 5 w' X.heap.size r (allOf fl).length xs ∧ RC (ExIs w B) xs (allOf fl) ∧ Below X.heap.size X w') := fun X hX => by rw [← hflt]; exact l02All_any ⟨sizes, params, vars, body⟩ w X B _ hp0 hX hsz
  clear hflt hR hp0 hb hz
  have BW := hideP (below2 w (.cells #[.slice a sizes.length cap, .int .i64 params, .int .i64 vars, .slice ab body.length cb] 30) (.cells #[] 3))
  have Q1 := hideP (two (Below.refl ((w.alloc (.cells #[.slice a sizes.length cap, .int .i64 params, .int .i64 vars, .slice ab body.length cb] 30)).alloc (.cells #[] 3)).heap.size _)).1
  have O1 := hideP (own_lit2 w (.cells #[.slice a sizes.length cap, .int .i64 params, .int .i64 vars, .slice ab body.length cb] 30) [] #[] (w.heap.size + 1) 0 rfl rfl rfl (by simp))
  go_enter Try.func25, Try.ntmps25
  go_wp2_with fail
  refine (LX.out _ BW.out).mono ?_
  rintro e1 w1 ⟨r, xs, rfl, own1, rc1, bel1⟩
  obtain ⟨g, c, rfl, _, _, _, hg, _, hcell⟩ := own1.cells
  have CE := hideP hcell
  have RCE := hideP rc1
  have BB := hideP (below_trans BW.out bel1)
  have QQ := hideP ((bel1.block w.heap.size (Array.getElem?_eq_some_iff.1 Q1.out).1).trans Q1.out)
  have OO := hideP (O1.out.stays bel1)
  have hn : fl.length ≤ 1048577 := by omega
  clear own1 hcell rc1 bel1 LX BW O1 Q1 hfl hsz hbs
  go_wp2
  go_loopw [3, 5] (fun q i wr => ∃ j : Nat, j ≤ fl.length ∧ i = .int .i64 j ∧ Hid (OwnI wr w.heap.size q (addAll ((fl.take j).flatMap stTch))) ∧ Hid (Below w1.heap.size w1 wr)) (fun _ i _ => fl.length - (intOf i).toNat)
  case atStart => exact ⟨0, Nat.zero_le _, rfl, OO.out, Below.refl _ _⟩
  case round =>
    obtain ⟨j, hj, rfl, ho, hb⟩ := hrel
    by_cases hlt : j < fl.length
    · obtain ⟨u, hu, _, hc⟩ := RCE.out.get sz_st j (by omega)
      have hft := flatMap_take stTch fl j (by omega)
      obtain ⟨x, hx⟩ : ∃ x, fl[j]'(by omega) = x := ⟨_, rfl⟩
      rw [hx] at hu hft
      obtain ⟨k, n, b, exps, xs, ys⟩ := x
      obtain ⟨a1, cap1, a2, cap2, a3, cap3, rfl, _⟩ := hu.out
      have c0 := CE.out _ _ (hc 0 (by omega))
      simp at c0
      replace c0 := (hb.out.cell (p := ⟨g, _, none⟩) hg).trans c0
      have c1 := CE.out _ _ (hc 1 (by omega))
      simp at c1
      replace c1 := (hb.out.cell (p := ⟨g, _, none⟩) hg).trans c1
      have c2 := CE.out _ _ (hc 2 (by omega))
      simp at c2
      replace c2 := (hb.out.cell (p := ⟨g, _, none⟩) hg).trans c2
      have HFT := hideP hft
      clear hx hc hu hft
      have hll : (addAll ((fl.take j).flatMap stTch)).length ≤ 3000000 := Nat.le_trans (addAll_len2 _) (by have := flatMap_len stTch (fun x => labTch_len _) (fl.take j); rw [List.length_take] at this; omega)
      have hsz := hb.out.size
      by_cases hk1 : k = 1
      · rw [hk1] at c0
        have FX : Hid (stTch (.mk k n b exps xs ys) = [n]) := by show _ = _; simp [stTch, labTch, labS, hk1]
        have ST : Hid (addAll ((fl.take (j + 1)).flatMap stTch) = addTo (addAll ((fl.take j).flatMap stTch)) n) := by show _ = _; rw [HFT.out, FX.out, addAll_append]; rfl
        go_wp2_with fail
        refine (l02Add_own _ _ _ _ _ ho.out (by omega) (by have := BB.out.size; omega)).mono ?_
        rintro e3 w3 ⟨v3, rfl, o3, bel3⟩
        rw [← ST.out] at o3
        have O3 := hideP o3
        have B3 := hideP (below_trans hb.out bel3)
        replace c0 := (bel3.cell (p := ⟨g, _, none⟩) (by show g < wr.heap.size; omega)).trans c0
        replace c2 := (bel3.cell (p := ⟨g, _, none⟩) (by show g < wr.heap.size; omega)).trans c2
        clear o3 bel3 c1
        go_wp2
        go_roundw
        case rel => exact ⟨j + 1, by omega, by go_num, O3.out, B3.out⟩
        case measure => simp [intOf]; omega
      · skip
        have FX : Hid (stTch (.mk k n b exps xs ys) = []) := by show _ = _; simp [stTch, labTch, labS, hk1]
        have ST : Hid (addAll ((fl.take (j + 1)).flatMap stTch) = addAll ((fl.take j).flatMap stTch)) := by show _ = _; rw [HFT.out, FX.out, List.append_nil]
        go_wp2
        go_roundw
        case rel => exact ⟨j + 1, by omega, by go_num, by rw [ST.out]; exact ho.out, hb.out⟩
        case measure => simp [intOf]; omega
    · have hjn : j = fl.length := by omega
      subst hjn
      have r1 := box_of QQ.out hb.out
      have p0 := (cells_of r1).1 0
      have p1 := (cells_of r1).1 1
      have p2 := (cells_of r1).1 2
      have p3 := (cells_of r1).1 3
      simp at p0 p1 p2 p3
      go_wp2_with fail
      refine (LA.out _ (below_trans BB.out hb.out)).mono ?_
      rintro e2 w2 ⟨r2, xs2, rfl, own2, rc2, bel2⟩
      obtain ⟨g2, c2, rfl, _, _, _, hg2, _, hcell2⟩ := own2.cells
      have CE2 := hideP hcell2
      have RCE2 := hideP rc2
      have BB2 := hideP (below_trans (below_trans BB.out hb.out) bel2)
      have OO2 := hideP (ho.out.stays bel2)
      rw [List.take_length] at OO2
      obtain ⟨al, hal2⟩ : ∃ al, allOf fl = al := ⟨_, rfl⟩
      rw [hal2] at RCE2 hal ⊢
      have HAL2 := hideP hal2
      clear own2 hcell2 rc2 bel2 LA p0 p1 p2 p3 r1 ho hb OO hal2
      go_wp2
      go_loopw [3, 7] (fun q i wr => ∃ j : Nat, j ≤ al.length ∧ i = .int .i64 j ∧ Hid (OwnI wr w.heap.size q (addAll (fl.flatMap stTch ++ (al.take j).flatMap exTch))) ∧ Hid (Below w2.heap.size w2 wr)) (fun _ i _ => al.length - (intOf i).toNat)
      case atStart => exact ⟨0, Nat.zero_le _, rfl, by have := OO2.out; show OwnI _ _ _ _; simpa using this, Below.refl _ _⟩
      case round =>
        obtain ⟨j, hj, rfl, ho, hb⟩ := hrel
        by_cases hlt : j < al.length
        · obtain ⟨u, hu, _, hc⟩ := RCE2.out.get sz_ex j (by omega)
          have hft := flatMap_take exTch al j (by omega)
          obtain ⟨x, hx⟩ : ∃ x, al[j]'(by omega) = x := ⟨_, rfl⟩
          rw [hx] at hu hft
          obtain ⟨k, n, b, t, kids⟩ := x
          obtain ⟨a1, cap1, rfl, _, _⟩ := hu.out
          have c0 := CE2.out _ _ (hc 0 (by omega))
          simp at c0
          replace c0 := (hb.out.cell (p := ⟨g2, _, none⟩) hg2).trans c0
          have c1 := CE2.out _ _ (hc 1 (by omega))
          simp at c1
          replace c1 := (hb.out.cell (p := ⟨g2, _, none⟩) hg2).trans c1
          have c2 := CE2.out _ _ (hc 2 (by omega))
          simp at c2
          replace c2 := (hb.out.cell (p := ⟨g2, _, none⟩) hg2).trans c2
          have HFT := hideP hft
          clear hx hc hu hft
          have hll : (addAll (fl.flatMap stTch ++ (al.take j).flatMap exTch)).length ≤ 3000000 := Nat.le_trans (addAll_len2 _) (by have := flatMap_len stTch (fun x => labTch_len _) fl; have := flatMap_len exTch (fun x => labTch_len _) (al.take j); rw [List.length_take] at this; rw [List.length_append]; omega)
          have hsz := hb.out.size
          by_cases hk1 : k = 2
          · rw [hk1] at c0
            have FX : Hid (exTch (.mk k n b t kids) = [n]) := by show _ = _; simp [exTch, labTch, labE, hk1]
            have ST : Hid (addAll (fl.flatMap stTch ++ (al.take (j + 1)).flatMap exTch) = addTo (addAll (fl.flatMap stTch ++ (al.take j).flatMap exTch)) n) := by show _ = _; rw [HFT.out, FX.out, ← List.append_assoc, addAll_append]; rfl
            go_wp2_with fail
            refine (l02Add_own _ _ _ _ _ ho.out (by omega) (by have := BB2.out.size; omega)).mono ?_
            rintro e3 w3 ⟨v3, rfl, o3, bel3⟩
            rw [← ST.out] at o3
            have O3 := hideP o3
            have B3 := hideP (below_trans hb.out bel3)
            replace c0 := (bel3.cell (p := ⟨g2, _, none⟩) (by show g2 < wr.heap.size; omega)).trans c0
            replace c2 := (bel3.cell (p := ⟨g2, _, none⟩) (by show g2 < wr.heap.size; omega)).trans c2
            clear o3 bel3 c1
            go_wp2
            go_roundw
            case rel => exact ⟨j + 1, by omega, by go_num, O3.out, B3.out⟩
            case measure => simp [intOf]; omega
          · skip
            have FX : Hid (exTch (.mk k n b t kids) = []) := by show _ = _; simp [exTch, labTch, labE, hk1]
            have ST : Hid (addAll (fl.flatMap stTch ++ (al.take (j + 1)).flatMap exTch) = addAll (fl.flatMap stTch ++ (al.take j).flatMap exTch)) := by show _ = _; rw [HFT.out, FX.out, List.append_nil]
            go_wp2
            go_roundw
            case rel => exact ⟨j + 1, by omega, by go_num, by rw [ST.out]; exact ho.out, hb.out⟩
            case measure => simp [intOf]; omega
        · have hjn : j = al.length := by omega
          subst hjn
          go_wp2
          go_ret
          refine ⟨_, rfl, ?_, below_trans BB2.out hb.out⟩
          have := ho.out
          rw [List.take_length] at this
          rw [HAL2.out]
          exact this
end Go.Proofs.Ytdkdimklacblaah
