/- The contract of spec.VarsOf. -/
import Derived.Test.YtdkdimklacblaahVarsP
import Derived.Test.YtdkdimklacblaahAddO
namespace Go.Proofs.Ytdkdimklacblaah
open Go.ChangeShapes Go.WideShapes Go.ChangeAt Go.RowKit
set_option maxHeartbeats 4000000 in
theorem spec_varsOf (e : Ex) (w : World) (B : Nat) (v : Array Value) (hx : ExIs w B v e) (hsz : e.sz ≤ 1048576) :
    Calls Try.prog 14 #[.agg v] w fun en w' => ∃ v', en = .returned v' ∧ OwnI w' w.heap.size v' (varsP e) ∧ Below w.heap.size w w' := by
  have hx0 := hx
  have hfl := flat_le_ex e
  obtain ⟨fl, hflt⟩ : ∃ fl, e.flat = fl := ⟨_, rfl⟩
  have hR : varsP e = addAll (fl.flatMap exVars) := by rw [← hflt]; rfl
  rw [hR]
  rw [hflt] at hfl
  have LX : Hid (∀ X, Below w.heap.size w X → Calls Try.prog 39 #[.agg v] X fun en w' => ∃ r xs, en = .returned r ∧ OwnR 41 5 w' X.heap.size r fl.length xs ∧ RC (ExIs w B) xs fl ∧ Below X.heap.size X w') := fun X hX => by rw [← hflt]; exact l02Exps_any e w X B v hx0 hX hsz
  clear hflt hR hx0
  obtain ⟨k, n, b, t, kids⟩ := e
  obtain ⟨a, cap, rfl, _, _⟩ := hx.out
  clear hx
  have BW := hideP (below2 w (.cells #[.int .i64 k, .int .i64 n, .int .i64 b, .string t, .slice a kids.length cap] 41) (.cells #[] 3))
  have O1 := hideP (own_lit2 w (.cells #[.int .i64 k, .int .i64 n, .int .i64 b, .string t, .slice a kids.length cap] 41) [] #[] (w.heap.size + 1) 0 rfl rfl rfl (by simp))
  go_enter Try.func14, Try.ntmps14
  go_wp2_with fail
  refine (LX.out _ BW.out).mono ?_
  rintro e1 w1 ⟨r, xs, rfl, own1, rc1, bel1⟩
  obtain ⟨g, c, rfl, _, _, _, hg, _, hcell⟩ := own1.cells
  have CE := hideP hcell
  have RCE := hideP rc1
  have BB := hideP (below_trans BW.out bel1)
  have OO := hideP (O1.out.stays bel1)
  have hn : fl.length ≤ 1048577 := by omega
  clear own1 hcell rc1 bel1 LX BW O1 hfl hsz
  go_wp2
  go_loopw [3, 5] (fun q i wr => ∃ j : Nat, j ≤ fl.length ∧ i = .int .i64 j ∧ Hid (OwnI wr w.heap.size q (addAll ((fl.take j).flatMap exVars))) ∧ Hid (Below w1.heap.size w1 wr)) (fun _ i _ => fl.length - (intOf i).toNat)
  case atStart => exact ⟨0, Nat.zero_le _, rfl, OO.out, Below.refl _ _⟩
  case round =>
    obtain ⟨j, hj, rfl, ho, hb⟩ := hrel
    by_cases hlt : j < fl.length
    · obtain ⟨u, hu, _, hc⟩ := RCE.out.get sz_ex j (by omega)
      have hft := flatMap_take exVars fl j (by omega)
      obtain ⟨x, hx⟩ : ∃ x, fl[j]'(by omega) = x := ⟨_, rfl⟩
      rw [hx] at hu hft
      obtain ⟨k, n, b, t, kids⟩ := x
      obtain ⟨a1, cap1, rfl, _, _⟩ := hu.out
      have c0 := CE.out _ _ (hc 0 (by omega))
      simp at c0
      replace c0 := (hb.out.cell (p := ⟨g, _, none⟩) hg).trans c0
      have c1 := CE.out _ _ (hc 1 (by omega))
      simp at c1
      replace c1 := (hb.out.cell (p := ⟨g, _, none⟩) hg).trans c1
      have c2 := CE.out _ _ (hc 2 (by omega))
      simp at c2
      replace c2 := (hb.out.cell (p := ⟨g, _, none⟩) hg).trans c2
      have HFT := hideP hft
      clear hx hc hu hft
      have hll : (addAll ((fl.take j).flatMap exVars)).length ≤ 3000000 := Nat.le_trans (addAll_len2 _) (by have := flatMap_len exVars (fun x => labVar_len _) (fl.take j); rw [List.length_take] at this; omega)
      have hsz := hb.out.size
      by_cases hk1 : k = 1
      · rw [hk1] at c0
        have FX : Hid (exVars (.mk k n b t kids) = [n]) := by show _ = _; simp [exVars, labVar, labE, hk1]
        have ST : Hid (addAll ((fl.take (j + 1)).flatMap exVars) = addTo (addAll ((fl.take j).flatMap exVars)) n) := by show _ = _; rw [HFT.out, FX.out, addAll_append]; rfl
        go_wp2_with fail
        refine (l02Add_own _ _ _ _ _ ho.out (by omega) (by have := BB.out.size; omega)).mono ?_
        rintro e3 w3 ⟨v3, rfl, o3, bel3⟩
        rw [← ST.out] at o3
        have O3 := hideP o3
        have B3 := hideP (below_trans hb.out bel3)
        replace c0 := (bel3.cell (p := ⟨g, _, none⟩) (by show g < wr.heap.size; omega)).trans c0
        replace c2 := (bel3.cell (p := ⟨g, _, none⟩) (by show g < wr.heap.size; omega)).trans c2
        clear o3 bel3 c1
        go_wp2
        go_roundw
        case rel => exact ⟨j + 1, by omega, by go_num, O3.out, B3.out⟩
        case measure => simp [intOf]; omega
      · skip
        by_cases hk2 : k = 2 ∧ 0 ≤ b
        · obtain ⟨hk0, hb0⟩ := hk2
          rw [hk0] at c0
          have FX : Hid (exVars (.mk k n b t kids) = [b]) := by show _ = _; simp [exVars, labVar, labE, hk0, hb0]
          have ST : Hid (addAll ((fl.take (j + 1)).flatMap exVars) = addTo (addAll ((fl.take j).flatMap exVars)) b) := by show _ = _; rw [HFT.out, FX.out, addAll_append]; rfl
          go_wp2_with fail
          refine (l02Add_own _ _ _ _ _ ho.out (by omega) (by have := BB.out.size; omega)).mono ?_
          rintro e3 w3 ⟨v3, rfl, o3, bel3⟩
          rw [← ST.out] at o3
          have O3 := hideP o3
          have B3 := hideP (below_trans hb.out bel3)
          replace c0 := (bel3.cell (p := ⟨g, _, none⟩) (by show g < wr.heap.size; omega)).trans c0
          replace c2 := (bel3.cell (p := ⟨g, _, none⟩) (by show g < wr.heap.size; omega)).trans c2
          clear o3 bel3 c1
          go_wp2
          go_roundw
          case rel => exact ⟨j + 1, by omega, by go_num, O3.out, B3.out⟩
          case measure => simp [intOf]; omega
        · skip
          by_cases hk3 : k = 2
          · rw [hk3] at c0
            have hb0 : ¬ 0 ≤ b := fun h => hk2 ⟨hk3, h⟩
            have FX : Hid (exVars (.mk k n b t kids) = []) := by show _ = _; simp [exVars, labVar, labE, hk3]; omega
            have ST : Hid (addAll ((fl.take (j + 1)).flatMap exVars) = addAll ((fl.take j).flatMap exVars)) := by show _ = _; rw [HFT.out, FX.out, List.append_nil]
            go_wp2
            go_roundw
            case rel => exact ⟨j + 1, by omega, by go_num, by rw [ST.out]; exact ho.out, hb.out⟩
            case measure => simp [intOf]; omega
          · skip
            have FX : Hid (exVars (.mk k n b t kids) = []) := by show _ = _; simp [exVars, labVar, labE, hk1, hk3]
            have ST : Hid (addAll ((fl.take (j + 1)).flatMap exVars) = addAll ((fl.take j).flatMap exVars)) := by show _ = _; rw [HFT.out, FX.out, List.append_nil]
            go_wp2
            go_roundw
            case rel => exact ⟨j + 1, by omega, by go_num, by rw [ST.out]; exact ho.out, hb.out⟩
            case measure => simp [intOf]; omega
    · have hjn : j = fl.length := by omega
      subst hjn
      go_wp2
      go_ret
      refine ⟨_, rfl, ?_, below_trans BB.out hb.out⟩
      have := ho.out
      rw [List.take_length] at this
      exact this
end Go.Proofs.Ytdkdimklacblaah
