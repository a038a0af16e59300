/- The contract of impl.Ahead. -/
import Derived.Test.YtgiboadcfnfooaaHasI
import Derived.Test.YtgiboadcfnfooaaContI
import Derived.Test.YtgiboadcfnfooaaNextI
namespace Go.Proofs.Ytgiboadcfnfooaa
open Go.ChangeShapes Go.WideShapes Go.ChangeAt Go.RowKit
theorem aheadUp_yes {xs : List Blk} {n : Int} {j : Nat} (h : j < xs.length) (hm : n ∈ nextP xs[j]) : aheadUp xs n (j + 1) = aheadUp xs n j ++ [(j : Int)] := if_pos (by rw [goesTo_at h]; simpa using hm)
theorem aheadUp_no {xs : List Blk} {n : Int} {j : Nat} (h : j < xs.length) (hm : ¬ n ∈ nextP xs[j]) : aheadUp xs n (j + 1) = aheadUp xs n j := if_neg (by rw [goesTo_at h]; simpa using hm)
theorem ahead_not {g : Gr} {n : Int} (h : ¬ (grOk g = true ∧ 0 ≤ n ∧ n < (g.blocks.length : Nat))) : aheadP g n = [] := if_neg h
set_option maxHeartbeats 4000000 in
set_option maxRecDepth 100000 in
theorem impl_ahead (g : Gr) (n : Int) (w : World) (B : Nat) (v : Array Value) (h : GrIs w B v g) (GO : OkIs 45 g) :
    Calls Try.prog 9 #[.agg v, .int .i64 n] w fun en w' => ∃ v', en = .returned v' ∧ OwnI w' w.heap.size v' (aheadP g n) ∧ Below w.heap.size w w' := by
  have hG := hideP h
  have HGO := hideP GO
  clear GO
  obtain ⟨sizes, params, vars, slots, blocks⟩ := g
  obtain ⟨us, cs, ub, cb, rfl, _, _, hb⟩ := h
  simp only at *
  have hm := maxLen_lt
  have hlb := hb.1
  have HB := hideP hb
  clear hb
  obtain ⟨R, hR⟩ : ∃ R, aheadP ⟨sizes, params, vars, slots, blocks⟩ n = R := ⟨_, rfl⟩
  rw [hR]
  have HR := hideP hR
  clear hR
  have HB1 : Hid (∀ W A v, GrIs W A v ⟨sizes, params, vars, slots, blocks⟩ → Calls Try.prog 31 #[.agg v, .int .i64 n] W fun en w' => en = .returned (.bool (decide (hasB6 ⟨sizes, params, vars, slots, blocks⟩ n))) ∧ Below W.heap.size W w') := fun W A v hv => hasBlock_any _ n W A v hv HGO.out
  clear HGO
  have Q1 := hideP (two (Below.refl ((w.alloc (.cells #[.slice us sizes.length cs, .int .i64 params, .int .i64 vars, .int .i64 slots, .slice ub blocks.length cb] 30)).alloc (.cells #[] 3)).heap.size _)).1
  have O1 := hideP (own_lit2 w (.cells #[.slice us sizes.length cs, .int .i64 params, .int .i64 vars, .int .i64 slots, .slice ub blocks.length cb] 30) [] #[] (w.heap.size + 1) 0 rfl rfl rfl (by simp))
  have OP : Hid (OwnI ((w.alloc (.cells #[.slice us sizes.length cs, .int .i64 params, .int .i64 vars, .int .i64 slots, .slice ub blocks.length cb] 30)).alloc (.cells #[] 3)) (w.heap.size + 1) (.slice (some ⟨w.heap.size + 1, 0, none⟩) 0 0) []) := by
    have := own_lit (w.alloc (.cells #[.slice us sizes.length cs, .int .i64 params, .int .i64 vars, .int .i64 slots, .slice ub blocks.length cb] 30)) [] #[] (w.heap.size + 1) 0 (by simp) rfl rfl (by simp)
    show OwnI _ _ _ _
    simpa using this
  have BW := hideP (below2 w (.cells #[.slice us sizes.length cs, .int .i64 params, .int .i64 vars, .int .i64 slots, .slice ub blocks.length cb] 30) (.cells #[] 3))
  by_cases hb6 : hasB6 ⟨sizes, params, vars, slots, blocks⟩ n
  case neg =>
    rw [decide_eq_false hb6] at HB1
    go_enter Try.func9, Try.ntmps9
    go_wp2_with fail
    refine (HB1.out _ B _ (GrKeeps.stays hG.out BW.out)).mono ?_
    rintro e1 w1 ⟨rfl, bel1⟩
    have E : Hid (R = []) := by rw [← HR.out]; exact ahead_not hb6
    have OO := hideP (O1.out.stays bel1)
    have BB := hideP (below_trans BW.out bel1)
    clear bel1
    go_wp2
    go_ret
    exact ⟨_, rfl, by rw [E.out]; exact OO.out, BB.out⟩
  case pos =>
      rw [decide_eq_true hb6] at HB1
      go_enter Try.func9, Try.ntmps9
      go_wp2_with fail
      refine (HB1.out _ B _ (GrKeeps.stays hG.out BW.out)).mono ?_
      rintro e1 w1 ⟨rfl, bel1⟩
      have OO := hideP (O1.out.stays bel1)
      have OP1 := hideP (OP.out.stays bel1)
      have BB := hideP (below_trans BW.out bel1)
      have QQ := hideP ((bel1.block w.heap.size (Array.getElem?_eq_some_iff.1 Q1.out).1).trans Q1.out)
      clear bel1 O1 OP Q1 BW HB1
      have HK := hideP hb6.1
      have hbl := grOk_blocks HK.out
      simp only at hbl
      have ER : Hid (R = aheadUp blocks n blocks.length) := by
        rw [← HR.out]
        exact if_pos hb6
      have p4 := (cells_of QQ.out).1 4
      simp at p4
      go_wp2
      clear p4
      go_loopw [5, 17] (fun o i wr => ∃ j : Nat, j ≤ blocks.length ∧ i = .int .i64 j ∧ Hid (OwnI wr (w.heap.size + 1) o (aheadUp blocks n j)) ∧ Hid (Below w.heap.size w wr) ∧ Hid (w.heap.size < wr.heap.size)) (fun _ i _ => blocks.length - (intOf i).toNat)
      case atStart => exact ⟨0, Nat.zero_le _, rfl, OP1.out, BB.out, (Array.getElem?_eq_some_iff.1 QQ.out).1⟩
      case round =>
        obtain ⟨j, hj, rfl, ho, bw, hws⟩ := hrel
        by_cases hlt : j < blocks.length
        · obtain ⟨b, o, x0, x1, x2, x3, x4, ux, kx, rfl, _, hbb, hx, q0, q1, q2, q3, q4, hbX⟩ := Blk_get (HB.out.stays BlkKeeps bw.out) j hlt
          have al := (Below.refl wr.heap.size wr).alloc (Nat.le_refl _) (.cells #[.slice ux x0.length kx, .int .i64 x1, .int .i64 x2, .int .i64 x3, .int .i64 x4] 53)
          have HX := hideP (BlkKeeps.stays hbX al)
          have NX : Hid (nextP ⟨x0, x1, x2, x3, x4⟩ = nextP blocks[j]) := by rw [hx]; rfl
          have OA := hideP (ho.out.stays al)
          have BA := hideP (bw.out.alloc bw.out.size (.cells #[.slice ux x0.length kx, .int .i64 x1, .int .i64 x2, .int .i64 x3, .int .i64 x4] 53))
          have SA := hideP (Nat.le_trans (Nat.le_of_lt hws.out) al.size)
          clear hbX hx al
          go_wp2_with fail
          refine (impl_next _ _ B _ HX.out).mono ?_
          rintro e2 w2 ⟨v2, rfl, o2, bel2⟩
          obtain ⟨g2, c2, rfl, _⟩ := id o2
          obtain ⟨L, hL⟩ : ∃ L, nextP ⟨x0, x1, x2, x3, x4⟩ = L := ⟨_, rfl⟩
          rw [hL] at o2 NX ⊢
          have N2 := hideP o2.is.2.sees
          replace OA := hideP (OA.out.stays bel2)
          replace BA := hideP (below_trans BA.out bel2)
          have SZ : Hid (w.heap.size < w2.heap.size) := by have := hws.out; have := bel2.size; simp at this; show _ < _; omega
          clear o2 hL bel2 q0 q1 q2 q3 q4 HX SA
          go_wp2_with fail
          refine (contains_any L n _ g2 0 c2 N2.out).mono ?_
          rintro e3 w3 ⟨rfl, hw⟩
          have hw2 := hw.symm
          subst hw2
          clear hw
          by_cases hin : n ∈ L
          · have E : decide (n ∈ L) = true := by simpa using hin
            rw [E]
            have UP := hideP (aheadUp_yes hlt (by rw [← NX.out]; exact hin))
            obtain ⟨g5, c5, rfl, _⟩ := id ho.out
            have hlen := aheadUp_len blocks n j
            have al := (Below.refl w2.heap.size w2).alloc (Nat.le_refl _) (.cells #[.int .i64 (j : Int)] 3)
            have OC := hideP (OA.out.stays al)
            have OD := hideP (own_lit w2 [(j : Int)] #[.int .i64 (j : Int)] w2.heap.size 1 rfl rfl rfl (by simp))
            have BC := hideP (BA.out.alloc BA.out.size (.cells #[.int .i64 (j : Int)] 3))
            have SC : Hid (w.heap.size + 1 ≤ (w2.alloc (.cells #[.int .i64 (j : Int)] 3)).heap.size) := by have := SZ.out; show _ ≤ _; simp; omega
            clear E al
            go_wp2_with (at_builtin; refine list_appI _ rfl _ _ rfl (w.heap.size + 1) _ (aheadUp blocks n j) [(j : Int)] w2.heap.size 0 1 1 rfl rfl rfl OC.out OD.out.at (by simp; omega) SC.out ?_; intro v6 w6 o6 grow6 loc6)
            have B6 := hideP (BC.out.grown grow6 BC.out.size (fun b' hb' => by have := OC.out.low b' hb'; omega))
            obtain ⟨g6, c6, rfl, _⟩ := id o6
            rw [← UP.out] at o6
            have O6 := hideP o6
            have S6 : Hid (w.heap.size < w6.heap.size) := by have := grow6.size; have := SC.out; show _ < _; omega
            clear o6 grow6 loc6
            go_wp2
            go_roundw
            case rel => exact ⟨j + 1, by omega, by go_num, by rw [UP.out] at *; show OwnI _ _ _ _; simpa using O6.out, B6.out, S6.out⟩
            case measure => simp [intOf]; omega
          · have E : decide (n ∈ L) = false := by simpa using hin
            rw [E]
            have UP := hideP (aheadUp_no hlt (by rw [← NX.out]; exact hin))
            clear E
            go_wp2
            go_roundw
            case rel => exact ⟨j + 1, by omega, by go_num, by rw [UP.out]; exact OA.out, BA.out, SZ.out⟩
            case measure => simp [intOf]; omega
        · have hjn : j = blocks.length := by omega
          subst hjn
          go_wp2
          go_ret
          exact ⟨_, rfl, by rw [ER.out]; exact ho.out.mono (by omega), bw.out⟩
end Go.Proofs.Ytgiboadcfnfooaa
