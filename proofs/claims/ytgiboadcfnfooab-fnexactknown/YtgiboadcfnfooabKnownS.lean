/- The contract of spec.Known. -/
import Derived.Test.YtgiboadcfnfooabEndsS
namespace Go.Proofs.Ytgiboadcfnfooab
open Go.ChangeShapes Go.WideShapes Go.ChangeAt Go.RowKit
set_option maxRecDepth 100000 in
set_option maxHeartbeats 4000000 in
theorem spec_known (g : Gr) (n : Int) (w : World) (B : Nat) (v : Array Value) (h : GrIs w B v g) (GO : OkIs 28 g) :
    Calls Try.prog 10 #[.agg v, .int .i64 n] w fun en w' => ∃ v', en = .returned v' ∧ OwnI w' w.heap.size v' (knownP g n) ∧ Below w.heap.size w w' := by
  have hG := hideP h
  have HGO := hideP GO
  clear GO
  obtain ⟨gok, hgok⟩ : ∃ r, grOk g = r := ⟨_, rfl⟩
  have GO1 : Hid (∀ W A v, GrIs W A v g → Calls Try.prog 28 #[.agg v] W fun en w' => en = .returned (.bool gok) ∧ Below W.heap.size W w') := fun W A v hv => hgok ▸ HGO.out W A v hv
  clear HGO
  have hl0 : g.blocks.length ≤ maxLen := by obtain ⟨_, _, _, _, _, _, _, hb⟩ := h; exact hb.1
  have hm := maxLen_lt
  by_cases hb6 : hasB6 g n
  · rw [show knownP g n = knownUp (ledP g.slots.toNat (codeAt g n)).slots (ledP g.slots.toNat (codeAt g n)).slots.length from if_pos hb6]
    obtain rfl : gok = true := hgok.symm.trans hb6.1
    obtain ⟨i, V, rfl, hV, hV1, hi, hce, hcl, hall⟩ := hasB6_ok hb6
    rw [hce, hV]
    obtain ⟨sizes, params, vars, slots, blocks⟩ := g
    obtain ⟨us, cs, ub, cb, rfl, _, _, hbs⟩ := h
    simp only at *
    subst hV
    have HBS := hideP hbs
    have HALL := hideP hall
    have BW := hideP (below2 w (.cells #[.slice us sizes.length cs, .int .i64 params, .int .i64 vars, .int .i64 (V : Int), .slice ub blocks.length cb] 32) (.cells #[] 3))
    have O0 : Hid (OwnI ((w.alloc (.cells #[.slice us sizes.length cs, .int .i64 params, .int .i64 vars, .int .i64 (V : Int), .slice ub blocks.length cb] 32)).alloc (.cells #[] 3)) w.heap.size (.slice (some ⟨w.heap.size + 1, 0, none⟩) 0 0) []) := own_lit2 w (.cells #[.slice us sizes.length cs, .int .i64 params, .int .i64 vars, .int .i64 (V : Int), .slice ub blocks.length cb] 32) [] #[] (w.heap.size + 1) 0 rfl rfl rfl (by simp)
    have Q := hideP (two (Below.refl ((w.alloc (.cells #[.slice us sizes.length cs, .int .i64 params, .int .i64 vars, .int .i64 (V : Int), .slice ub blocks.length cb] 32)).alloc (.cells #[] 3)).heap.size _)).1
    clear hce hb6 hall hbs hgok
    go_enter Try.func10, Try.ntmps10
    go_wp2_with fail
    refine (GO1.out _ B _ (GrKeeps.stays hG.out BW.out)).mono ?_
    rintro e1 w1 ⟨rfl, bel1⟩
    have BB := hideP (below_trans BW.out bel1)
    have O1 := hideP (O0.out.stays bel1)
    have Q1 := (bel1.block w.heap.size (Array.getElem?_eq_some_iff.1 Q.out).1).trans Q.out
    have p := (cells_of Q1).1
    have p0 := p 0
    have p1 := p 1
    have p2 := p 2
    have p3 := p 3
    have p4 := p 4
    simp at p0 p1 p2 p3 p4
    clear bel1 p Q1 Q GO1
    go_wp2_with fail
    refine (l01In_any _ _ _ _).mono ?_
    rintro y1 w3 ⟨rfl, hw1⟩
    have hw2 := hw1.symm
    clear hw1
    subst hw2
    have hi2 : i < blocks.length := hi
    rw [show inB (i : Int) 0 ((blocks.length : Int) - 1) = true by simp [inB]; omega]
    go_wp2_with fail
    refine (l06Ends_any sizes params vars V blocks i _ B us cs cb ub (HBS.out.stays BlkKeeps BB.out) hi hV1 hcl HALL.out).mono ?_
    rintro e2 w2 ⟨v2, rfl, o2, bel2⟩
    have B2 := hideP (below_trans BB.out bel2)
    have O2 := hideP (O1.out.stays bel2)
    have S2 := hideP o2
    have hln : (ledP V (blocks[i]).code).slots.length = V := by
      obtain ⟨_, _, _, _, _, _, _, hcode⟩ := code_of HBS.out i hi
      have := ledP_ok (fun x hx => ⟨HALL.out x hx, ins_i64 hcode x hx⟩) (blocks[i]).code.length (Nat.le_refl _)
      rw [List.take_length] at this
      exact this.1.1
    obtain ⟨ss, hss⟩ : ∃ ss, (ledP V (blocks[i]).code).slots = ss := ⟨_, rfl⟩
    rw [hss] at S2 hln
    have HSS := hideP hss
    obtain ⟨gS, cS, rfl, _⟩ := id S2.out
    clear bel2 p0 p1 p2 p3 p4 o2 hss
    go_wp2
    go_loopg [5, 8] ss.length (fun gk o ix wr => ∃ j : Nat, gk + j = ss.length ∧ ix = .int .i64 j ∧ Hid (OwnI wr w.heap.size o (knownUp ss j)) ∧ Hid (OwnE SyE wr w1.heap.size (.slice (some ⟨gS, 0, none⟩) ss.length cS) ss) ∧ Hid (Below w.heap.size w wr) ∧ Hid (o.ownBlock ≠ some gS))
    case atStart => exact ⟨0, rfl, rfl, O2.out, S2.out, B2.out, by
      have l1 := (S2.out.low gS rfl).1
      have l2 := (O1.out.low (w.heap.size + 1) rfl).2
      show _ ≠ _
      simp [Value.ownBlock]; omega⟩
    case round =>
      obtain ⟨j, hj, rfl, ho, hs, hb, hne⟩ := hrel
      by_cases hlt : j < ss.length
      · obtain ⟨c0, _, _, _, hg⟩ := sy_at hs.out j hlt
        by_cases hbm : ss[j].base = -1
        · rw [hbm] at c0
          have UP := hideP (knownUp_yes hlt hbm)
          have hle := knownUp_len ss j
          obtain ⟨gO, cO, rfl, _⟩ := id ho.out
          have al := (Below.refl wr.heap.size wr).alloc (Nat.le_refl _) (.cells #[.int .i64 (j : Int)] 3)
          have OC := hideP (ho.out.stays al)
          have SC := hideP (hs.out.stays al)
          have OD := hideP (own_lit wr [(j : Int)] #[.int .i64 (j : Int)] wr.heap.size 1 rfl rfl rfl (by simp))
          have BC := hideP (below_trans hb.out al)
          clear al
          go_upto_region 7 with (at_builtin; refine list_appI _ rfl _ _ rfl w.heap.size _ (knownUp ss j) [(j : Int)] wr.heap.size 0 1 1 rfl rfl rfl OC.out OD.out.at (by simp; omega) BC.out.size ?_; intro v6 w6 o6 grow6 loc6)
          replace grow6 : World.grownBy _ w6 ((Value.slice (some ⟨gO, 0, none⟩) (knownUp ss j).length cO).ownBlock) := grow6
          replace loc6 : v6.ownBlock = ((Value.slice (some ⟨gO, 0, none⟩) (knownUp ss j).length cO).ownBlock) ∨ v6.ownBlock = some (wr.alloc (.cells #[.int .i64 (j : Int)] 3)).heap.size := loc6
          rw [← UP.out] at o6
          have O6 := hideP o6
          have B6 := hideP (BC.out.grown grow6 BC.out.size (fun b' hb' => (OC.out.low b' hb').1))
          have S6 := hideP (SC.out.kept grow6 (fun e => hne.out (by rw [← e]; rfl)))
          have N6 : Hid (v6.ownBlock ≠ some gS) := by
            have l1 := (SC.out.low gS rfl).2
            rcases loc6 with e | e
            · rw [e]; exact hne.out
            · rw [e]; exact fun h => by injection h with h; omega
          obtain ⟨g6, c6, rfl, _⟩ := id O6.out
          clear o6 grow6 loc6 OC OD BC SC UP c0
          go_wp2
          go_roundg (ss.length - (j + 1))
          case rel => exact ⟨j + 1, by omega, by go_num, O6.out, S6.out, B6.out, N6.out⟩
          case measure => omega
        · have UP := hideP (knownUp_no hlt hbm)
          obtain ⟨z, hz⟩ : ∃ z, ss[j].base = z := ⟨_, rfl⟩
          rw [hz] at c0 hbm
          go_wp2
          go_roundg (ss.length - (j + 1))
          case rel => exact ⟨j + 1, by omega, by go_num, by rw [UP.out]; exact ho.out, hs.out, hb.out, hne.out⟩
          case measure => omega
      · have hjn : j = ss.length := by omega
        subst hjn
        go_wp2
        go_ret
        exact ⟨_, rfl, by have := ho.out; rw [← HSS.out] at this; exact this, hb.out⟩
  · rw [show knownP g n = [] from if_neg hb6]
    obtain ⟨sizes, params, vars, slots, blocks⟩ := g
    obtain ⟨us, cs, ub, cb, rfl, _, _, hbs⟩ := h
    simp only at *
    have BW := hideP (below2 w (.cells #[.slice us sizes.length cs, .int .i64 params, .int .i64 vars, .int .i64 slots, .slice ub blocks.length cb] 32) (.cells #[] 3))
    have O0 : Hid (OwnI ((w.alloc (.cells #[.slice us sizes.length cs, .int .i64 params, .int .i64 vars, .int .i64 slots, .slice ub blocks.length cb] 32)).alloc (.cells #[] 3)) w.heap.size (.slice (some ⟨w.heap.size + 1, 0, none⟩) 0 0) []) := own_lit2 w (.cells #[.slice us sizes.length cs, .int .i64 params, .int .i64 vars, .int .i64 slots, .slice ub blocks.length cb] 32) [] #[] (w.heap.size + 1) 0 rfl rfl rfl (by simp)
    have Q := hideP (two (Below.refl ((w.alloc (.cells #[.slice us sizes.length cs, .int .i64 params, .int .i64 vars, .int .i64 slots, .slice ub blocks.length cb] 32)).alloc (.cells #[] 3)).heap.size _)).1
    cases gok with
    | false =>
      clear hb6 hbs hgok
      go_enter Try.func10, Try.ntmps10
      go_wp2_with fail
      refine (GO1.out _ B _ (GrKeeps.stays hG.out BW.out)).mono ?_
      rintro e1 w1 ⟨rfl, bel1⟩
      have BB := hideP (below_trans BW.out bel1)
      have O1 := hideP (O0.out.stays bel1)
      clear bel1
      go_wp2
      go_ret
      exact ⟨_, rfl, O1.out, BB.out⟩
    | true =>
      have hno : ¬ (0 ≤ n ∧ n ≤ (blocks.length : Int) - 1) := fun hh => hb6 ⟨hgok, hh.1, by simp only; omega⟩
      clear hb6 hbs hgok
      go_enter Try.func10, Try.ntmps10
      go_wp2_with fail
      refine (GO1.out _ B _ (GrKeeps.stays hG.out BW.out)).mono ?_
      rintro e1 w1 ⟨rfl, bel1⟩
      have BB := hideP (below_trans BW.out bel1)
      have O1 := hideP (O0.out.stays bel1)
      have Q1 := (bel1.block w.heap.size (Array.getElem?_eq_some_iff.1 Q.out).1).trans Q.out
      have p4 := (cells_of Q1).1 4
      simp at p4
      clear bel1 GO1 Q1 Q
      go_wp2_with (go_at_call 25; refine (l01In_any _ _ _ _).mono ?_; rintro y1 w2 ⟨rfl, hw1⟩; have hw2 := hw1.symm; clear hw1; subst hw2; rw [show inB n 0 ((blocks.length : Int) - 1) = false by simp [inB]; omega])
      go_ret
      exact ⟨_, rfl, O1.out, BB.out⟩
end Go.Proofs.Ytgiboadcfnfooab
