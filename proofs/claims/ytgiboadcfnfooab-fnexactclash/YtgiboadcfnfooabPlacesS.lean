/- The contract of spec.Places. -/
import Derived.Test.YtgiboadcfnfooabHasP
import Derived.Test.YtgiboadcfnfooabOwnPl
import Derived.Test.YtgiboadcfnfooabSymU
import Derived.Test.YtgiboadcfnfooabInstrOkV
namespace Go.Proofs.Ytgiboadcfnfooab
open Go.ChangeShapes Go.WideShapes Go.ChangeAt Go.RowKit
/-- Between two rounds of the specification's Places. -/
structure SInv (w : World) (V : Nat) (code : List Ins) (g m cap : Nat) (wr : World) (o : Value) (j : Nat) : Prop where
  own : OwnE PlE wr w.heap.size o (placesUp V code j)
  sym : OwnE SyE wr w.heap.size (.slice (some ⟨g, 0, none⟩) m cap) (ledP V (code.take j)).slots
  bel : Below w.heap.size w wr
  ne : o.ownBlock ≠ some g
theorem heldB {W W' : World} {b : Nat} {o : Obj} (h : W.heap[b]? = some o) (bel : Below W.heap.size W W') : W'.heap[b]? = some o := (bel.block b (Array.getElem?_eq_some_iff.1 h).1).trans h
set_option maxRecDepth 100000 in
set_option maxHeartbeats 8000000 in
theorem spec_places (g : Gr) (n : Int) (w : World) (B : Nat) (v : Array Value) (h : GrIs w B v g) (GO : OkIs 28 g) :
    Calls Try.prog 37 #[.agg v, .int .i64 n] w fun en w' => ∃ v', en = .returned v' ∧ OwnE PlE w' w.heap.size v' (placesP g n) ∧ Below w.heap.size w w' := by
  have hG := hideP h
  have HGO := hideP GO
  clear GO
  obtain ⟨gok, hgok⟩ : ∃ r, grOk g = r := ⟨_, rfl⟩
  have GO1 : Hid (∀ W A v, GrIs W A v g → Calls Try.prog 28 #[.agg v] W fun en w' => en = .returned (.bool gok) ∧ Below W.heap.size W w') := fun W A v hv => hgok ▸ HGO.out W A v hv
  clear HGO
  have hl0 : g.blocks.length ≤ maxLen := by obtain ⟨_, _, _, _, _, _, _, hb⟩ := h; exact hb.1
  have hm := maxLen_lt
  by_cases hb6 : hasB6 g n
  · rw [show placesP g n = placesUp g.slots.toNat (codeAt g n) (codeAt g n).length from if_pos hb6]
    obtain rfl : gok = true := hgok.symm.trans hb6.1
    obtain ⟨i, V, rfl, hV, hV1, hi, hce, hcl, hall⟩ := hasB6_ok hb6
    rw [hce, hV]
    obtain ⟨sizes, params, vars, slots, blocks⟩ := g
    obtain ⟨us, cs, ub, cb, rfl, _, _, hbs⟩ := h
    simp only at *
    subst hV
    obtain ⟨bb, oo, u, k, rfl, hbb, hcell, hcode⟩ := code_of hbs i hi
    have hl := hcode.1
    have HALL : Hid (∀ x ∈ (blocks[i]).code, insOk (sizes.length : Nat) (V : Nat) x = true ∧ I64 x.n) := fun x hx => ⟨hall x hx, ins_i64 hcode x hx⟩
    have HC := hideP hcode
    have BW := hideP (below2 w (.cells #[.slice us sizes.length cs, .int .i64 params, .int .i64 vars, .int .i64 (V : Int), .slice (some ⟨bb, oo, none⟩) blocks.length cb] 32) (.cells #[] 71))
    have Q := hideP (two (Below.refl ((w.alloc (.cells #[.slice us sizes.length cs, .int .i64 params, .int .i64 vars, .int .i64 (V : Int), .slice (some ⟨bb, oo, none⟩) blocks.length cb] 32)).alloc (.cells #[] 71)).heap.size _)).1
    have O0 : Hid (OwnE PlE ((w.alloc (.cells #[.slice us sizes.length cs, .int .i64 params, .int .i64 vars, .int .i64 (V : Int), .slice (some ⟨bb, oo, none⟩) blocks.length cb] 32)).alloc (.cells #[] 71)) w.heap.size (.slice (some ⟨w.heap.size + 1, 0, none⟩) 0 0) []) := (own_nil PlOk (w.alloc (.cells #[.slice us sizes.length cs, .int .i64 params, .int .i64 vars, .int .i64 (V : Int), .slice (some ⟨bb, oo, none⟩) blocks.length cb] 32)) (w.heap.size + 1) (by simp)).mono (by simp)
    clear hce hb6 hall hbs hcode hgok
    obtain ⟨code, hcd⟩ : ∃ code, (blocks[i]).code = code := ⟨_, rfl⟩
    rw [hcd] at HALL HC hcell hcl hl ⊢
    clear hcd
    go_enter Try.func37, Try.ntmps37
    go_wp2_with fail
    refine (GO1.out _ B _ (GrKeeps.stays hG.out BW.out)).mono ?_
    rintro e1 w1 ⟨rfl, bel1⟩
    replace BW := hideP (below_trans BW.out bel1)
    replace Q := hideP (heldB Q.out bel1)
    replace O0 := hideP (O0.out.stays bel1)
    have p3 := (cells_of Q.out).1 3
    have p4 := (cells_of Q.out).1 4
    simp at p3 p4
    clear bel1 GO1
    go_wp2_with (first | (go_at_call 25; refine (l01In_any _ _ _ _).mono ?_; rintro y1 w2 ⟨rfl, hw1⟩; have hw2 := hw1.symm; clear hw1; subst hw2; rw [show inB (i : Int) 0 ((blocks.length : Int) - 1) = true by simp [inB]; omega]) | fail)
    refine (l06Start_any V _ hV1).mono ?_
    rintro e2 w2 ⟨v2, rfl, o2, bel2⟩
    obtain ⟨gS, capS, rfl, _⟩ := id o2
    have hls : (ledStart V).slots.length = V := by simp [ledStart]
    rw [hls] at o2 ⊢
    have IV : Hid (SInv w V code gS V capS w2 (.slice (some ⟨w.heap.size + 1, 0, none⟩) 0 0) 0) := by
      have l1 := (O0.out.low (w.heap.size + 1) rfl).2
      have l2 := (o2.low gS rfl).1
      exact ⟨O0.out.stays bel2, by simpa [ledP] using o2.mono BW.out.size, below_trans BW.out bel2, by simp [Value.ownBlock]; omega⟩
    replace BW := hideP (below_trans BW.out bel2)
    replace Q := hideP (heldB Q.out bel2)
    have hc2 := (BW.out.cell (p := ⟨bb, oo + i * 5, none⟩) hbb).trans hcell
    have q3 := (cells_of Q.out).1 3
    have q4 := (cells_of Q.out).1 4
    simp at q3 q4
    have F0 : Hid ((ledP V (code.take 0)).fresh = 0) := by show _ = _; simp [ledP, ledStart]
    clear bel2 o2 O0 p3 p4
    go_wp2
    clear q3 q4 hc2
    go_loopg [5, 7, 9] code.length (fun gk o fr ix wr => ∃ j : Nat, gk + j = code.length ∧ ix = .int .i64 j ∧ fr = .int .i64 ((V + (ledP V (code.take j)).fresh : Nat) : Int) ∧ Hid (SInv w V code gS V capS wr o j))
    case atStart => exact ⟨0, rfl, rfl, by rw [F0.out]; rfl, IV.out⟩
    case round =>
      obtain ⟨j, hj, rfl, rfl, hv⟩ := hrel
      clear IV F0
      by_cases hlt : j < code.length
      · obtain ⟨b, o, op, d, a, b', c, n, t, rfl, _, hb, hx, q0, q1, q2, q3, q4, q5, q6, _⟩ := Ins_get (HC.out.stays InsKeeps hv.out.bel) j hlt
        obtain ⟨gO, cO, rfl, _⟩ := id hv.out.own
        have HX : Hid (code[j] = ⟨op, d, a, b', c, n, t⟩) := hx
        have hok := HALL.out _ (List.getElem_mem hlt)
        rw [hx] at hok
        have LK := ledP_ok (fun x hx => HALL.out x hx) j (by omega)
        have UP0 := hideP (placesUp_at V hlt)
        have hpl := placesUp_len V code j (by omega)
        have LN := hideP (ledP_take V code j hlt)
        obtain ⟨ld, hld⟩ : ∃ ld, ledP V (code.take j) = ld := ⟨_, rfl⟩
        have SY := hideP hv.out.sym
        rw [hld] at SY LK UP0 LN ⊢
        rw [hx] at UP0 LN
        have hok1 : Hid (insOk (sizes.length : Nat) (ld.slots.length : Nat) ⟨op, d, a, b', c, n, t⟩ = true) := by show _ = _; rw [LK.1.1]; exact hok.1
        have hfr : Hid (ld.slots.length + ld.fresh ≤ 1000000) := by show _ ≤ _; rw [LK.1.1]; have := LK.2; omega
        have hlV : Hid (ld.slots.length = V) := LK.1.1
        clear hld LK hok hx
        go_wp2_with fail
        refine (l06Place_any ⟨op, d, a, b', c, n, t⟩ ld (sizes.length : Nat) _ w.heap.size gS V capS SY.out hok1.out).mono ?_
        rintro e3 w3 ⟨rfl, bel3⟩
        obtain ⟨p, hp⟩ : ∃ p, placeP ld ⟨op, d, a, b', c, n, t⟩ = p := ⟨_, rfl⟩
        rw [hp] at UP0 ⊢
        clear hp
        obtain ⟨pr, pi, pj, po⟩ := p
        simp only [plW]
        replace SY := hideP (SY.out.stays bel3)
        have OA := hideP (hv.out.own.stays bel3)
        have BA := hideP (below_trans hv.out.bel bel3)
        clear bel3 q0 q1 q2 q3 q4 q5 q6
        have al := (Below.refl w3.heap.size w3).alloc (Nat.le_refl _) (.cells #[.int .i64 pr, .int .i64 pi, .int .i64 pj, .int .i64 po] 71)
        have CQ : Hid (∀ r, r < PlE.sz → (w3.alloc (.cells #[.int .i64 pr, .int .i64 pi, .int .i64 pj, .int .i64 po] 71)).cell? ⟨w3.heap.size, 0 + r, none⟩ = (PlE.cs ⟨pr, pi, pj, po⟩)[r]?) := fun r _ => by
          have := (cells_of (heap_alloc_new w3 (.cells #[.int .i64 pr, .int .i64 pi, .int .i64 pj, .int .i64 po] 71))).1 r
          rw [Nat.zero_add, this]; simp [PlE]
        replace SY := hideP (SY.out.stays al)
        replace OA := hideP (OA.out.stays al)
        replace BA := hideP (below_trans BA.out al)
        clear al
        have hne := hideP hv.out.ne
        go_upto_region 11 with (at_builtin; refine list_appE PlOk _ rfl _ _ rfl w.heap.size _ (placesUp V code j) ⟨pr, pi, pj, po⟩ w3.heap.size 0 1 rfl rfl OA.out CQ.out (by omega) BA.out.size ?_; intro v6 w6 o6 grow6 loc6)
        replace grow6 : World.grownBy _ w6 ((Value.slice (some ⟨gO, 0, none⟩) (placesUp V code j).length cO).ownBlock) := grow6
        replace loc6 : v6.ownBlock = ((Value.slice (some ⟨gO, 0, none⟩) (placesUp V code j).length cO).ownBlock) ∨ v6.ownBlock = some (w3.alloc (.cells #[.int .i64 pr, .int .i64 pi, .int .i64 pj, .int .i64 po] 71)).heap.size := loc6
        rw [← UP0.out] at o6
        have O6 := hideP o6
        have B6 := hideP (BA.out.grown grow6 BA.out.size (fun b' hb' => (OA.out.low b' hb').1))
        have S6 := hideP (SY.out.kept grow6 (fun e => hne.out (by rw [← e]; rfl)))
        have ne6 : Hid (v6.ownBlock ≠ some gS) := by
          have l1 := (SY.out.low gS rfl).2
          rcases loc6 with e | e
          · rw [e]; exact hne.out
          · rw [e]; exact fun h => by injection h with h; omega
        clear o6 grow6 loc6 SY OA BA CQ hne
        obtain ⟨g6, c6, rfl, _⟩ := id O6.out
        obtain ⟨b2, o2, op2, d2, a2, b2', c2, n2, t2, hbe, _, hb2, hx2, q0, q1, q2, q3, q4, q5, q6, _⟩ := Ins_get (HC.out.stays InsKeeps B6.out) j hlt
        cases hbe
        obtain ⟨rfl, rfl, rfl, rfl, rfl, rfl, rfl⟩ : op2 = op ∧ d2 = d ∧ a2 = a ∧ b2' = b' ∧ c2 = c ∧ n2 = n ∧ t2 = t := by
          have := hx2.symm.trans HX.out
          injection this with h1 h2 h3 h4 h5 h6 h7
          exact ⟨h1, h2, h3, h4, h5, h6, h7⟩
        clear hx2
        go_wp2_with fail
        rw [← hlV.out] at S6 ⊢
        refine (l06Step_any ⟨op2, d2, a2, b2', c2, n2, t2⟩ ld (sizes.length : Nat) _ w.heap.size gS ld.slots.length capS S6.out hfr.out hok1.out).mono ?_
        rintro e7 w7 ⟨rfl, but7, sym7⟩
        rw [hlV.out] at sym7 ⊢
        have IV : Hid (SInv w V code gS V capS w7 (.slice (some ⟨g6, 0, none⟩) (placesUp V code (j + 1)).length c6) (j + 1)) := by
          have l1 := (S6.out.low gS rfl).1
          exact ⟨O6.out.butG but7 ne6.out, by rw [LN.out]; exact sym7, B6.out.trans (but7.below l1 B6.out.size), ne6.out⟩
        have LF : Hid ((stepP ld ⟨op2, d2, a2, b2', c2, n2, t2⟩).fresh = (ledP V (code.take (j + 1))).fresh) := by show _ = _; rw [LN.out]
        clear but7 sym7 q0 q1 q2 q3 q4 q5 q6 O6 B6 S6 ne6
        go_wp2
        go_roundg (code.length - (j + 1))
        case rel => exact ⟨j + 1, by omega, by go_num, by rw [← LF.out]; first | rfl | simp, IV.out⟩
        case measure => omega
      · have hjn : j = code.length := by omega
        subst hjn
        go_wp2
        go_ret
        exact ⟨_, rfl, hv.out.own, hv.out.bel⟩
  · rw [show placesP g n = [] from if_neg hb6]
    obtain ⟨sizes, params, vars, slots, blocks⟩ := g
    obtain ⟨us, cs, ub, cb, rfl, _, _, hbs⟩ := h
    simp only at *
    have BW := hideP (below2 w (.cells #[.slice us sizes.length cs, .int .i64 params, .int .i64 vars, .int .i64 slots, .slice ub blocks.length cb] 32) (.cells #[] 71))
    have Q := hideP (two (Below.refl ((w.alloc (.cells #[.slice us sizes.length cs, .int .i64 params, .int .i64 vars, .int .i64 slots, .slice ub blocks.length cb] 32)).alloc (.cells #[] 71)).heap.size _)).1
    have O0 : Hid (OwnE PlE ((w.alloc (.cells #[.slice us sizes.length cs, .int .i64 params, .int .i64 vars, .int .i64 slots, .slice ub blocks.length cb] 32)).alloc (.cells #[] 71)) w.heap.size (.slice (some ⟨w.heap.size + 1, 0, none⟩) 0 0) []) := (own_nil PlOk (w.alloc (.cells #[.slice us sizes.length cs, .int .i64 params, .int .i64 vars, .int .i64 slots, .slice ub blocks.length cb] 32)) (w.heap.size + 1) (by simp)).mono (by simp)
    cases gok with
    | false =>
      clear hb6 hbs hgok
      go_enter Try.func37, Try.ntmps37
      go_wp2_with fail
      refine (GO1.out _ B _ (GrKeeps.stays hG.out BW.out)).mono ?_
      rintro e1 w1 ⟨rfl, bel1⟩
      replace BW := hideP (below_trans BW.out bel1)
      replace O0 := hideP (O0.out.stays bel1)
      clear bel1
      go_wp2
      go_ret
      exact ⟨_, rfl, O0.out, BW.out⟩
    | true =>
      have hno : ¬ (0 ≤ n ∧ n ≤ (blocks.length : Int) - 1) := fun hh => hb6 ⟨hgok, hh.1, by simp only; omega⟩
      clear hb6 hbs hgok
      go_enter Try.func37, Try.ntmps37
      go_wp2_with fail
      refine (GO1.out _ B _ (GrKeeps.stays hG.out BW.out)).mono ?_
      rintro e1 w1 ⟨rfl, bel1⟩
      replace BW := hideP (below_trans BW.out bel1)
      replace Q := hideP (heldB Q.out bel1)
      replace O0 := hideP (O0.out.stays bel1)
      have p4 := (cells_of Q.out).1 4
      simp at p4
      clear bel1 GO1
      go_wp2_with (go_at_call 25; refine (l01In_any _ _ _ _).mono ?_; rintro y1 w2 ⟨rfl, hw1⟩; have hw2 := hw1.symm; clear hw1; subst hw2; rw [show inB n 0 ((blocks.length : Int) - 1) = false by simp [inB]; omega])
      go_ret
      exact ⟨_, rfl, O0.out, BW.out⟩
end Go.Proofs.Ytgiboadcfnfooab
