/- The contracts of spec.l06Ends, spec.Fresh, spec.Known. -/
import Derived.Test.YtgiboadcfnfooabHasP
import Derived.Test.YtgiboadcfnfooabSymU
import Derived.Test.YtgiboadcfnfooabInstrOkV
namespace Go.Proofs.Ytgiboadcfnfooab
open Go.ChangeShapes Go.WideShapes Go.ChangeAt Go.RowKit
theorem heldC {W W' : World} {b : Nat} {o : Obj} (h : W.heap[b]? = some o) (bel : Below W.heap.size W W') : W'.heap[b]? = some o := (bel.block b (Array.getElem?_eq_some_iff.1 h).1).trans h
structure TInv (w : World) (V : Nat) (code : List Ins) (g m cap : Nat) (wr : World) (j : Nat) : Prop where
  sym : OwnE SyE wr w.heap.size (.slice (some ⟨g, 0, none⟩) m cap) (ledP V (code.take j)).slots
  bel : Below w.heap.size w wr
  lo : w.heap.size < g
set_option maxRecDepth 100000 in
set_option maxHeartbeats 4000000 in
theorem l06Ends_any (sizes : List Int) (params vars : Int) (V : Nat) (blocks : List Blk) (i : Nat) (w : World) (B : Nat) (us : Option Addr) (cs cb : Nat) (ub : Option Addr)
    (hbs : SlIs BlkIs 5 w B ub blocks) (hi : i < blocks.length) (hV : V ≤ 1000) (hlen : (blocks[i]).code.length ≤ 1000) (hall : ∀ x ∈ (blocks[i]).code, insOk (sizes.length : Nat) (V : Nat) x = true) :
    Calls Try.prog 29 #[.agg #[.slice us sizes.length cs, .int .i64 params, .int .i64 vars, .int .i64 (V : Int), .slice ub blocks.length cb], .int .i64 (i : Int)] w fun en w' => ∃ v', en = .returned (.tuple #[v', .int .i64 ((ledP V (blocks[i]).code).fresh : Int)]) ∧ OwnE SyE w' w.heap.size v' (ledP V (blocks[i]).code).slots ∧ Below w.heap.size w w' := by
  obtain ⟨bb, oo, u, k, rfl, hbb, hcell, hcode⟩ := code_of hbs i hi
  have hl := hcode.1
  have hlb := hbs.1
  have hm := maxLen_lt
  have HC := hideP hcode
  have HALL : Hid (∀ x ∈ (blocks[i]).code, insOk (sizes.length : Nat) (V : Nat) x = true ∧ I64 x.n) := fun x hx => ⟨hall x hx, ins_i64 hcode x hx⟩
  have BW := hideP ((Below.refl w.heap.size w).alloc (Nat.le_refl _) (.cells #[.slice us sizes.length cs, .int .i64 params, .int .i64 vars, .int .i64 (V : Int), .slice (some ⟨bb, oo, none⟩) blocks.length cb] 32))
  have Q := hideP (heap_alloc_new w (.cells #[.slice us sizes.length cs, .int .i64 params, .int .i64 vars, .int .i64 (V : Int), .slice (some ⟨bb, oo, none⟩) blocks.length cb] 32))
  clear hbs hcode hall
  obtain ⟨code, hcd⟩ : ∃ code, (blocks[i]).code = code := ⟨_, rfl⟩
  rw [hcd] at HALL HC hcell hlen hl ⊢
  clear hcd
  go_enter Try.func29, Try.ntmps29
  go_wp2_with fail
  refine (l06Start_any V _ hV).mono ?_
  rintro e2 w2 ⟨v2, rfl, o2, bel2⟩
  obtain ⟨gS, capS, rfl, _⟩ := id o2
  have hls : (ledStart V).slots.length = V := by simp [ledStart]
  rw [hls] at o2 ⊢
  have hlo := (o2.low gS rfl).1
  simp at hlo
  have IV : Hid (TInv w V code gS V capS w2 0) := ⟨by simpa [ledP] using o2.mono (by simp), below_trans BW.out bel2, by omega⟩
  replace BW := hideP (below_trans BW.out bel2)
  replace Q := hideP (heldC Q.out bel2)
  have hc2 := (BW.out.cell (p := ⟨bb, oo + i * 5, none⟩) hbb).trans hcell
  have q3 := (cells_of Q.out).1 3
  have q4 := (cells_of Q.out).1 4
  simp at q3 q4
  have F0 : Hid ((ledP V (code.take 0)).fresh = 0) := by show _ = _; simp [ledP, ledStart]
  clear bel2 o2
  go_wp2
  clear q3 q4 hc2
  go_loopg [7, 9] code.length (fun gk fr ix wr => ∃ j : Nat, gk + j = code.length ∧ ix = .int .i64 j ∧ fr = .int .i64 ((V + (ledP V (code.take j)).fresh : Nat) : Int) ∧ Hid (TInv w V code gS V capS wr j) ∧ Hid (wr.heap[w.heap.size]? = some (.cells #[.slice us sizes.length cs, .int .i64 params, .int .i64 vars, .int .i64 (V : Int), .slice (some ⟨bb, oo, none⟩) blocks.length cb] 32 (0, 0))))
  case atStart => exact ⟨0, rfl, rfl, by rw [F0.out]; rfl, IV.out, Q.out⟩
  case round =>
    obtain ⟨j, hj, rfl, rfl, hv, hq⟩ := hrel
    clear IV F0 Q
    by_cases hlt : j < code.length
    · obtain ⟨b, o, op, d, a, b', c, n, t, rfl, _, hb, hx, q0, q1, q2, q3, q4, q5, q6, _⟩ := Ins_get (HC.out.stays InsKeeps hv.out.bel) j hlt
      have hok := HALL.out _ (List.getElem_mem hlt)
      rw [hx] at hok
      have LK := ledP_ok (fun x hx => HALL.out x hx) j (by omega)
      have LN := hideP (ledP_take V code j hlt)
      obtain ⟨ld, hld⟩ : ∃ ld, ledP V (code.take j) = ld := ⟨_, rfl⟩
      have SY := hideP hv.out.sym
      rw [hld] at SY LK LN ⊢
      rw [hx] at LN
      have hok1 : Hid (insOk (sizes.length : Nat) (ld.slots.length : Nat) ⟨op, d, a, b', c, n, t⟩ = true) := by show _ = _; rw [LK.1.1]; exact hok.1
      have hfr : Hid (ld.slots.length + ld.fresh ≤ 1000000) := by show _ ≤ _; rw [LK.1.1]; have := LK.2; omega
      have hlV : Hid (ld.slots.length = V) := LK.1.1
      clear hld LK hok hx
      go_wp2_with fail
      rw [← hlV.out] at SY ⊢
      refine (l06Step_any ⟨op, d, a, b', c, n, t⟩ ld (sizes.length : Nat) _ w.heap.size gS ld.slots.length capS SY.out hfr.out hok1.out).mono ?_
      rintro e7 w7 ⟨rfl, but7, sym7⟩
      rw [hlV.out] at sym7 ⊢
      have IV : Hid (TInv w V code gS V capS w7 (j + 1)) := ⟨by rw [LN.out]; exact sym7, hv.out.bel.trans (but7.below (Nat.le_of_lt hv.out.lo) hv.out.bel.size), hv.out.lo⟩
      have HQ := hideP ((but7.block w.heap.size (Array.getElem?_eq_some_iff.1 hq.out).1 (Nat.ne_of_lt hv.out.lo)).trans hq.out)
      have LF : Hid ((stepP ld ⟨op, d, a, b', c, n, t⟩).fresh = (ledP V (code.take (j + 1))).fresh) := by show _ = _; rw [LN.out]
      clear but7 sym7 q0 q1 q2 q3 q4 q5 q6 SY
      go_wp2
      go_roundg (code.length - (j + 1))
      case rel => exact ⟨j + 1, by omega, by go_num, by rw [← LF.out]; first | rfl | simp, IV.out, HQ.out⟩
      case measure => omega
    · have hjn : j = code.length := by omega
      subst hjn
      have LK := ledP_ok (fun x hx => HALL.out x hx) code.length (Nat.le_refl _)
      rw [List.take_length] at LK
      have SY := hideP hv.out.sym
      rw [List.take_length] at SY
      rw [List.take_length]
      have q3 := (cells_of hq.out).1 3
      simp at q3
      have hfb := LK.2
      have hlV : Hid ((ledP V code).slots.length = V) := LK.1.1
      obtain ⟨F, hF⟩ : ∃ F, (ledP V code).fresh = F := ⟨_, rfl⟩
      rw [hF] at hfb ⊢
      clear LK
      go_wp2
      go_region
      all_goals go_wp2
      all_goals (try simp only [Exit.inBlock, Exit.then])
      all_goals refine bodyPost_ret (results_tmp2 rfl _ _ _) rfl ?_
      all_goals refine ⟨.slice (some ⟨gS, 0, none⟩) V capS, ?_, SY.out, hv.out.bel.drew⟩
      all_goals (simp [hF]; try omega)
set_option maxRecDepth 100000 in
set_option maxHeartbeats 4000000 in
theorem spec_fresh (g : Gr) (n : Int) (w : World) (B : Nat) (v : Array Value) (h : GrIs w B v g) (GO : OkIs 28 g) :
    Calls Try.prog 18 #[.agg v, .int .i64 n] w fun en w' => en = .returned (.int .i64 (freshP g n)) ∧ Below w.heap.size w w' := by
  have hG := hideP h
  have HGO := hideP GO
  clear GO
  obtain ⟨gok, hgok⟩ : ∃ r, grOk g = r := ⟨_, rfl⟩
  have GO1 : Hid (∀ W A v, GrIs W A v g → Calls Try.prog 28 #[.agg v] W fun en w' => en = .returned (.bool gok) ∧ Below W.heap.size W w') := fun W A v hv => hgok ▸ HGO.out W A v hv
  clear HGO
  have hl0 : g.blocks.length ≤ maxLen := by obtain ⟨_, _, _, _, _, _, _, hb⟩ := h; exact hb.1
  have hm := maxLen_lt
  by_cases hb6 : hasB6 g n
  · rw [show freshP g n = ((ledP g.slots.toNat (codeAt g n)).fresh : Int) from if_pos hb6]
    obtain rfl : gok = true := hgok.symm.trans hb6.1
    obtain ⟨i, V, rfl, hV, hV1, hi, hce, hcl, hall⟩ := hasB6_ok hb6
    rw [hce, hV]
    obtain ⟨sizes, params, vars, slots, blocks⟩ := g
    obtain ⟨us, cs, ub, cb, rfl, _, _, hbs⟩ := h
    simp only at *
    subst hV
    have HBS := hideP hbs
    have HALL := hideP hall
    have BW := hideP ((Below.refl w.heap.size w).alloc (Nat.le_refl _) (.cells #[.slice us sizes.length cs, .int .i64 params, .int .i64 vars, .int .i64 (V : Int), .slice ub blocks.length cb] 32))
    have Q := hideP (heap_alloc_new w (.cells #[.slice us sizes.length cs, .int .i64 params, .int .i64 vars, .int .i64 (V : Int), .slice ub blocks.length cb] 32))
    clear hce hb6 hall hbs hgok
    go_enter Try.func18, Try.ntmps18
    go_wp2_with fail
    refine (GO1.out _ B _ (GrKeeps.stays hG.out BW.out)).mono ?_
    rintro e1 w1 ⟨rfl, bel1⟩
    have BB := hideP (below_trans BW.out bel1)
    have Q1 := (bel1.block w.heap.size (Array.getElem?_eq_some_iff.1 Q.out).1).trans Q.out
    have p := (cells_of Q1).1
    have p0 := p 0
    have p1 := p 1
    have p2 := p 2
    have p3 := p 3
    have p4 := p 4
    simp at p0 p1 p2 p3 p4
    clear bel1 p Q1 Q GO1
    go_wp2_with fail
    refine (l01In_any _ _ _ _).mono ?_
    rintro y1 w3 ⟨rfl, hw1⟩
    have hw2 := hw1.symm
    clear hw1
    subst hw2
    have hi2 : i < blocks.length := hi
    rw [show inB (i : Int) 0 ((blocks.length : Int) - 1) = true by simp [inB]; omega]
    go_wp2_with fail
    refine (l06Ends_any sizes params vars V blocks i _ B us cs cb ub (HBS.out.stays BlkKeeps BB.out) hi hV1 hcl HALL.out).mono ?_
    rintro e2 w2 ⟨v2, rfl, _, bel2⟩
    have B2 := hideP (below_trans BB.out bel2)
    clear bel2 p0 p1 p2 p3 p4
    go_wp2
    go_ret
    exact ⟨rfl, B2.out⟩
  · rw [show freshP g n = -1 from if_neg hb6]
    obtain ⟨sizes, params, vars, slots, blocks⟩ := g
    obtain ⟨us, cs, ub, cb, rfl, _, _, hbs⟩ := h
    simp only at *
    have BW := hideP ((Below.refl w.heap.size w).alloc (Nat.le_refl _) (.cells #[.slice us sizes.length cs, .int .i64 params, .int .i64 vars, .int .i64 slots, .slice ub blocks.length cb] 32))
    have Q := hideP (heap_alloc_new w (.cells #[.slice us sizes.length cs, .int .i64 params, .int .i64 vars, .int .i64 slots, .slice ub blocks.length cb] 32))
    cases gok with
    | false =>
      clear hb6 hbs hgok
      go_enter Try.func18, Try.ntmps18
      go_wp2_with fail
      refine (GO1.out _ B _ (GrKeeps.stays hG.out BW.out)).mono ?_
      rintro e1 w1 ⟨rfl, bel1⟩
      have BB := hideP (below_trans BW.out bel1)
      clear bel1
      go_wp2
      go_ret
      exact ⟨rfl, BB.out⟩
    | true =>
      have hno : ¬ (0 ≤ n ∧ n ≤ (blocks.length : Int) - 1) := fun hh => hb6 ⟨hgok, hh.1, by simp only; omega⟩
      clear hb6 hbs hgok
      go_enter Try.func18, Try.ntmps18
      go_wp2_with fail
      refine (GO1.out _ B _ (GrKeeps.stays hG.out BW.out)).mono ?_
      rintro e1 w1 ⟨rfl, bel1⟩
      have BB := hideP (below_trans BW.out bel1)
      have Q1 := (bel1.block w.heap.size (Array.getElem?_eq_some_iff.1 Q.out).1).trans Q.out
      have p4 := (cells_of Q1).1 4
      simp at p4
      clear bel1 GO1 Q1 Q
      go_wp2_with (go_at_call 25; refine (l01In_any _ _ _ _).mono ?_; rintro y1 w2 ⟨rfl, hw1⟩; have hw2 := hw1.symm; clear hw1; subst hw2; rw [show inB n 0 ((blocks.length : Int) - 1) = false by simp [inB]; omega])
      go_ret
      exact ⟨rfl, BB.out⟩
end Go.Proofs.Ytgiboadcfnfooab
