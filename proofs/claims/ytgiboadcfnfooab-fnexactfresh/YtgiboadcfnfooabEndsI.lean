/- The contracts of impl.ledgerBehind, impl.Fresh, (*ledger).known and impl.Known. -/
import Derived.Test.YtgiboadcfnfooabHasI
import Derived.Test.YtgiboadcfnfooabPlcI
namespace Go.Proofs.Ytgiboadcfnfooab
open Go.ChangeShapes Go.WideShapes Go.ChangeAt Go.RowKit
structure EInv (w : World) (V : Nat) (code : List Ins) (L S : Nat) (wr : World) (j : Nat) : Prop where
  led : LedIs wr L S (ledP V (code.take j))
  bel : Below w.heap.size w wr
  hL : w.heap.size ≤ L
  hS : w.heap.size ≤ S
set_option maxRecDepth 100000 in
set_option maxHeartbeats 4000000 in
theorem ledgerBehind_any (sizes : List Int) (params vars : Int) (V : Nat) (blocks : List Blk) (i : Nat) (w : World) (B : Nat) (us : Option Addr) (cs cb : Nat) (ub : Option Addr)
    (hbs : SlIs BlkIs 5 w B ub blocks) (hi : i < blocks.length) (ok : CodeOk (sizes.length : Nat) V (blocks[i]).code) :
    Calls Try.prog 33 #[.agg #[.slice us sizes.length cs, .int .i64 params, .int .i64 vars, .int .i64 (V : Int), .slice ub blocks.length cb], .int .i64 (i : Int)] w fun en w' => ∃ L S, en = .returned (.pointer (some ⟨L, 0, none⟩)) ∧ LedIs w' L S (ledP V (blocks[i]).code) ∧ Below w.heap.size w w' := by
  obtain ⟨bb, oo, u, k, rfl, hbb, hcell, hcode⟩ := code_of hbs i hi
  have hl := hcode.1
  have hlb := hbs.1
  have hm := maxLen_lt
  obtain ⟨hlen, hV, hall⟩ := ok
  have HC := hideP hcode
  have HALL := hideP hall
  have BW := hideP ((Below.refl w.heap.size w).alloc (Nat.le_refl _) (.cells #[.slice us sizes.length cs, .int .i64 params, .int .i64 vars, .int .i64 (V : Int), .slice (some ⟨bb, oo, none⟩) blocks.length cb] 32))
  have Q := hideP (heap_alloc_new w (.cells #[.slice us sizes.length cs, .int .i64 params, .int .i64 vars, .int .i64 (V : Int), .slice (some ⟨bb, oo, none⟩) blocks.length cb] 32))
  clear hbs hcode hall
  obtain ⟨code, hcd⟩ : ∃ code, (blocks[i]).code = code := ⟨_, rfl⟩
  rw [hcd] at HALL HC hcell hlen hl ⊢
  clear hcd
  go_enter Try.func33, Try.ntmps33
  go_wp2_with fail
  refine (newLedger_any V _ hV).mono ?_
  rintro e1 w1 ⟨L, S, rfl, led, hL, hS, bel1⟩
  have IV : Hid (EInv w V code L S w1 0) := by
    simp at hL hS
    exact ⟨by simpa [ledP] using led, below_trans BW.out bel1, by omega, by omega⟩
  have Q1 := (bel1.block w.heap.size (Array.getElem?_eq_some_iff.1 Q.out).1).trans Q.out
  have hc1 := ((below_trans BW.out bel1).cell (p := ⟨bb, oo + i * 5, none⟩) hbb).trans hcell
  have p4 := (cells_of Q1).1 4
  simp at p4
  clear led hL hS bel1 Q1 Q BW
  go_wp2
  clear p4 hc1
  go_loopg [18] code.length (fun gk ix wr => ∃ j : Nat, gk + j = code.length ∧ ix = .int .i64 j ∧ Hid (EInv w V code L S wr j))
  case atStart => exact ⟨0, rfl, rfl, IV.out⟩
  case round =>
    obtain ⟨j, hj, rfl, hv⟩ := hrel
    clear IV
    by_cases hlt : j < code.length
    · obtain ⟨b, o, op, d, a, b', c, n, t, rfl, _, hb, hx, q0, q1, q2, q3, q4, q5, q6, _⟩ := Ins_get (HC.out.stays InsKeeps hv.out.bel) j hlt
      have HX : Hid (code[j] = ⟨op, d, a, b', c, n, t⟩) := hx
      have hok := HALL.out _ (List.getElem_mem hlt)
      rw [hx] at hok
      have LK := ledP_ok (fun x hx => HALL.out x hx) j (by omega)
      have al := (Below.refl wr.heap.size wr).alloc (Nat.le_refl _) (.cells #[.int .i64 op, .int .i64 d, .int .i64 a, .int .i64 b', .int .i64 c, .int .i64 n, .string t] 66)
      have LD := hideP (hv.out.led.stays al)
      have BA := hideP (below_trans hv.out.bel al)
      have hLS : Hid (w.heap.size ≤ L ∧ w.heap.size ≤ S) := ⟨hv.out.hL, hv.out.hS⟩
      obtain ⟨ld, hld⟩ : ∃ ld, ledP V (code.take j) = ld := ⟨_, rfl⟩
      rw [hld] at LD LK
      have HLD := hideP hld
      have hok1 : Hid (insOk (sizes.length : Nat) (ld.slots.length : Nat) ⟨op, d, a, b', c, n, t⟩ = true) := by show _ = _; rw [LK.1.1]; exact hok.1
      have hfr : Hid (ld.slots.length + ld.fresh ≤ 1000000) := by show _ ≤ _; rw [LK.1.1]; have := LK.2; omega
      clear hld LK hok al hx
      go_wp2_with fail
      refine (step_any _ L S ld ⟨op, d, a, b', c, n, t⟩ (sizes.length : Nat) LD.out hfr.out hok1.out).mono ?_
      rintro e7 w7 ⟨rfl, but7, led7⟩
      have IV : Hid (EInv w V code L S w7 (j + 1)) := by
        refine ⟨?_, BA.out.trans (but7.below hLS.out.1 hLS.out.2 BA.out.size), hLS.out.1, hLS.out.2⟩
        rw [ledP_take V code j hlt, HLD.out, HX.out]; exact led7
      clear but7 led7 q0 q1 q2 q3 q4 q5 q6 LD BA
      go_wp2
      go_roundg (code.length - (j + 1))
      case rel => exact ⟨j + 1, by omega, by go_num, IV.out⟩
      case measure => omega
    · have hjn : j = code.length := by omega
      subst hjn
      go_wp2
      go_ret
      exact ⟨L, S, rfl, by have := hv.out.led; rwa [List.take_length] at this, hv.out.bel⟩
set_option maxRecDepth 100000 in
set_option maxHeartbeats 4000000 in
theorem impl_fresh (g : Gr) (n : Int) (w : World) (B : Nat) (v : Array Value) (h : GrIs w B v g) (GO : OkIs 49 g) :
    Calls Try.prog 19 #[.agg v, .int .i64 n] w fun en w' => en = .returned (.int .i64 (freshP g n)) ∧ Below w.heap.size w w' := by
  have hG := hideP h
  have HB1 : Hid (∀ W A v, GrIs W A v g → Calls Try.prog 32 #[.agg v, .int .i64 n] W fun en w' => en = .returned (.bool (decide (hasB6 g n))) ∧ Below W.heap.size W w') := fun W A v hv => hasBlock_any g n W A v hv GO
  clear GO
  by_cases hb6 : hasB6 g n
  · rw [show freshP g n = ((ledP g.slots.toNat (codeAt g n)).fresh : Int) from if_pos hb6]
    rw [decide_eq_true hb6] at HB1
    obtain ⟨i, V, rfl, hV, hV1, hi, hce, hcl, hall⟩ := hasB6_ok hb6
    rw [hce, hV]
    obtain ⟨sizes, params, vars, slots, blocks⟩ := g
    obtain ⟨us, cs, ub, cb, rfl, _, _, hbs⟩ := h
    simp only at *
    subst hV
    have CO : Hid (CodeOk (sizes.length : Nat) V (blocks[i]).code) := by
      obtain ⟨_, _, _, _, _, _, _, hcode⟩ := code_of hbs i hi
      exact ⟨hcl, hV1, fun x hx => ⟨hall x hx, ins_i64 hcode x hx⟩⟩
    have HBS := hideP hbs
    have BW := hideP ((Below.refl w.heap.size w).alloc (Nat.le_refl _) (.cells #[.slice us sizes.length cs, .int .i64 params, .int .i64 vars, .int .i64 (V : Int), .slice ub blocks.length cb] 32))
    have Q := hideP (heap_alloc_new w (.cells #[.slice us sizes.length cs, .int .i64 params, .int .i64 vars, .int .i64 (V : Int), .slice ub blocks.length cb] 32))
    clear hce hb6 hall hbs
    go_enter Try.func19, Try.ntmps19
    go_wp2_with fail
    refine (HB1.out _ B _ (GrKeeps.stays hG.out BW.out)).mono ?_
    rintro e1 w1 ⟨rfl, bel1⟩
    have BB := hideP (below_trans BW.out bel1)
    have Q1 := (bel1.block w.heap.size (Array.getElem?_eq_some_iff.1 Q.out).1).trans Q.out
    have p := (cells_of Q1).1
    have p0 := p 0
    have p1 := p 1
    have p2 := p 2
    have p3 := p 3
    have p4 := p 4
    simp at p0 p1 p2 p3 p4
    clear bel1 p Q1 Q HB1
    go_wp2_with fail
    refine (ledgerBehind_any sizes params vars V blocks i _ B us cs cb ub (HBS.out.stays BlkKeeps BB.out) hi CO.out).mono ?_
    rintro e2 w2 ⟨L, S, rfl, led, bel2⟩
    have h1 := led.head.2.1
    have B2 := hideP (below_trans BB.out bel2)
    clear led bel2 p0 p1 p2 p3 p4
    go_wp2
    go_ret
    exact ⟨rfl, B2.out⟩
  · rw [show freshP g n = -1 from if_neg hb6]
    rw [decide_eq_false hb6] at HB1
    obtain ⟨sizes, params, vars, slots, blocks⟩ := g
    obtain ⟨us, cs, ub, cb, rfl, _, _, hbs⟩ := h
    simp only at *
    have BW := hideP ((Below.refl w.heap.size w).alloc (Nat.le_refl _) (.cells #[.slice us sizes.length cs, .int .i64 params, .int .i64 vars, .int .i64 slots, .slice ub blocks.length cb] 32))
    clear hbs hb6
    go_enter Try.func19, Try.ntmps19
    go_wp2_with fail
    refine (HB1.out _ B _ (GrKeeps.stays hG.out BW.out)).mono ?_
    rintro e1 w1 ⟨rfl, bel1⟩
    have BB := hideP (below_trans BW.out bel1)
    clear bel1
    go_wp2
    go_ret
    exact ⟨rfl, BB.out⟩
attribute [local go_sem] as_ff as_fd as_df as_dd
set_option maxRecDepth 100000 in
set_option maxHeartbeats 4000000 in
theorem known_any (w : World) (L S : Nat) (l : Led) (h : LedIs w L S l) (hlen : l.slots.length ≤ 1000) :
    Calls Try.prog 34 #[.pointer (some ⟨L, 0, none⟩)] w fun en w' => ∃ v', en = .returned v' ∧ OwnI w' w.heap.size v' (knownUp l.slots l.slots.length) ∧ Below w.heap.size w w' := by
  have HL := hideP h
  have O0 : Hid (OwnI (w.alloc (.cells #[] 3)) w.heap.size (.slice (some ⟨w.heap.size, 0, none⟩) 0 0) []) := own_lit w [] #[] w.heap.size 0 rfl rfl rfl (by simp)
  have B0 := hideP ((Below.refl w.heap.size w).alloc (Nat.le_refl _) (.cells #[] 3))
  have hd := h.head.1
  have hLt := h.lt.1
  clear h
  go_enter Try.func34, Try.ntmps34
  go_wp2
  clear hd
  go_loopg [3, 12] l.slots.length (fun gk o ix wr => ∃ j : Nat, gk + j = l.slots.length ∧ ix = .int .i64 j ∧ Hid (OwnI wr w.heap.size o (knownUp l.slots j)) ∧ Hid (Below w.heap.size w wr))
  case atStart => exact ⟨0, rfl, rfl, O0.out, B0.out⟩
  case round =>
    obtain ⟨j, hj, rfl, ho, hb⟩ := hrel
    clear O0 B0
    by_cases hlt : j < l.slots.length
    · have hc := (HL.out.stays hb.out).2.2.at j hlt
      obtain ⟨⟨b, of⟩, hs⟩ : ∃ s, l.slots[j] = s := ⟨_, rfl⟩
      rw [hs] at hc
      by_cases hbm : b = -1
      · subst hbm
        rw [symV_fig] at hc
        have UP := hideP (knownUp_yes hlt (by rw [hs]))
        have hle := knownUp_len l.slots j
        obtain ⟨gO, cO, rfl, _⟩ := id ho.out
        have al := (Below.refl wr.heap.size wr).alloc (Nat.le_refl _) (.cells #[.int .i64 (j : Int)] 3)
        have OC := hideP (ho.out.stays al)
        have OD := hideP (own_lit wr [(j : Int)] #[.int .i64 (j : Int)] wr.heap.size 1 rfl rfl rfl (by simp))
        have BC := hideP (below_trans hb.out al)
        clear al hs
        go_upto_region 8 with (at_builtin; refine list_appI _ rfl _ _ rfl w.heap.size _ (knownUp l.slots j) [(j : Int)] wr.heap.size 0 1 1 rfl rfl rfl OC.out OD.out.at (by simp; omega) BC.out.size ?_; intro v6 w6 o6 grow6 loc6)
        replace grow6 : World.grownBy _ w6 ((Value.slice (some ⟨gO, 0, none⟩) (knownUp l.slots j).length cO).ownBlock) := grow6
        rw [← UP.out] at o6
        have O6 := hideP o6
        have B6 := hideP (BC.out.grown grow6 BC.out.size (fun b' hb' => (OC.out.low b' hb').1))
        obtain ⟨g6, c6, rfl, _⟩ := id O6.out
        clear o6 grow6 loc6 OC OD BC UP hc
        go_wp2
        go_roundg (l.slots.length - (j + 1))
        case rel => exact ⟨j + 1, by omega, by go_num, O6.out, B6.out⟩
        case measure => omega
      · rw [symV_dist hbm] at hc
        have UP := hideP (knownUp_no hlt (by rw [hs]; exact hbm))
        clear hs
        go_wp2
        go_roundg (l.slots.length - (j + 1))
        case rel => exact ⟨j + 1, by omega, by go_num, by rw [UP.out]; exact ho.out, hb.out⟩
        case measure => omega
    · have hjn : j = l.slots.length := by omega
      subst hjn
      go_wp2
      go_ret
      exact ⟨_, rfl, ho.out, hb.out⟩
end Go.Proofs.Ytgiboadcfnfooab
