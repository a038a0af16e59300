/- The contract of spec.Forward (written by wip/mkfwdsc.py). -/
import Derived.Test.YtljeahjcfbcbgaaFwdCQ
import Derived.Test.YtljeahjcfbcbgaaFwdSAB
import Derived.Test.YtljeahjcfbcbgaaL04All
import Derived.Test.YtljeahjcfbcbgaaOwnS
import Derived.Test.YtljeahjcfbcbgaaSymAll
import Derived.Deep.RegionHeld3
import Derived.Deep.LoopGhost
namespace Go.Proofs.Ytljeahjcfbcbgaa
open Go.ChangeShapes Go.WideShapes Go.ChangeAt Go.RowKit
theorem OwnE.sl {w : World} {B g n cap : Nat} {l : List Ins} (h : OwnE InE w B (.slice (some ⟨g, 0, none⟩) n cap) l) (hw : ∀ z ∈ l, z.wf ∧ z.t.size ≤ maxLen) (hl : l.length ≤ maxLen) : SlIs InsIs 7 w B (some ⟨g, 0, none⟩) l := by
  obtain ⟨g', cap', cur, hv, hB, hh, _, _, _, hx⟩ := h.parts InOk
  injection hv with e1
  injection e1 with e1
  injection e1 with e1
  subst e1
  refine ⟨hl, fun i => insV (l[i]!), Or.inr ⟨g, 0, rfl, hB, hltP hh, fun _ => ⟨cur, _, hh⟩, fun i hi => ⟨rfl, fun j hj => ?_⟩⟩, fun i hi => ?_⟩
  · have := hx i hi j hj
    simp only [World.cell?, hh, Nat.zero_add, getElem!_pos l i hi]
    rw [show InE.sz = 7 from rfl] at this
    refine Eq.trans this ?_
    simp [InE, insV]
  · simp only [getElem!_pos l i hi]
    exact ⟨rfl, hw _ (List.getElem_mem hi)⟩
theorem CpAt.put {base : Nat} {x : Gr} {sa : Option Addr} {kS gq cq : Nat} {rows : List BRow} {W : World} (h : CpAt base x sa kS gq cq rows W) {j : Nat} (hj : j < x.blocks.length) {gn n' kn : Nat} {code' : List Ins} (ho : SlIs InsIs 7 W base (some ⟨gn, 0, none⟩) code') (hne : gn ≠ gq) (hn : n' = code'.length) :
    ∃ rows', CpAt base { x with blocks := x.blocks.set j { x.blocks[j] with code := code' } } sa kS gq cq rows' (W.setCell ⟨gq, j * 5, none⟩ (.slice (some ⟨gn, 0, none⟩) n' kn)) := by
  subst hn
  have hjr : j < rows.length := by rw [h.len]; exact hj
  have hb : But gq W (W.setCell ⟨gq, j * 5, none⟩ (.slice (some ⟨gn, 0, none⟩) code'.length kn)) := (But.refl gq W).set _ _
  obtain ⟨h1, h2, _⟩ := h.code j hjr
  rw [getElem!_pos x.blocks j hj] at h1
  refine ⟨rows.set j (some ⟨gn, 0, none⟩, kn, { x.blocks[j] with code := code' }), ?_, ?_, h.wf, h.szs.butne h.szne hb, h.szne, fun i hi => ?_, fun i hi h0 => ?_⟩
  · have := OwnE.setR BlE_ok h.own hjr (r := 0) (by decide) (u := .slice (some ⟨gn, 0, none⟩) code'.length kn) (x' := (some ⟨gn, 0, none⟩, kn, { x.blocks[j] with code := code' })) (by rw [← h1]; rfl)
    simp only [List.length_set]
    exact this
  · rw [List.length_set, List.length_set]; exact h.len
  · rw [List.length_set] at hi
    have hib : i < x.blocks.length := by rw [← h.len]; exact hi
    rw [getElem!_pos (x.blocks.set j _) i (by rw [List.length_set]; exact hib)]
    by_cases e : j = i
    · subst e
      rw [List.getElem_set_self, List.getElem_set_self]
      refine ⟨rfl, ?_, ho.butne (fun _ b o e => by cases e; exact hne) hb⟩
      rw [h1] at h2
      exact h2
    · rw [List.getElem_set_ne e, List.getElem_set_ne e]
      obtain ⟨k1, k2, k3⟩ := h.code i hi
      rw [getElem!_pos x.blocks i hib] at k1
      exact ⟨k1, k2, k3.butne (h.cone i hi) hb⟩
  · rw [List.length_set] at hi
    by_cases e : j = i
    · subst e
      rw [List.getElem_set_self]
      intro b o e
      cases e
      exact hne
    · rw [List.getElem_set_ne e] at h0 ⊢
      exact h.cone i hi h0
theorem CpAt.gr {base : Nat} {x : Gr} {sa : Option Addr} {kS gq cq : Nat} {rows : List BRow} {W : World} (h : CpAt base x sa kS gq cq rows W) (hl : x.blocks.length ≤ maxLen) : GrIs W base #[.slice sa x.sizes.length kS, .int .i64 x.params, .int .i64 x.vars, .int .i64 x.slots, .slice (some ⟨gq, 0, none⟩) x.blocks.length cq] x := by
  refine ⟨sa, kS, _, cq, rfl, h.wf, h.szs, hl, ?_⟩
  obtain ⟨g', cap, cur, hv, hB', hh, _, _, _, hx⟩ := h.own.parts BlE_ok
  injection hv with e1
  injection e1 with e1
  injection e1 with e1
  subst e1
  have hlen := h.len
  refine ⟨fun i => (BlE.cs (rows[i]!)).toArray, Or.inr ⟨gq, 0, rfl, hB', hltH hh, fun _ => ⟨cur, _, hh⟩, fun i hi => ⟨rfl, fun j hj => ?_⟩⟩, fun i hi => ?_⟩
  · have := hx i (by omega) j hj
    simp only [World.cell?, hh, Nat.zero_add, getElem!_pos rows i (show i < rows.length by omega)]
    rw [show BlE.sz = 5 from rfl] at this
    simpa using this
  · have hi' : i < rows.length := by omega
    obtain ⟨h1, h2, h3⟩ := h.code i hi'
    rw [getElem!_pos x.blocks i hi] at h1
    simp only [getElem!_pos rows i hi']
    rw [← h1]
    exact ⟨_, _, rfl, h2, h3⟩
/-- Between two rounds. -/
structure SfAt (w : World) (o : Nat) (bv zv ov : Array Value) (x : Gr) (sa : Option Addr) (kS gq cq : Nat) (wr : World) : Prop where
  cp : ∃ rows, CpAt (w.heap.size + 2) x sa kS gq cq rows wr
  bP : wr.heap[w.heap.size]? = some (.cells bv 29 (0, 0))
  bR : wr.heap[w.heap.size + 1]? = some (.cells zv 29 (0, 0))
  bO : wr.heap[o]? = some (.cells ov 29 (0, 0))
  bel : Below w.heap.size w wr
theorem SfAt.stays {w wr wr' : World} {o : Nat} {bv zv ov : Array Value} {x : Gr} {sa : Option Addr} {kS gq cq : Nat} (h : SfAt w o bv zv ov x sa kS gq cq wr) (b : Below wr.heap.size wr wr') : SfAt w o bv zv ov x sa kS gq cq wr' :=
  let ⟨rows, hr⟩ := h.cp
  ⟨⟨rows, hr.stays b⟩, (b.block _ (hltP h.bP)).trans h.bP, (b.block _ (hltP h.bR)).trans h.bR, (b.block _ (hltP h.bO)).trans h.bO, below_trans h.bel b⟩
theorem SfAt.put {w wr : World} {o : Nat} {bv zv ov : Array Value} {x : Gr} {sa : Option Addr} {kS gq cq : Nat} (h : SfAt w o bv zv ov x sa kS gq cq wr) {j : Nat} (hj : j < x.blocks.length) {gn n' kn : Nat} {code' : List Ins} (ho : SlIs InsIs 7 wr (w.heap.size + 2) (some ⟨gn, 0, none⟩) code') (hne : gn ≠ gq) (hn : n' = code'.length) (lo : w.heap.size + 2 ≤ gq ∧ gq < o) :
    SfAt w o bv zv ov { x with blocks := x.blocks.set j { x.blocks[j] with code := code' } } sa kS gq cq (wr.setCell ⟨gq, j * 5, none⟩ (.slice (some ⟨gn, 0, none⟩) n' kn)) :=
  let ⟨_, hr⟩ := h.cp
  have hb : But gq wr (wr.setCell ⟨gq, j * 5, none⟩ (.slice (some ⟨gn, 0, none⟩) n' kn)) := (But.refl gq wr).set _ _
  ⟨hr.put hj ho hne hn, hb.keepB h.bP (by omega), hb.keepB h.bR (by omega), hb.keepB h.bO (by omega), h.bel.trans (hb.below (by omega) h.bel.size)⟩
/-- All blocks but one are as they were. -/
def KpG (wr : World) (g : Nat) (W : World) : Prop := ∀ k, k < wr.heap.size → k ≠ g → W.heap[k]? = wr.heap[k]?
theorem KpG.of {wr W : World} {g : Nat} (h : Below wr.heap.size wr W) : KpG wr g W := fun k hk _ => h.block k hk
theorem KpG.drew (wr : World) (g : Nat) : KpG wr g wr.drew := fun _ _ _ => rfl
theorem KpG.set {wr W : World} {g : Nat} (h : Below wr.heap.size wr W) (i : Nat) (u : Value) : KpG wr g (W.setCell ⟨g, i, none⟩ u) := fun k hk hne => (Below.heap_setCell W ⟨g, i, none⟩ u k hne).trans (h.block k hk)
/-- The answer is this graph. -/
def SpGrF (w : World) (x : Gr) (en : Ending) (w' : World) : Prop := ∃ v', en = .returned (.agg v') ∧ GrIs w' w.heap.size v' x ∧ Below w.heap.size w w'
set_option maxRecDepth 100000 in
set_option maxHeartbeats 8000000 in
theorem spec_forward0 (x : Gr) (w : World) (B : Nat) (v : Array Value) (h : GrIs w B v x) (GO : OkIs 23 x) (hf : Fits x) :
    Calls Try.prog 14 #[.agg v] w fun en w' => SpGrF w (fwdP x) en w' := by
  have HG0 := hideP h
  have HGO := hideP GO
  obtain ⟨y, hy⟩ : ∃ y, grOk x = y := ⟨_, rfl⟩
  have HY := hideP hy
  have CY : Hid (∀ W, Below w.heap.size w W → Calls Try.prog 23 #[.agg v] W fun en w' => en = .returned (.bool y) ∧ Below W.heap.size W w') := fun W hW => by rw [← hy]; exact GO W B v (GrKeeps.stays h hW)
  have CC : Hid (∀ W, Below w.heap.size w W → Calls Try.prog 22 #[.agg v] W fun en w' => ∃ v', en = .returned (.agg v') ∧ GrIs w' W.heap.size v' x ∧ Below W.heap.size W w' ∧ CpGr W.heap.size x v' w') := fun W hW => spec_copyX x W B v (GrKeeps.stays h hW) hf
  obtain ⟨X, hX⟩ : ∃ X, fwdP x = X := ⟨_, rfl⟩
  have HX := hideP hX
  rw [hX]
  clear hy hX GO hf
  obtain ⟨sizes, p, q, r, blocks⟩ := x
  obtain ⟨us, cs, ub, cb, rfl, _, _, hbb⟩ := h
  simp only at *
  have hbm := hbb.1
  have HBB := hideP hbb
  have AL := hideP (below2 w (.cells #[.slice us sizes.length cs, .int .i64 p, .int .i64 q, .int .i64 r, .slice ub blocks.length cb] 29) (.cells #[.slice none 0 0, .int .i64 0, .int .i64 0, .int .i64 0, .slice none 0 0] 29))
  have TW := hideP (fun w1 => two (w := w) (w1 := w1) (o1 := .cells #[.slice us sizes.length cs, .int .i64 p, .int .i64 q, .int .i64 r, .slice ub blocks.length cb] 29) (o2 := .cells #[.slice none 0 0, .int .i64 0, .int .i64 0, .int .i64 0, .slice none 0 0] 29))
  have HZ2 : Hid (((w.alloc (.cells #[.slice us sizes.length cs, .int .i64 p, .int .i64 q, .int .i64 r, .slice ub blocks.length cb] 29)).alloc (.cells #[.slice none 0 0, .int .i64 0, .int .i64 0, .int .i64 0, .slice none 0 0] 29)).heap.size = w.heap.size + 2) := by show _ = _; simp
  clear hbb
  go_enter Try.func14, Try.ntmps14
  go_wp2_with fail
  refine (CC.out _ AL.out).mono ?_
  rintro e1 w1 ⟨v1, rfl, _, bel1, sa, kS, gq, cq, rows1, rfl, cp1⟩
  obtain ⟨P1, RR, L1, hw⟩ := TW.out w1 bel1
  rw [HZ2.out] at cp1
  simp only at cp1 ⊢
  have al2 := (Below.refl w1.heap.size w1).alloc (Nat.le_refl _) (.cells #[.slice sa sizes.length kS, .int .i64 p, .int .i64 q, .int .i64 r, .slice (some ⟨gq, 0, none⟩) blocks.length cq] 29)
  have LO : Hid (w.heap.size + 2 ≤ gq ∧ gq < w1.heap.size) := cp1.own.low gq rfl
  have I0 : Hid (SfAt w w1.heap.size #[.slice us sizes.length cs, .int .i64 p, .int .i64 q, .int .i64 r, .slice ub blocks.length cb] #[.slice none 0 0, .int .i64 0, .int .i64 0, .int .i64 0, .slice none 0 0] #[.slice sa sizes.length kS, .int .i64 p, .int .i64 q, .int .i64 r, .slice (some ⟨gq, 0, none⟩) blocks.length cq] ⟨sizes, p, q, r, blocks⟩ sa kS gq cq (w1.alloc (.cells #[.slice sa sizes.length kS, .int .i64 p, .int .i64 q, .int .i64 r, .slice (some ⟨gq, 0, none⟩) blocks.length cq] 29))) := ⟨⟨rows1, cp1.stays al2⟩, (al2.block _ (hltP P1)).trans P1, (al2.block _ (hltP RR)).trans RR, blk_newG w1 _, below_trans hw al2⟩
  clear bel1 P1 RR hw TW AL CC al2 cp1 HZ2 L1
  go_upto_region 2 with fail
  obtain ⟨Wb, hWb⟩ : ∃ Wb, w1.alloc (.cells #[.slice sa sizes.length kS, .int .i64 p, .int .i64 q, .int .i64 r, .slice (some ⟨gq, 0, none⟩) blocks.length cq] 29) = Wb := ⟨_, rfl⟩
  rw [hWb] at I0 ⊢
  clear hWb
  have c0 := (cells_of I0.out.bP).1 0
  have c1 := (cells_of I0.out.bP).1 1
  have c2 := (cells_of I0.out.bP).1 2
  have c3 := (cells_of I0.out.bP).1 3
  have c4 := (cells_of I0.out.bP).1 4
  simp at c0 c1 c2 c3 c4
  go_wp2_with fail
  refine (CY.out _ I0.out.bel).mono ?_
  rintro e2 w2 ⟨rfl, bel2⟩
  have I2 := hideP (I0.out.stays bel2)
  clear CY c0 c1 c2 c3 c4 I0 bel2
  cases y with
  | false =>
    have E : Hid (X = ⟨sizes, p, q, r, blocks⟩) := by show _ = _; rw [← HX.out]; exact fwdP_no (by rw [HY.out]; simp)
    have z := I2.out.bR
    have d0 := (cells_of I2.out.bO).1 0
    have d1 := (cells_of I2.out.bO).1 1
    have d2 := (cells_of I2.out.bO).1 2
    have d3 := (cells_of I2.out.bO).1 3
    have d4 := (cells_of I2.out.bO).1 4
    have r0 := (cells_of z).1 0
    have r1 := (cells_of z).1 1
    have r2 := (cells_of z).1 2
    have r3 := (cells_of z).1 3
    have r4 := (cells_of z).1 4
    have rf := (cells_of z).2
    simp at d0 d1 d2 d3 d4 r0 r1 r2 r3 r4
    have z0 := heap_setCell_same w2 _ 0 _ _ (.slice sa sizes.length kS) z
    have z1 := heap_setCell_same _ _ 1 _ _ (.int .i64 p) z0
    have z2 := heap_setCell_same _ _ 2 _ _ (.int .i64 q) z1
    have z3 := heap_setCell_same _ _ 3 _ _ (.int .i64 r) z2
    have z4 : (((((w2.setCell ⟨w.heap.size + 1, 0, none⟩ (.slice sa sizes.length kS)).setCell ⟨w.heap.size + 1, 1, none⟩ (.int .i64 p)).setCell ⟨w.heap.size + 1, 2, none⟩ (.int .i64 q)).setCell ⟨w.heap.size + 1, 3, none⟩ (.int .i64 r)).setCell ⟨w.heap.size + 1, 4, none⟩ (.slice (some ⟨gq, 0, none⟩) blocks.length cq)).heap[w.heap.size + 1]? = some (.cells #[.slice sa sizes.length kS, .int .i64 p, .int .i64 q, .int .i64 r, .slice (some ⟨gq, 0, none⟩) blocks.length cq] 29 (0, 0)) := heap_setCell_same _ _ 4 _ _ (.slice (some ⟨gq, 0, none⟩) blocks.length cq) z3
    have ZF := hideP z4
    have BU : Hid (But (w.heap.size + 1) w2 (((((w2.setCell ⟨w.heap.size + 1, 0, none⟩ (.slice sa sizes.length kS)).setCell ⟨w.heap.size + 1, 1, none⟩ (.int .i64 p)).setCell ⟨w.heap.size + 1, 2, none⟩ (.int .i64 q)).setCell ⟨w.heap.size + 1, 3, none⟩ (.int .i64 r)).setCell ⟨w.heap.size + 1, 4, none⟩ (.slice (some ⟨gq, 0, none⟩) blocks.length cq))) := ((((((But.refl (w.heap.size + 1) w2).set 0 (.slice sa sizes.length kS)).set 1 (.int .i64 p)).set 2 (.int .i64 q)).set 3 (.int .i64 r)).set 4 (.slice (some ⟨gq, 0, none⟩) blocks.length cq))
    clear z z0 z1 z2 z3 z4
    go_wp2
    refine bodyPost_ret (results_cell_row rfl _ _ (w.heap.size + 1) 29 #[.slice sa sizes.length kS, .int .i64 p, .int .i64 q, .int .i64 r, .slice (some ⟨gq, 0, none⟩) blocks.length cq] (0, 0) _ rfl ZF.out Try.underlying29 rfl (by kernel_rfl)) rfl ?_
    rw [E.out]
    have hlt9 := hltP I2.out.bR
    obtain ⟨rows9, hr9⟩ := I2.out.cp
    exact ⟨_, rfl, GrKeeps.mono (GrKeeps.but (hr9.gr hbm) (by omega) BU.out) (by omega), I2.out.bel.trans (BU.out.below (by omega) (by omega))⟩
  | true =>
    have hok : Hid (grOk ⟨sizes, p, q, r, blocks⟩ = true) := HY.out
    have hbl : blocks.length ≤ 300 := by have := hok.out; simp only [grOk, Bool.and_eq_true, decide_eq_true_eq] at this; omega
    obtain ⟨V, hV⟩ : ∃ V : Nat, r = (V : Int) := by
      have := hok.out
      simp only [grOk, frOk, Bool.and_eq_true, decide_eq_true_eq] at this
      exact ⟨r.toNat, by omega⟩
    subst hV
    have E : Hid (X = ⟨sizes, p, q, (V : Int), blocks.map (fwdB V)⟩) := by show _ = _; rw [← HX.out]; exact fwdP_ok hok.out
    have HAS : Hid (∀ j (hj : j < blocks.length), hasB6 ⟨sizes, p, q, (V : Int), blocks⟩ (j : Int) ∧ (blocks[j]).code.length ≤ 1000 ∧ V ≤ 1000 ∧ (∀ z ∈ (blocks[j]).code, insOk (sizes.length : Nat) (V : Nat) z = true) ∧ placesP ⟨sizes, p, q, (V : Int), blocks⟩ (j : Int) = placesUp V (blocks[j]).code (blocks[j]).code.length) := fun j hj => by
      have hb6 : hasB6 ⟨sizes, p, q, (V : Int), blocks⟩ (j : Int) := ⟨hok.out, by omega, by simp only; omega⟩
      obtain ⟨i, V', e1, e2, e3, hi, e4, e5, e6⟩ := hasB6_ok hb6
      obtain rfl : i = j := by omega
      have e2' : (V : Int) = (V' : Int) := e2
      obtain rfl : V = V' := by omega
      refine ⟨hb6, e5, e3, e6, ?_⟩
      unfold placesP
      rw [if_pos hb6, e4]
      rfl
    clear HX HY
    go_wp2
    go_loopg [4] blocks.length (fun gk ix wr => ∃ j : Nat, gk + j = blocks.length ∧ ix = .int .i64 j ∧ Hid (SfAt w w1.heap.size #[.slice us sizes.length cs, .int .i64 p, .int .i64 q, .int .i64 (V : Int), .slice ub blocks.length cb] #[.slice none 0 0, .int .i64 0, .int .i64 0, .int .i64 0, .slice none 0 0] #[.slice sa sizes.length kS, .int .i64 p, .int .i64 q, .int .i64 (V : Int), .slice (some ⟨gq, 0, none⟩) blocks.length cq] ⟨sizes, p, q, (V : Int), midB V blocks j⟩ sa kS gq cq wr))
    case atStart => exact ⟨0, by simp, rfl, I2.out⟩
    case round =>
      obtain ⟨j, hj, rfl, hI⟩ := hrel
      clear I2
      have b4 := (cells_of hI.out.bP).1 4
      simp at b4
      by_cases hlt : j < blocks.length
      · obtain ⟨bb, oo, uc, kc, rfl, hbbw, hcell, hcode⟩ := code_of HBB.out j hlt
        obtain ⟨hb6, hcl, hV1, hins, hpp⟩ := HAS.out j hlt
        obtain ⟨BK, hBK⟩ : ∃ BK, blocks[j] = BK := ⟨_, rfl⟩
        have HBK := hideP hBK
        rw [hBK] at hcell hcode hcl hins hpp
        obtain ⟨code, jump, a, t0, els⟩ := BK
        simp only at hcell hcode hcl hins hpp
        have hw := ins_all hcode
        have CO : Hid (CodeOk (sizes.length : Nat) V code) := ⟨hcl, hV1, fun z hz => ⟨hins z hz, ins_i64 hcode z hz⟩⟩
        have HWF := hideP hw
        have HC := hideP hcode
        have hpl := placesUp_len V code code.length (Nat.le_refl _)
        obtain ⟨ps, hps⟩ : ∃ ps, placesUp V code code.length = ps := ⟨_, rfl⟩
        rw [hps] at hpp hpl
        have PL : Hid (∀ W, Below wr.heap.size wr W → Calls Try.prog 39 #[.agg #[.slice us sizes.length cs, .int .i64 p, .int .i64 q, .int .i64 (V : Int), .slice (some ⟨bb, oo, none⟩) blocks.length cb], .int .i64 (j : Int)] W fun en w' => ∃ gp kp, en = .returned (.slice (some ⟨gp, 0, none⟩) code.length kp) ∧ OwnE PlE w' 0 (.slice (some ⟨gp, 0, none⟩) code.length kp) ps ∧ Below wr.heap.size wr w') := fun W hW => by
          refine (spec_places ⟨sizes, p, q, (V : Int), blocks⟩ (j : Int) W B _ (GrKeeps.stays HG0.out (below_trans hI.out.bel hW)) HGO.out).mono ?_
          rintro en w' ⟨v', he, ho, hb'⟩
          rw [hpp] at ho
          obtain ⟨gp, kp, hv', _⟩ := id ho
          rw [hpl] at hv'
          subst hv'
          exact ⟨gp, kp, he, ho.mono (Nat.zero_le _), below_trans hW hb'⟩
        have BL : Hid (∀ W gp kp, Below wr.heap.size wr W → OwnE PlE W 0 (.slice (some ⟨gp, 0, none⟩) code.length kp) ps → Calls Try.prog 38 #[.slice uc code.length kc, .slice (some ⟨gp, 0, none⟩) code.length kp] W fun en w' => ∃ gn kn, en = .returned (.slice (some ⟨gn, 0, none⟩) code.length kn) ∧ wr.heap.size ≤ gn ∧ SlIs InsIs 7 w' (w.heap.size + 2) (some ⟨gn, 0, none⟩) (fwdCode V code) ∧ Below wr.heap.size wr w') := fun W gp kp hW ho => by
          have hF : fwdCode V code = (fwdUp code ps code.length).2 := by unfold fwdCode; rw [hps]
          have hb7 := block07_any code ps W B 0 gp kp kc uc (HC.out.stays InsKeeps (below_trans hI.out.bel hW)) (by rw [hpl]; exact ho) hpl hcl
          rw [hpl] at hb7
          refine hb7.mono ?_
          rintro en w' ⟨v', he, ho', hb'⟩
          rw [← hF] at ho'
          obtain ⟨gn, kn, hv', _⟩ := id ho'
          have hln := fwdCode_len V code
          rw [hln] at hv'
          subst hv'
          have hlow := (ho'.low gn rfl).1
          have hsz := hW.size
          have hwz := hltP hI.out.bR
          refine ⟨gn, kn, he, by omega, (ho'.mono (show w.heap.size + 2 ≤ W.heap.size by omega)).sl (fwdCode_wf CO.out HWF.out) (by rw [hln]; unfold maxLen; omega), below_trans hW hb'⟩
        have SK : Hid (∀ (W' : World), KpG wr gq W' → W'.cell? ⟨w1.heap.size, 4, none⟩ = some (.slice (some ⟨gq, 0, none⟩) blocks.length cq) ∧ W'.cell? ⟨w.heap.size, 0, none⟩ = some (.slice us sizes.length cs) ∧ W'.cell? ⟨w.heap.size, 1, none⟩ = some (.int .i64 p) ∧ W'.cell? ⟨w.heap.size, 2, none⟩ = some (.int .i64 q) ∧ W'.cell? ⟨w.heap.size, 3, none⟩ = some (.int .i64 (V : Int)) ∧ W'.cell? ⟨w.heap.size, 4, none⟩ = some (.slice (some ⟨bb, oo, none⟩) blocks.length cb) ∧ W'.cell? ⟨bb, oo + j * 5, none⟩ = some (.slice uc code.length kc)) := fun W' hk => by
          have lo := LO.out
          have hP := (hk w.heap.size (hltP hI.out.bP) (by omega)).trans hI.out.bP
          have hO := (hk w1.heap.size (hltP hI.out.bO) (by omega)).trans hI.out.bO
          have hcw : wr.cell? ⟨bb, oo + j * 5, none⟩ = some (.slice uc code.length kc) := (hI.out.bel.cell (p := ⟨bb, _, none⟩) hbbw).trans hcell
          have c := (cells_of hP).1
          exact ⟨(cells_of hO).1 4, c 0, c 1, c 2, c 3, c 4, (World.cell?_of_block (a := ⟨bb, oo + j * 5, none⟩) (hk bb (Nat.lt_of_lt_of_le hbbw hI.out.bel.size) (by omega))).trans hcw⟩
        have ROW : Hid (∀ W, Below wr.heap.size wr W → ∃ u0, W.cell? ⟨gq, j * 5, none⟩ = some u0 ∧ W.frozen? ⟨gq, j * 5, none⟩ = false) := fun W hW => by
          obtain ⟨rows, hr⟩ := (hI.out.stays hW).cp
          have hjr : j < rows.length := by rw [hr.len]; simp only [midB_len]; exact hlt
          obtain ⟨g', cap', cur, hv, _, hh, _⟩ := hr.own.parts BlE_ok
          have h0 := hr.own.at BlE_ok j hjr 0 (by decide)
          injection hv with e1
          injection e1 with e1
          injection e1 with e1
          subst e1
          exact ⟨_, by simpa [BlE] using h0, (cells_of hh).2 _⟩
        have NX : Hid (∀ W gn kn, Below wr.heap.size wr W → wr.heap.size ≤ gn → SlIs InsIs 7 W (w.heap.size + 2) (some ⟨gn, 0, none⟩) (fwdCode V code) → SfAt w w1.heap.size #[.slice us sizes.length cs, .int .i64 p, .int .i64 q, .int .i64 (V : Int), .slice (some ⟨bb, oo, none⟩) blocks.length cb] #[.slice none 0 0, .int .i64 0, .int .i64 0, .int .i64 0, .slice none 0 0] #[.slice sa sizes.length kS, .int .i64 p, .int .i64 q, .int .i64 (V : Int), .slice (some ⟨gq, 0, none⟩) blocks.length cq] ⟨sizes, p, q, (V : Int), midB V blocks (j + 1)⟩ sa kS gq cq (W.setCell ⟨gq, j * 5, none⟩ (.slice (some ⟨gn, 0, none⟩) code.length kn))) := fun W gn kn hW hgn hs => by
          have hmj : (midB V blocks j)[j]'(by rw [midB_len]; exact hlt) = ⟨code, jump, a, t0, els⟩ := (midB_ge V blocks j j (Nat.le_refl _) hlt).trans HBK.out
          have lo := LO.out
          have hwo := hltP hI.out.bO
          have hr := (hI.out.stays hW).put (j := j) (by simp only [midB_len]; exact hlt) hs (kn := kn) (by omega) (fwdCode_len V code).symm lo
          simp only [hmj] at hr
          have e9 : midB V blocks (j + 1) = (midB V blocks j).set j ⟨fwdCode V code, jump, a, t0, els⟩ := by
            show (midB V blocks j).set j (fwdB V (blocks[j]!)) = _
            rw [getElem!_pos blocks j hlt, HBK.out]; rfl
          rw [e9]
          exact hr
        clear hb6 hcl hins hpp hw hcode hcell hps hpl hBK hI
        go_upto_region 7 with fail
        go_region_held3 (fun W' => W'.cell? ⟨w1.heap.size, 4, none⟩ = some (.slice (some ⟨gq, 0, none⟩) blocks.length cq) ∧ W'.cell? ⟨w.heap.size, 0, none⟩ = some (.slice us sizes.length cs) ∧ W'.cell? ⟨w.heap.size, 1, none⟩ = some (.int .i64 p) ∧ W'.cell? ⟨w.heap.size, 2, none⟩ = some (.int .i64 q) ∧ W'.cell? ⟨w.heap.size, 3, none⟩ = some (.int .i64 (V : Int)) ∧ W'.cell? ⟨w.heap.size, 4, none⟩ = some (.slice (some ⟨bb, oo, none⟩) blocks.length cb) ∧ W'.cell? ⟨bb, oo + j * 5, none⟩ = some (.slice uc code.length kc)) (first | with_reducible exact SK.out _ (KpG.set F6.out _ _) | with_reducible exact SK.out _ (KpG.of F6.out) | with_reducible exact SK.out _ (KpG.of F5.out) | with_reducible exact SK.out _ (KpG.drew _ _)) (first
          | (go_at_call 39; refine (PL.out _ (Below.refl _ _).drew).mono ?_; rintro e5 w5 ⟨gp, kp5, rfl, o5, b5⟩; have F5 := hideP b5; have O5 := hideP o5; clear b5 o5)
          | (go_at_call 38; refine (BL.out _ gp kp5 F5.out O5.out).mono ?_; rintro e6 w6 ⟨gn, kn, rfl, hgn, hs6, b6⟩; have F6 := hideP b6; have N6 := hideP (NX.out w6 gn kn b6 hgn hs6); obtain ⟨u0, q0, qf⟩ := ROW.out w6 b6; clear b6 hs6))
        clear SK PL BL ROW NX F5 F6 O5 q0 qf b4
        go_wp2
        go_roundg (blocks.length - (j + 1))
        case rel => exact ⟨j + 1, by omega, by go_num, N6.out⟩
        case measure => omega
      · have hjn : j = blocks.length := by omega
        subst hjn
        have MA : Hid (midB V blocks blocks.length = blocks.map (fwdB V)) := midB_all V blocks
        rw [MA.out] at hI
        have z := hI.out.bR
        have d0 := (cells_of hI.out.bO).1 0
        have d1 := (cells_of hI.out.bO).1 1
        have d2 := (cells_of hI.out.bO).1 2
        have d3 := (cells_of hI.out.bO).1 3
        have d4 := (cells_of hI.out.bO).1 4
        have r0 := (cells_of z).1 0
        have r1 := (cells_of z).1 1
        have r2 := (cells_of z).1 2
        have r3 := (cells_of z).1 3
        have r4 := (cells_of z).1 4
        have rf := (cells_of z).2
        simp at d0 d1 d2 d3 d4 r0 r1 r2 r3 r4
        have z0 := heap_setCell_same wr _ 0 _ _ (.slice sa sizes.length kS) z
        have z1 := heap_setCell_same _ _ 1 _ _ (.int .i64 p) z0
        have z2 := heap_setCell_same _ _ 2 _ _ (.int .i64 q) z1
        have z3 := heap_setCell_same _ _ 3 _ _ (.int .i64 (V : Int)) z2
        have z4 : (((((wr.setCell ⟨w.heap.size + 1, 0, none⟩ (.slice sa sizes.length kS)).setCell ⟨w.heap.size + 1, 1, none⟩ (.int .i64 p)).setCell ⟨w.heap.size + 1, 2, none⟩ (.int .i64 q)).setCell ⟨w.heap.size + 1, 3, none⟩ (.int .i64 (V : Int))).setCell ⟨w.heap.size + 1, 4, none⟩ (.slice (some ⟨gq, 0, none⟩) blocks.length cq)).heap[w.heap.size + 1]? = some (.cells #[.slice sa sizes.length kS, .int .i64 p, .int .i64 q, .int .i64 (V : Int), .slice (some ⟨gq, 0, none⟩) blocks.length cq] 29 (0, 0)) := heap_setCell_same _ _ 4 _ _ (.slice (some ⟨gq, 0, none⟩) blocks.length cq) z3
        have ZF := hideP z4
        have BU : Hid (But (w.heap.size + 1) wr (((((wr.setCell ⟨w.heap.size + 1, 0, none⟩ (.slice sa sizes.length kS)).setCell ⟨w.heap.size + 1, 1, none⟩ (.int .i64 p)).setCell ⟨w.heap.size + 1, 2, none⟩ (.int .i64 q)).setCell ⟨w.heap.size + 1, 3, none⟩ (.int .i64 (V : Int))).setCell ⟨w.heap.size + 1, 4, none⟩ (.slice (some ⟨gq, 0, none⟩) blocks.length cq))) := ((((((But.refl (w.heap.size + 1) wr).set 0 (.slice sa sizes.length kS)).set 1 (.int .i64 p)).set 2 (.int .i64 q)).set 3 (.int .i64 (V : Int))).set 4 (.slice (some ⟨gq, 0, none⟩) blocks.length cq))
        clear z z0 z1 z2 z3 z4
        go_wp2
        refine bodyPost_ret (results_cell_row rfl _ _ (w.heap.size + 1) 29 #[.slice sa sizes.length kS, .int .i64 p, .int .i64 q, .int .i64 (V : Int), .slice (some ⟨gq, 0, none⟩) blocks.length cq] (0, 0) _ rfl ZF.out Try.underlying29 rfl (by kernel_rfl)) rfl ?_
        rw [E.out]
        have hlt9 := hltP hI.out.bR
        obtain ⟨rows9, hr9⟩ := hI.out.cp
        have gr9 := hr9.gr (by simp only [List.length_map]; exact hbm)
        simp only [List.length_map] at gr9
        exact ⟨_, rfl, GrKeeps.mono (GrKeeps.but gr9 (by omega) BU.out) (by omega), hI.out.bel.trans (BU.out.below (by omega) (by omega))⟩
theorem spec_forward (x : Gr) (w : World) (B : Nat) (v : Array Value) (h : GrIs w B v x) (GO : OkIs 23 x) (hf : Fits x) :
    Calls Try.prog 14 #[.agg v] w fun en w' => ∃ v', en = .returned (.agg v') ∧ GrIs w' w.heap.size v' (fwdP x) ∧ Below w.heap.size w w' := spec_forward0 x w B v h GO hf
end Go.Proofs.Ytljeahjcfbcbgaa
