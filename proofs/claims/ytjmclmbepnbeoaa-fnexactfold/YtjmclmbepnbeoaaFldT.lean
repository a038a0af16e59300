/- The contract of spec.Fold (written by wip/mkfldt.py). -/
import Derived.Test.YtjmclmbepnbeoaaFldS
import Derived.Test.YtjmclmbepnbeoaaChAll
import Derived.Test.YtjmclmbepnbeoaaZerosS
import Derived.Test.YtjmclmbepnbeoaaPut5
import Derived.Deep.RegionHeld3
import Derived.Deep.LoopGhost
import Derived.Deep.CutRange
import Derived.Conc.WalkWords
namespace Go.Proofs.Ytjmclmbepnbeoaa
open Go.ChangeShapes Go.WideShapes Go.ChangeAt Go.RowKit
/-- Within a round: the code done so far in its place, the block's own variable, what is known. -/
structure Fs9 (wr : World) (gc oc b8 kb vb V : Nat) (c8 : Array Value) (code : List Ins) (K : Kn) (W : World) : Prop where
  bt : But gc wr W
  cf : 0 < code.length → CodeF W gc oc code
  x8 : W.heap[b8]? = some (.cells c8 44 (0, 0))
  kn : KnAt kb vb V K W
section
variable {wr W W' : World} {gc oc b8 kb vb V : Nat} {c8 c8' : Array Value} {code : List Ins} {K K' : Kn}
theorem Fs9.stays (h : Fs9 wr gc oc b8 kb vb V c8 code K W) (b : Below W.heap.size W W') : Fs9 wr gc oc b8 kb vb V c8 code K W' :=
  ⟨h.bt.belowN b, fun h0 => (h.cf h0).keep (b.block _ (h.cf h0).lt), (b.block _ (Array.getElem?_eq_some_iff.1 h.x8).1).trans h.x8, h.kn.stays b⟩
theorem Fs9.ne (h : Fs9 wr gc oc b8 kb vb V c8 code K W) : b8 ≠ kb ∧ b8 ≠ vb := by
  obtain ⟨ck, a1, _⟩ := h.kn.kn
  obtain ⟨cw, b1, _⟩ := h.kn.vl
  have e := h.x8
  refine ⟨fun he => ?_, fun he => ?_⟩
  · rw [he, a1] at e
    injection e with e
    injection e with _ e2
    exact absurd e2 (by decide)
  · rw [he, b1] at e
    injection e with e
    injection e with _ e2
    exact absurd e2 (by decide)
/-- A step is told. -/
theorem Fs9.step (h : Fs9 wr gc oc b8 kb vb V c8 code K W) (b : But2 kb vb W W') (hk : wr.heap.size ≤ kb ∧ wr.heap.size ≤ vb) (hg : 0 < code.length → gc < wr.heap.size) (kn : KnAt kb vb V K' W') : Fs9 wr gc oc b8 kb vb V c8 code K' W' := by
  have hn := h.ne
  have hz := h.bt.size
  refine ⟨⟨b.os.trans h.bt.os, b.tape.trans h.bt.tape, b.output.trans h.bt.output, Nat.le_trans hz b.size, fun k hk1 hk2 => (b.block k (by omega) (by omega) (by omega)).trans (h.bt.block k hk1 hk2)⟩, fun h0 => ?_, (b.block _ (Array.getElem?_eq_some_iff.1 h.x8).1 hn.1 hn.2).trans h.x8, kn⟩
  have := hg h0
  exact (h.cf h0).keep (b.block _ (h.cf h0).lt (by omega) (by omega))
/-- It is written. -/
theorem Fs9.put (h : Fs9 wr gc oc b8 kb vb V c8 code K W) (b : But gc W W') {code' : List Ins} (hc : CodeF W' gc oc code') (hg : gc < wr.heap.size) (h8 : wr.heap.size ≤ b8) (hk : wr.heap.size ≤ kb ∧ wr.heap.size ≤ vb) : Fs9 wr gc oc b8 kb vb V c8 code' K W' :=
  ⟨h.bt.same b, fun _ => hc, keepQ b h.x8 (by omega), h.kn.but b (by omega) (by omega)⟩
/-- The block's own variable is written. -/
theorem Fs9.box (h : Fs9 wr gc oc b8 kb vb V c8 code K W) (b : But b8 W W') (hb : W'.heap[b8]? = some (.cells c8' 44 (0, 0))) (h8 : wr.heap.size ≤ b8) (hg : 0 < code.length → gc < wr.heap.size) : Fs9 wr gc oc b8 kb vb V c8' code K W' := by
  have hn := h.ne
  refine ⟨h.bt.next b h8, fun h0 => ?_, hb, h.kn.but b (fun e => hn.1 e.symm) (fun e => hn.2 e.symm)⟩
  have := hg h0
  exact (h.cf h0).keep (b.block _ (h.cf h0).lt (by omega))
end
theorem made_boolN (V : Nat) : ∀ s, s < V → (madeCells #[Value.bool false] V)[s]? = some (.bool false) := fun s hs => by simp [madeCells, hs, Nat.mod_one]
theorem infoBN : (Try.prog.info? 4).map (fun i => (i.zero, i.size, i.bytes)) = some (some (.bool false), 1, 1) := by kernel_rfl
theorem make_boolN (V : Nat) (hV : V ≤ 1000) (W : World) : (Instr.makeSlice 45 (.int .i64 (V : Int)) (.int .i64 (V : Int))).run Try.prog W = .ok (.slice (some ⟨W.heap.size, 0, none⟩) V V) (W.alloc (.cells (madeCells #[.bool false] V) 4)) := by
  have := make_n (P := Try.prog) Try.underlying45 infoBN V (by omega) (by omega) W
  rw [Nat.mul_one] at this
  exact this
theorem knStart {W W' : World} {V : Nat} {v : Value} (h : OwnI W' (W.alloc (.cells (madeCells #[.bool false] V) 4)).heap.size v (List.replicate V 0)) (b : Below (W.alloc (.cells (madeCells #[.bool false] V) 4)).heap.size (W.alloc (.cells (madeCells #[.bool false] V) 4)) W') : ∃ vb cv, v = .slice (some ⟨vb, 0, none⟩) V cv ∧ W.heap.size ≤ vb ∧ KnAt W.heap.size vb V s0 W' := by
  obtain ⟨g, cap, cur, hv, hB, hh, hc, _, hs, hx⟩ := h.parts
  simp only [List.length_replicate] at hv hc hx
  have n1 : (W.alloc (.cells (madeCells #[.bool false] V) 4)).heap[W.heap.size]? = some (.cells (madeCells #[.bool false] V) 4) := by show (W.heap.push _)[W.heap.size]? = _; exact Array.getElem?_push_size
  refine ⟨g, cap, hv, by have := hB; simp at this; omega, ⟨⟨_, (b.block _ (by simp)).trans n1, by rw [size_madeCells]; exact Nat.le_refl _, fun s hs => ?_⟩, ⟨cur, hh, by omega, fun s hs => ⟨0, ?_, fun u e => (by cases e)⟩⟩⟩⟩
  · rw [made_boolN V s hs]; rfl
  · have := hx s hs
    simpa using this
set_option maxRecDepth 100000 in
set_option maxHeartbeats 16000000 in
theorem spec_fold0 (x : Gr) (w : World) (B : Nat) (v : Array Value) (h : GrIs w B v x) (GO : OkIs 26 x) (hf : Fits x) :
    Calls Try.prog 8 #[.agg v] w fun en w' => SpGr9 w (foldP x) en w' := by
  obtain ⟨y, hy⟩ : ∃ y, grOk x = y := ⟨_, rfl⟩
  have HY := hideP hy
  have CY : Hid (∀ W, Below w.heap.size w W → Calls Try.prog 26 #[.agg v] W fun en w' => en = .returned (.bool y) ∧ Below W.heap.size W w') := fun W hW => by rw [← hy]; exact GO W B v (GrKeeps.stays h hW)
  have CC : Hid (∀ W, Below w.heap.size w W → Calls Try.prog 25 #[.agg v] W fun en w' => ∃ v', en = .returned (.agg v') ∧ GrIs w' W.heap.size v' x ∧ Below W.heap.size W w' ∧ CpGrD W.heap.size x v' w') := fun W hW => spec_copyD x W B v (GrKeeps.stays h hW) hf
  obtain ⟨X, hX⟩ : ∃ X, foldP x = X := ⟨_, rfl⟩
  have HX := hideP hX
  have HIN := hideP (fun hk => ins_of (x := x) hk)
  rw [hX]
  clear hy hX GO hf
  obtain ⟨sizes, p, q, r, blocks⟩ := x
  obtain ⟨us, cs, ub, cb, rfl, _, _, hbb⟩ := h
  simp only at *
  have hbm := hbb.1
  have AL := hideP (below2 w (.cells #[.slice us sizes.length cs, .int .i64 p, .int .i64 q, .int .i64 r, .slice ub blocks.length cb] 29) (.cells #[.slice none 0 0, .int .i64 0, .int .i64 0, .int .i64 0, .slice none 0 0] 29))
  have TW := hideP (fun w1 => two (w := w) (w1 := w1) (o1 := .cells #[.slice us sizes.length cs, .int .i64 p, .int .i64 q, .int .i64 r, .slice ub blocks.length cb] 29) (o2 := .cells #[.slice none 0 0, .int .i64 0, .int .i64 0, .int .i64 0, .slice none 0 0] 29))
  have HZ2 : Hid (((w.alloc (.cells #[.slice us sizes.length cs, .int .i64 p, .int .i64 q, .int .i64 r, .slice ub blocks.length cb] 29)).alloc (.cells #[.slice none 0 0, .int .i64 0, .int .i64 0, .int .i64 0, .slice none 0 0] 29)).heap.size = w.heap.size + 2) := by show _ = _; simp
  clear hbb
  go_enter Try.func8, Try.ntmps8
  go_wp2_with fail
  refine (CC.out _ AL.out).mono ?_
  rintro e1 w1 ⟨v1, rfl, _, bel1, sa, kS, gq, cq, rows1, rfl, cp1, dis1⟩
  obtain ⟨P1, RR, L1, hw⟩ := TW.out w1 bel1
  rw [HZ2.out] at cp1
  simp only at cp1 dis1 ⊢
  have al2 := (Below.refl w1.heap.size w1).alloc (Nat.le_refl _) (.cells #[.slice sa sizes.length kS, .int .i64 p, .int .i64 q, .int .i64 r, .slice (some ⟨gq, 0, none⟩) blocks.length cq] 29)
  have lo : w.heap.size + 2 ≤ gq ∧ gq < w1.heap.size := cp1.own.low gq rfl
  have I0 : Hid (SgAt w w1.heap.size #[.slice us sizes.length cs, .int .i64 p, .int .i64 q, .int .i64 r, .slice ub blocks.length cb] #[.slice none 0 0, .int .i64 0, .int .i64 0, .int .i64 0, .slice none 0 0] #[.slice sa sizes.length kS, .int .i64 p, .int .i64 q, .int .i64 r, .slice (some ⟨gq, 0, none⟩) blocks.length cq] ⟨sizes, p, q, r, blocks⟩ sa kS gq cq (w1.alloc (.cells #[.slice sa sizes.length kS, .int .i64 p, .int .i64 q, .int .i64 r, .slice (some ⟨gq, 0, none⟩) blocks.length cq] 29))) := ⟨⟨rows1, cp1.stays al2, dis1⟩, (al2.block _ (hltP P1)).trans P1, (al2.block _ (hltP RR)).trans RR, newB1 w1 _, below_trans hw al2⟩
  clear bel1 P1 RR hw TW AL CC al2 cp1 dis1 HZ2 L1
  go_upto_region 2 with fail
  obtain ⟨Wb, hWb⟩ : ∃ Wb, w1.alloc (.cells #[.slice sa sizes.length kS, .int .i64 p, .int .i64 q, .int .i64 r, .slice (some ⟨gq, 0, none⟩) blocks.length cq] 29) = Wb := ⟨_, rfl⟩
  rw [hWb] at I0 ⊢
  clear hWb
  have fc := (cells_of I0.out.bP).1
  have c0 := fc 0
  have c1 := fc 1
  have c2 := fc 2
  have c3 := fc 3
  have c4 := fc 4
  simp at c0 c1 c2 c3 c4
  clear fc
  go_wp2_with fail
  refine (CY.out _ I0.out.bel).mono ?_
  rintro e2 w2 ⟨rfl, bel2⟩
  have I2 := hideP (I0.out.stays bel2)
  clear CY c0 c1 c2 c3 c4 I0 bel2
  cases y with
  | false =>
    have E : Hid (X = ⟨sizes, p, q, r, blocks⟩) := by show _ = _; rw [← HX.out]; exact foldP_no (by rw [HY.out]; simp)
    have z := I2.out.bR
    have fc := (cells_of I2.out.bO).1
    have d0 := fc 0
    have d1 := fc 1
    have d2 := fc 2
    have d3 := fc 3
    have d4 := fc 4
    simp at d0 d1 d2 d3 d4
    clear fc
    have fc := (cells_of z).1
    have r0 := fc 0
    have r1 := fc 1
    have r2 := fc 2
    have r3 := fc 3
    have r4 := fc 4
    simp at r0 r1 r2 r3 r4
    clear fc
    have rf := (cells_of z).2
    obtain ⟨z4, bu⟩ := put5n z rfl (.slice sa sizes.length kS) (.int .i64 p) (.int .i64 q) (.int .i64 r) (.slice (some ⟨gq, 0, none⟩) blocks.length cq)
    have ZF := hideP z4
    have BU := hideP bu
    clear z z4 bu
    go_wp2
    refine bodyPost_ret (results_cell_row rfl _ _ (w.heap.size + 1) 29 #[.slice sa sizes.length kS, .int .i64 p, .int .i64 q, .int .i64 r, .slice (some ⟨gq, 0, none⟩) blocks.length cq] (0, 0) _ rfl ZF.out Try.underlying29 rfl (by kernel_rfl)) rfl ?_
    rw [E.out]
    have hlt9 := hltP I2.out.bR
    obtain ⟨rows9, hr9, _⟩ := I2.out.cp
    have gr9 := hr9.gr9 hbm
    exact ⟨_, rfl, GrKeeps.mono (GrKeeps.but gr9 (by omega) BU.out) (by omega), I2.out.bel.trans (BU.out.below (by omega) (by omega))⟩
  | true =>
    have hok0 := HY.out
    simp only [grOk, frOk, Bool.and_eq_true, decide_eq_true_eq] at hok0
    obtain ⟨V, hV⟩ : ∃ V : Nat, r = (V : Int) := ⟨r.toNat, by omega⟩
    subst hV
    have hV1 : V ≤ 1000 := by omega
    have hbl3 : blocks.length ≤ 300 := by omega
    have hcl1 : ∀ j (hj : j < blocks.length), (blocks[j]).code.length ≤ 1000 := fun j hj => by
      obtain ⟨R, hR⟩ := codeAll_split blocks j hj
      have h1 := hok0.1.1.2
      rw [hR] at h1
      simp only [List.length_append] at h1
      omega
    have HCL := hideP hcl1
    have HJ : Hid (∀ j (hj : j < blocks.length), (blocks[j]).jump = 1 → 0 ≤ (blocks[j]).a ∧ (blocks[j]).a < V) := fun j hj e1 => by
      have h1 := List.all_eq_true.1 hok0.2 _ (List.getElem_mem hj)
      unfold jmpOk vOk at h1
      simp [e1] at h1
      omega
    have HZ : Hid (∀ j (hj : j < blocks.length), ∀ z ∈ (blocks[j]).code, (∀ s ∈ usesP z, 0 ≤ s ∧ s < V) ∧ (¬ (z.op = 4 ∨ z.op = 6) → 0 ≤ z.d ∧ z.d < V)) := fun j hj z hz => by
      have h1 := ins_uses (HIN.out HY.out _ (List.getElem_mem hj) z hz)
      refine ⟨h1.1, fun hn => ?_⟩
      rcases h1.2 with h2 | h2
      · exact absurd h2.2 hn
      · omega
    have E : Hid (X = ⟨sizes, p, q, (V : Int), blocks.map foldB⟩) := by show _ = _; rw [← HX.out]; exact foldP_ok HY.out
    clear hok0 hcl1 HX HIN
    go_wp2
    go_loopg [4] blocks.length (fun gk ix wr => ∃ j : Nat, gk + j = blocks.length ∧ ix = .int .i64 j ∧ Hid (SgAt w w1.heap.size #[.slice us sizes.length cs, .int .i64 p, .int .i64 q, .int .i64 (V : Int), .slice ub blocks.length cb] #[.slice none 0 0, .int .i64 0, .int .i64 0, .int .i64 0, .slice none 0 0] #[.slice sa sizes.length kS, .int .i64 p, .int .i64 q, .int .i64 (V : Int), .slice (some ⟨gq, 0, none⟩) blocks.length cq] ⟨sizes, p, q, (V : Int), midH foldB blocks j⟩ sa kS gq cq wr))
    case atStart => exact ⟨0, by simp, rfl, I2.out⟩
    case round =>
      obtain ⟨j, hgk, rfl, hI⟩ := hrel
      clear I2
      obtain ⟨wo, hwo⟩ : ∃ wo, wo = wr := ⟨_, rfl⟩
      subst hwo
      have b4 := (cells_of hI.out.bP).1 4
      simp at b4
      by_cases hlt : j < blocks.length
      · have hjm : j < (midH foldB blocks j).length := by rw [midH_len]; exact hlt
        have hmj : (midH foldB blocks j)[j] = blocks[j] := midH_ge foldB blocks j j (Nat.le_refl _) hlt
        obtain ⟨uc, kc, gc, oc, hcells, hco, hwf, hwz, ⟨cq0, Tq0, hpl⟩, hnx⟩ := hI.out.turn (j := j) hjm
        simp only [hmj] at hcells hco hwf hwz hnx
        have hzz := HZ.out j hlt
        have hjj := HJ.out j hlt
        have hcl := HCL.out j hlt
        have e9 : midH foldB blocks (j + 1) = (midH foldB blocks j).set j (foldB (blocks[j])) := by
          show (midH foldB blocks j).set j (foldB (blocks[j]!)) = _
          rw [getElem!_pos blocks j hlt]
        have E9 := hideP e9
        obtain ⟨BK, hBK⟩ : ∃ BK, blocks[j] = BK := ⟨_, rfl⟩
        rw [hBK] at hcells hco hwf hwz hzz hjj hcl E9
        simp only [hBK] at hnx
        have HNX := hideP hnx
        clear hnx e9 hmj hBK hjm
        obtain ⟨code, jump, a, t0, els⟩ := BK
        simp only at hcells hco hwz hzz hjj hcl HNX
        obtain ⟨nc, hnc⟩ : ∃ nc, code.length = nc := ⟨_, rfl⟩
        rw [hnc] at hcells hcl HNX
        have HNC := hideP hnc
        have HCO := hideP hco
        have HWF := hideP hwf
        have HWZ := hideP hwz
        have HZZ := hideP hzz
        have q0 : wo.cell? ⟨gq, j * 5, none⟩ = some (.slice uc nc kc) := hcells 0 (by omega)
        have q1 : wo.cell? ⟨gq, j * 5 + 1, none⟩ = some (.int .i64 jump) := hcells 1 (by omega)
        have q2 : wo.cell? ⟨gq, j * 5 + 2, none⟩ = some (.int .i64 a) := hcells 2 (by omega)
        have q3 : wo.cell? ⟨gq, j * 5 + 3, none⟩ = some (.int .i64 t0) := hcells 3 (by omega)
        have q4 : wo.cell? ⟨gq, j * 5 + 4, none⟩ = some (.int .i64 els) := hcells 4 (by omega)
        have HCE := hideP hcells
        have HPL := hideP hpl
        have o4 := (cells_of hI.out.bO).1 4
        simp at o4
        have hol : w1.heap.size < wo.heap.size := hltP hI.out.bO
        have hNl : w.heap.size < wo.heap.size := hltP hI.out.bP
        have BO := hideP hI.out.bO
        have BP := hideP hI.out.bP
        have al := (Below.refl wo.heap.size wo).alloc (Nat.le_refl _) (.cells #[.slice uc nc kc, .int .i64 jump, .int .i64 a, .int .i64 t0, .int .i64 els] 44)
        have X8 := hideP (newB1 wo (.cells #[.slice uc nc kc, .int .i64 jump, .int .i64 a, .int .i64 t0, .int .i64 els] 44))
        have AL := hideP al
        have hbp := (al.block _ hNl).trans hI.out.bP
        have c3 := (cells_of hbp).1 3
        simp at c3
        clear hcells hco hwf hwz hzz hpl hnc hbp al hI
        go_upto_region 8 with fail
        obtain ⟨wb, hwb⟩ : ∃ wb, wo.alloc (.cells #[.slice uc nc kc, .int .i64 jump, .int .i64 a, .int .i64 t0, .int .i64 els] 44) = wb := ⟨_, rfl⟩
        obtain ⟨b8, hb8⟩ : ∃ b8, wo.heap.size = b8 := ⟨_, rfl⟩
        rw [hwb] at X8 AL c3 ⊢
        rw [hb8] at X8 ⊢
        have HB8 := hideP hb8
        clear hwb hb8 q0 q1 q2 q3 q4 o4 b4
        have hgo : Hid (0 < nc → gc ≠ w1.heap.size ∧ gc < wo.heap.size ∧ gc ≠ gq) := fun h0 => by
          obtain ⟨_, _, s3, s4, cur, T9, s5, s6, _⟩ := HCO.out.some' (by rw [HNC.out]; exact h0)
          refine ⟨fun e => ?_, s3, s4⟩
          rw [e, BO.out] at s5
          injection s5 with s5
          injection s5 with s5
          subst s5
          rw [HNC.out] at s6
          simp at s6
          omega
        have mk := make_boolN V hV1
        obtain ⟨ZC, hZC⟩ : ∃ ZC, madeCells #[Value.bool false] V = ZC := ⟨_, rfl⟩
        have KS := hideP (fun W' v h b => knStart (W := wb) (W' := W') (V := V) (v := v) h b)
        simp only [hZC] at mk KS
        have al := (Below.refl wb.heap.size wb).alloc (Nat.le_refl _) (.cells ZC 4)
        have AL2 := hideP al
        have hbp := (below_trans AL.out al).block _ hNl |>.trans BP.out
        have c3b := (cells_of hbp).1 3
        simp at c3b
        have ZR := hideP (zeros_any V (wb.alloc (.cells ZC 4)) (by omega))
        clear hZC al hbp
        go_wp2_with fail
        refine ZR.out.mono ?_
        rintro e5 w5 ⟨v5, rfl, o5, bel5⟩
        obtain ⟨vb, cv, rfl, hvb, kn5⟩ := KS.out _ _ o5 bel5
        have hb8b : b8 < wb.heap.size := (Array.getElem?_eq_some_iff.1 X8.out).1
        have F5 : Hid (Fs9 wo gc oc b8 wb.heap.size vb V #[.slice uc nc kc, .int .i64 jump, .int .i64 a, .int .i64 t0, .int .i64 els] (midS foldF s0 code 0) s0 w5) := by
          have b5 : Below wb.heap.size wb w5 := below_trans AL2.out bel5
          refine ⟨(But.refl gc wo).belowN (below_trans AL.out b5), fun h0 => ?_, (b5.block _ hb8b).trans X8.out, kn5⟩
          rw [midS_zero] at h0 ⊢
          have hs := HCO.out.some' h0
          exact hs.2.2.2.2.keep ((below_trans AL.out b5).block _ hs.2.2.1)
        obtain ⟨kb, hkb⟩ : ∃ kb, wb.heap.size = kb := ⟨_, rfl⟩
        rw [hkb] at F5 hvb hb8b ⊢
        have hkk : wo.heap.size ≤ kb ∧ wo.heap.size ≤ vb := by have := HB8.out; omega
        have h8w : wo.heap.size ≤ b8 := by have := HB8.out; omega
        clear ZR KS o5 bel5 kn5 hkb mk AL2 c3 c3b X8 AL
        go_wp2
        go_loopg [8] nc (fun gk ix W => ∃ k : Nat, gk + k = nc ∧ ix = .int .i64 k ∧ Hid (Fs9 wo gc oc b8 kb vb V #[.slice uc nc kc, .int .i64 jump, .int .i64 a, .int .i64 t0, .int .i64 els] (midS foldF s0 code k) (scanUp foldF s0 code k).1 W))
        case atStart => exact ⟨0, by simp, rfl, F5.out⟩
        case round =>
          obtain ⟨k, hgk2, rfl, hF⟩ := hrel
          clear F5
          have x8c := (cells_of hF.out.x8).1 0
          simp at x8c
          by_cases hk : k < nc
          · have hkc : k < code.length := by rw [HNC.out]; exact hk
            obtain ⟨hg1, hg2, hg3⟩ := hgo.out (by omega)
            have hs := HCO.out.some' (by omega)
            have huc := hs.1
            subst huc
            have hml : (midS foldF s0 code k).length = nc := by rw [midS_len (by omega)]; exact HNC.out
            have hcf := hF.out.cf (by omega)
            have hat := midS_at (f := foldF) (s0 := s0) hkc
            have NXT := hideP (midS_next (f := foldF) (s0 := s0) hkc)
            have hml1 : (midS foldF s0 code (k + 1)).length = nc := by rw [midS_len (by omega)]; exact HNC.out
            have UP := hideP (scanUp_at (f := foldF) (s0 := s0) hkc)
            obtain ⟨M, hM⟩ : ∃ M, midS foldF s0 code k = M := ⟨_, rfl⟩
            obtain ⟨M1, hM1⟩ : ∃ M1, midS foldF s0 code (k + 1) = M1 := ⟨_, rfl⟩
            obtain ⟨KN, hK⟩ : ∃ KN, (scanUp foldF s0 code k).1 = KN := ⟨_, rfl⟩
            rw [hM] at hml hcf hat hF NXT
            rw [hM1] at hml1 NXT
            rw [hK] at hF NXT UP
            have hzz := HZZ.out _ (List.getElem_mem hkc)
            obtain ⟨z, hz⟩ : ∃ z, code[k] = z := ⟨_, rfl⟩
            rw [hz] at hat NXT hzz UP
            have ST : Hid (∀ W', KnAt kb vb V KN W' → Calls Try.prog 28 #[.agg (insV z), .slice (some ⟨kb, 0, none⟩) V V, .slice (some ⟨vb, 0, none⟩) V cv] W' fun e w' => StepD kb vb V KN z W' e w') := fun W' hW' => l09Step_any z KN V W' kb vb V cv hW' hzz.1 hzz.2
            have UP1 : Hid ((scanUp foldF s0 code (k + 1)).1 = setK KN (foldX KN z)) := by show _ = _; rw [UP.out]; rfl
            have NX2 : Hid (∀ k_1, k_1 < nc → M1[k_1]! = if k_1 = k then foldX KN z else M[k_1]!) := fun q hq => NXT.out q (by rw [HNC.out]; exact hq)
            have hrow : RowF wr gc oc nc (fun k r => insF (M[k]!) r) := by unfold CodeF at hcf; rw [hml] at hcf; exact hcf
            have HROW := hideP hrow
            have HML1 := hideP hml1
            have HM1 := hideP hM1
            simp only [StepD] at ST
            obtain ⟨y, hy⟩ : ∃ y, foldX KN z = y := ⟨_, rfl⟩
            rw [hy] at ST UP1 NX2
            have cc := fun r (hr : r < 7) => (hrow.at hk hr).1
            rw [hat] at cc
            clear hM hM1 hK hz hy hat hcf hml hml1 UP NXT hzz
            obtain ⟨op, d, xa, xb, xc, xn, xt⟩ := z
            obtain ⟨yo, yd, ya, yb, yc, yn, yt⟩ := y
            simp only [insV] at ST
            have m0 : wr.cell? ⟨gc, oc + k * 7, none⟩ = some (.int .i64 op) := cc 0 (by omega)
            have m1 : wr.cell? ⟨gc, oc + k * 7 + 1, none⟩ = some (.int .i64 d) := cc 1 (by omega)
            have m2 : wr.cell? ⟨gc, oc + k * 7 + 2, none⟩ = some (.int .i64 xa) := cc 2 (by omega)
            have m3 : wr.cell? ⟨gc, oc + k * 7 + 3, none⟩ = some (.int .i64 xb) := cc 3 (by omega)
            have m4 : wr.cell? ⟨gc, oc + k * 7 + 4, none⟩ = some (.int .i64 xc) := cc 4 (by omega)
            have m5 : wr.cell? ⟨gc, oc + k * 7 + 5, none⟩ = some (.int .i64 xn) := cc 5 (by omega)
            have m6 : wr.cell? ⟨gc, oc + k * 7 + 6, none⟩ = some (.string xt) := cc 6 (by omega)
            have hx8 := (Array.getElem?_eq_some_iff.1 hF.out.x8).1
            have SK : Hid (∀ W' : World, W'.heap[b8]? = wr.heap[b8]? → W'.cell? ⟨b8, 0, none⟩ = some (.slice (some ⟨gc, oc, none⟩) nc kc)) := fun W' h1 => (World.cell?_of_block (a := ⟨b8, 0, none⟩) h1).trans x8c
            clear cc hrow
            go_upto_region 13 with fail
            refine wp_region_held_drew (S := fun W' => W'.cell? ⟨b8, 0, none⟩ = some (.slice (some ⟨gc, oc, none⟩) nc kc)) (by kernel_rfl) (SK.out _ rfl) (fun hHeld => ?_)
            refine wpAnyH_take (i := 0) (v := (.pointer (some ⟨b8, 0, none⟩))) rfl (by kernel_rfl) (by kernel_rfl) (by kernel_rfl) (fun _ _ _ h => h) (Or.inl ⟨by rfl, ?_⟩) hHeld ?_
            · (intro w hSw; (try dsimp only at hSw); go_simp)
            walk_nrm
            refine wpAnyH_take (i := 1) (v := (.slice (some ⟨gc, oc, none⟩) nc kc)) rfl (by kernel_rfl) (by kernel_rfl) (by kernel_rfl) (fun _ _ _ h => h) (Or.inl ⟨by rfl, ?_⟩) hHeld ?_
            · (intro w hSw; (try dsimp only at hSw); go_simp)
            walk_nrm
            refine wpAnyH_take (i := 2) (v := (.int .i64 (k : Int))) rfl (by kernel_rfl) (by kernel_rfl) (by kernel_rfl) (fun _ _ _ h => h) (Or.inl ⟨by rfl, ?_⟩) hHeld ?_
            · (intro w hSw; (try dsimp only at hSw); go_simp)
            walk_nrm
            refine wpAnyH_take (i := 3) (v := (.pointer (some ⟨b8, 0, none⟩))) rfl (by kernel_rfl) (by kernel_rfl) (by kernel_rfl) (fun _ _ _ h => h) (Or.inl ⟨by rfl, ?_⟩) hHeld ?_
            · (intro w hSw; (try dsimp only at hSw); go_simp)
            walk_nrm
            refine wpAnyH_take (i := 4) (v := (.slice (some ⟨gc, oc, none⟩) nc kc)) rfl (by kernel_rfl) (by kernel_rfl) (by kernel_rfl) (fun _ _ _ h => h) (Or.inl ⟨by rfl, ?_⟩) hHeld ?_
            · (intro w hSw; (try dsimp only at hSw); go_simp)
            walk_nrm
            refine wpAnyH_take (i := 5) (v := (.int .i64 (k : Int))) rfl (by kernel_rfl) (by kernel_rfl) (by kernel_rfl) (fun _ _ _ h => h) (Or.inl ⟨by rfl, ?_⟩) hHeld ?_
            · (intro w hSw; (try dsimp only at hSw); go_simp)
            walk_nrm
            refine wpAnyH_take (i := 6) (v := (.pointer (some ⟨gc, oc + k * 7, none⟩))) rfl (by kernel_rfl) (by kernel_rfl) (by kernel_rfl) (fun _ _ _ h => h) (Or.inl ⟨by rfl, ?_⟩) hHeld ?_
            · (intro w hSw; (try dsimp only at hSw); go_simp)
            walk_nrm
            refine wpAnyH_take (i := 8) (v := (.slice (some ⟨kb, 0, none⟩) V V)) rfl (by kernel_rfl) (by kernel_rfl) (by kernel_rfl) (fun _ _ _ h => h) (Or.inl ⟨by rfl, ?_⟩) hHeld ?_
            · (intro w hSw; (try dsimp only at hSw); go_simp)
            walk_nrm
            refine wpAnyH_take (i := 9) (v := (.slice (some ⟨vb, 0, none⟩) V cv)) rfl (by kernel_rfl) (by kernel_rfl) (by kernel_rfl) (fun _ _ _ h => h) (Or.inl ⟨by rfl, ?_⟩) hHeld ?_
            · (intro w hSw; (try dsimp only at hSw); go_simp)
            walk_nrm
            refine wpAnyH_ready (rs := [7]) (by kernel_rfl) (by simp) ?_
            refine AllReadyH.cons rfl (fun K hK => ?_) AllReadyH.nil
            go_simp
            refine hK.out _ _ (SK.out _ rfl) (fun hHeld => ?_)
            clear hK K
            walk_nrm
            refine wpAnyH_ready (rs := [10]) (by kernel_rfl) (by simp) ?_
            refine AllReadyH.cons rfl (fun K hK => ?_) AllReadyH.nil
            go_simp
            go_at_call 28
            refine (ST.out _ (hF.out.kn.stays (Below.refl _ _).drew)).mono ?_
            rintro e6 w6 ⟨rfl, kn6, b6⟩
            have b6' : But2 kb vb wr w6 := (But2.ofB (Below.refl wr.heap.size wr).drew).trans b6
            have F6 := hideP (hF.out.step b6' hkk (fun _ => hg2) kn6)
            have hne := hF.out.ne
            have R6 : Hid (RowF w6 gc oc nc (fun k r => insF (M[k]!) r)) := HROW.out.keep (b6'.block _ HROW.out.lt (by omega) (by omega))
            go_wp2_with fail
            refine hK.out _ _ (SK.out _ (b6'.block _ hx8 hne.1 hne.2)) (fun hHeld => ?_)
            clear hK K kn6 b6
            walk_nrm
            refine wpAnyH_take (i := 11) (v := (.pointer (some ⟨gc, oc + k * 7, none⟩))) rfl (by kernel_rfl) (by kernel_rfl) (by kernel_rfl) (fun _ _ _ h => h) (Or.inl ⟨by rfl, ?_⟩) hHeld ?_
            · (intro w hSw; (try dsimp only at hSw); go_simp)
            walk_nrm
            obtain ⟨u0, u1, u2, u3, u4, u5, u6, p0, p1, p2, p3, p4, p5, p6, pf⟩ := R6.out.seen hk
            refine wpAnyH_ready (rs := [12]) (by kernel_rfl) (by simp) ?_
            refine AllReadyH.cons rfl (fun K hK => ?_) AllReadyH.nil
            go_simp
            obtain ⟨w7, hw7⟩ : ∃ w7, (((((((w6.setCell ⟨gc, oc + k * 7, none⟩ (.int .i64 yo)).setCell ⟨gc, oc + k * 7 + 1, none⟩ (.int .i64 yd)).setCell ⟨gc, oc + k * 7 + 2, none⟩ (.int .i64 ya)).setCell ⟨gc, oc + k * 7 + 3, none⟩ (.int .i64 yb)).setCell ⟨gc, oc + k * 7 + 4, none⟩ (.int .i64 yc)).setCell ⟨gc, oc + k * 7 + 5, none⟩ (.int .i64 yn)).setCell ⟨gc, oc + k * 7 + 6, none⟩ (.string yt)) = w7 := ⟨_, rfl⟩
            have bt7 := set7 w6 gc oc k (.int .i64 yo) (.int .i64 yd) (.int .i64 ya) (.int .i64 yb) (.int .i64 yc) (.int .i64 yn) (.string yt)
            have rp7 := R6.out.put hk (⟨yo, yd, ya, yb, yc, yn, yt⟩ : Ins)
            simp only at rp7
            rw [hw7] at bt7 rp7 ⊢
            have F7 : Hid (Fs9 wo gc oc b8 kb vb V #[.slice (some ⟨gc, oc, none⟩) nc kc, .int .i64 jump, .int .i64 a, .int .i64 t0, .int .i64 els] M1 (setK KN (⟨yo, yd, ya, yb, yc, yn, yt⟩ : Ins)) w7) := by
              refine F6.out.put bt7 ?_ hg2 h8w hkk
              unfold CodeF
              rw [HML1.out]
              refine rp7.congr (fun q hq r _ => ?_)
              rw [NX2.out q hq]
              split <;> rfl
            refine hK.out _ _ (SK.out _ ((bt7.block _ (by have := b6'.size; omega) (by omega)).trans (b6'.block _ hx8 hne.1 hne.2))) (fun hHeld => ?_)
            clear hK K
            refine wpAnyH_done (by kernel_rfl) ?_ _
            clear hHeld p0 p1 p2 p3 p4 p5 p6 pf hw7 bt7 rp7 R6 F6 b6' m0 m1 m2 m3 m4 m5 m6 SK ST HROW NX2 HML1 x8c
            go_wp2
            go_roundg (nc - (k + 1))
            case rel => exact ⟨k + 1, by omega, by go_num, by rw [HM1.out, UP1.out]; exact F7.out⟩
            case measure => omega
          · have hkn : nc = k := by omega
            subst hkn
            have hal : midS foldF s0 code nc = (scanUp foldF s0 code nc).2 := by have := midS_all (f := foldF) (s0 := s0) (code := code); rw [HNC.out] at this; exact this
            rw [hal] at hF
            have hfu : foldUp code = scanUp foldF s0 code nc := by unfold foldUp; rw [HNC.out]; rfl
            have hdl : (scanUp foldF s0 code nc).2.length = nc := scanUp_len nc (by rw [HNC.out]; exact Nat.le_refl _)
            have hdw : ∀ z ∈ (scanUp foldF s0 code nc).2, z.wf ∧ z.t.size ≤ maxLen := (foldUp_ki HWZ.out nc).2
            have FB := hideP (foldB_J (⟨code, jump, a, t0, els⟩ : Blk))
            simp only [hfu] at FB
            obtain ⟨D, hD⟩ : ∃ D, (scanUp foldF s0 code nc).2 = D := ⟨_, rfl⟩
            obtain ⟨KN, hKN⟩ : ∃ KN, (scanUp foldF s0 code nc).1 = KN := ⟨_, rfl⟩
            rw [hD] at hF hdl hdw FB
            rw [hKN] at hF FB
            have HDL := hideP hdl
            have HDW := hideP hdw
            clear hal hfu hD hKN hdl hdw
            have hgcq : gq ≠ gc ∧ w1.heap.size ≠ gc := by
              by_cases h0 : nc = 0
              · have := HCO.out.none' (by rw [HNC.out]; exact h0)
                omega
              · have := hgo.out (by omega)
                exact ⟨fun e => this.2.2 e.symm, fun e => this.1 e.symm⟩
            have hgl : 0 < D.length → gc < wo.heap.size := fun h0 => (hgo.out (by rw [HDL.out] at h0; exact h0)).2.1
            have FIN : Hid (∀ W4 nb, But gc wo W4 → (0 < D.length → CodeF W4 gc oc D) → nb.code = D → nb.wf → foldB (⟨code, jump, a, t0, els⟩ : Blk) = nb → SgAt w w1.heap.size #[.slice us sizes.length cs, .int .i64 p, .int .i64 q, .int .i64 (V : Int), .slice ub blocks.length cb] #[.slice none 0 0, .int .i64 0, .int .i64 0, .int .i64 0, .slice none 0 0] #[.slice sa sizes.length kS, .int .i64 p, .int .i64 q, .int .i64 (V : Int), .slice (some ⟨gq, 0, none⟩) blocks.length cq] ⟨sizes, p, q, (V : Int), midH foldB blocks (j + 1)⟩ sa kS gq cq (((((W4.setCell ⟨gq, j * 5, none⟩ (.slice uc nc kc)).setCell ⟨gq, j * 5 + 1, none⟩ (.int .i64 nb.jump)).setCell ⟨gq, j * 5 + 2, none⟩ (.int .i64 nb.a)).setCell ⟨gq, j * 5 + 3, none⟩ (.int .i64 nb.to)).setCell ⟨gq, j * 5 + 4, none⟩ (.int .i64 nb.els))) := fun W4 nb h1 h2 h3 h4 h5 => by
              have h6 := HNX.out W4 nb h1 (by rw [h3]; exact h2) (by rw [h3]; exact HDL.out) h4 (by rw [h3]; exact HDW.out) lo hol (fun h0 => by rw [h3] at h0; exact fun e => hgcq.2 e.symm)
              rw [h3, HDL.out] at h6
              rw [E9.out, h5]
              exact h6
            have QC : Hid (∀ W4, But gc wo W4 → W4.cell? ⟨w1.heap.size, 4, none⟩ = some (.slice (some ⟨gq, 0, none⟩) blocks.length cq) ∧ W4.cell? ⟨gq, j * 5, none⟩ = some (.slice uc nc kc) ∧ W4.cell? ⟨gq, j * 5 + 1, none⟩ = some (.int .i64 jump) ∧ W4.cell? ⟨gq, j * 5 + 2, none⟩ = some (.int .i64 a) ∧ W4.cell? ⟨gq, j * 5 + 3, none⟩ = some (.int .i64 t0) ∧ W4.cell? ⟨gq, j * 5 + 4, none⟩ = some (.int .i64 els) ∧ ∀ i, W4.frozen? ⟨gq, i, none⟩ = false) := fun W4 h1 => by
              have hq := h1.block gq (by omega) hgcq.1
              have c := fun r (hr : r < 5) => (World.cell?_of_block (a := ⟨gq, j * 5 + r, none⟩) hq).trans (HCE.out r hr)
              exact ⟨(cells_of ((h1.block _ hol hgcq.2).trans BO.out)).1 4, c 0 (by omega), c 1 (by omega), c 2 (by omega), c 3 (by omega), c 4 (by omega), (cells_of (hq.trans HPL.out)).2⟩
            clear x8c
            by_cases h1 : jump = 1
            · subst h1
              obtain ⟨an, rfl⟩ : ∃ an : Nat, a = an := ⟨a.toNat, by have := hjj rfl; omega⟩
              have han : an < V := by have := hjj rfl; omega
              obtain ⟨k1, kf1⟩ := hF.out.kn.has han
              obtain ⟨u, v1, hvu, vf1⟩ := hF.out.kn.val han
              have fc := (cells_of hF.out.x8).1
              have x0 := fc 0
              have x1 := fc 1
              have x2 := fc 2
              have x3 := fc 3
              have x4 := fc 4
              simp at x0 x1 x2 x3 x4
              clear fc
              cases hKa : KN an with
              | none =>
                rw [hKa] at k1
                simp at k1
                have EQ : Hid (foldB (⟨code, 1, (an : Int), t0, els⟩ : Blk) = ⟨D, 1, (an : Int), t0, els⟩) := by show _ = _; rw [FB.out]; simp [foldJ, hKa]
                go_upto_region 19 with fail
                clear k1 kf1 v1 vf1 hvu x0 x1 x2 x3 x4
                have fc := (cells_of hF.out.x8).1
                have f0 := fc 0
                have f1 := fc 1
                have f2 := fc 2
                have f3 := fc 3
                have f4 := fc 4
                simp at f0 f1 f2 f3 f4
                clear fc
                obtain ⟨o4, q0, q1, q2, q3, q4, qf⟩ := QC.out wr hF.out.bt
                have NF := hideP (FIN.out wr (⟨D, 1, (an : Int), t0, els⟩ : Blk) hF.out.bt hF.out.cf rfl HWF.out EQ.out)
                simp only at NF
                go_upto_region 6 with fail
                obtain ⟨w9, hw9⟩ : ∃ w9, ((((wr.setCell ⟨gq, j * 5, none⟩ (.slice uc nc kc)).setCell ⟨gq, j * 5 + 1, none⟩ (.int .i64 1)).setCell ⟨gq, j * 5 + 2, none⟩ (.int .i64 (an : Int))).setCell ⟨gq, j * 5 + 3, none⟩ (.int .i64 t0)).setCell ⟨gq, j * 5 + 4, none⟩ (.int .i64 els) = w9 := ⟨_, rfl⟩
                rw [hw9] at NF ⊢
                clear hw9 o4 q0 q1 q2 q3 q4 qf f0 f1 f2 f3 f4
                go_wp2
                go_roundg (blocks.length - (j + 1))
                case rel => exact ⟨j + 1, by omega, by go_num, NF.out⟩
                case measure => omega
              | some v =>
                rw [hKa] at k1
                simp at k1
                obtain rfl : u = v := hvu v hKa
                have xf := (cells_of hF.out.x8).2
                by_cases hu0 : u = 0
                · subst hu0
                  have EQ : Hid (foldB (⟨code, 1, (an : Int), t0, els⟩ : Blk) = ⟨D, 0, 0, els, 0⟩) := by show _ = _; rw [FB.out]; simp [foldJ, hKa]
                  obtain ⟨z4, bu⟩ := put5n hF.out.x8 rfl (.slice uc nc kc) (.int .i64 0) (.int .i64 0) (.int .i64 els) (.int .i64 0)
                  go_upto_region 19 with fail
                  obtain ⟨w8, hw8⟩ : ∃ w8, ((((wr.setCell ⟨b8, 0, none⟩ (.slice uc nc kc)).setCell ⟨b8, 1, none⟩ (.int .i64 0)).setCell ⟨b8, 2, none⟩ (.int .i64 0)).setCell ⟨b8, 3, none⟩ (.int .i64 els)).setCell ⟨b8, 4, none⟩ (.int .i64 0) = w8 := ⟨_, rfl⟩
                  rw [hw8] at z4 bu ⊢
                  have F8 := hideP (hF.out.box bu z4 h8w hgl)
                  clear hw8 z4 bu k1 kf1 v1 vf1 hvu x0 x1 x2 x3 x4 xf
                  have fc := (cells_of F8.out.x8).1
                  have f0 := fc 0
                  have f1 := fc 1
                  have f2 := fc 2
                  have f3 := fc 3
                  have f4 := fc 4
                  simp at f0 f1 f2 f3 f4
                  clear fc
                  obtain ⟨o4, q0, q1, q2, q3, q4, qf⟩ := QC.out w8 F8.out.bt
                  have NF := hideP (FIN.out w8 (⟨D, 0, 0, els, 0⟩ : Blk) F8.out.bt F8.out.cf rfl ⟨i64_zero, i64_zero, HWF.out.2.2.2, i64_zero⟩ EQ.out)
                  simp only at NF
                  go_upto_region 6 with fail
                  obtain ⟨w9, hw9⟩ : ∃ w9, ((((w8.setCell ⟨gq, j * 5, none⟩ (.slice uc nc kc)).setCell ⟨gq, j * 5 + 1, none⟩ (.int .i64 0)).setCell ⟨gq, j * 5 + 2, none⟩ (.int .i64 0)).setCell ⟨gq, j * 5 + 3, none⟩ (.int .i64 els)).setCell ⟨gq, j * 5 + 4, none⟩ (.int .i64 0) = w9 := ⟨_, rfl⟩
                  rw [hw9] at NF ⊢
                  clear hw9 o4 q0 q1 q2 q3 q4 qf f0 f1 f2 f3 f4
                  go_wp2
                  go_roundg (blocks.length - (j + 1))
                  case rel => exact ⟨j + 1, by omega, by go_num, NF.out⟩
                  case measure => omega
                · have hub : (u == 0) = false := by simpa using hu0
                  have EQ : Hid (foldB (⟨code, 1, (an : Int), t0, els⟩ : Blk) = ⟨D, 0, 0, t0, 0⟩) := by show _ = _; rw [FB.out]; simp [foldJ, hKa, hu0]
                  obtain ⟨z4, bu⟩ := put5n hF.out.x8 rfl (.slice uc nc kc) (.int .i64 0) (.int .i64 0) (.int .i64 t0) (.int .i64 0)
                  go_upto_region 19 with fail
                  obtain ⟨w8, hw8⟩ : ∃ w8, ((((wr.setCell ⟨b8, 0, none⟩ (.slice uc nc kc)).setCell ⟨b8, 1, none⟩ (.int .i64 0)).setCell ⟨b8, 2, none⟩ (.int .i64 0)).setCell ⟨b8, 3, none⟩ (.int .i64 t0)).setCell ⟨b8, 4, none⟩ (.int .i64 0) = w8 := ⟨_, rfl⟩
                  rw [hw8] at z4 bu ⊢
                  have F8 := hideP (hF.out.box bu z4 h8w hgl)
                  clear hw8 z4 bu k1 kf1 v1 vf1 hvu x0 x1 x2 x3 x4 xf
                  have fc := (cells_of F8.out.x8).1
                  have f0 := fc 0
                  have f1 := fc 1
                  have f2 := fc 2
                  have f3 := fc 3
                  have f4 := fc 4
                  simp at f0 f1 f2 f3 f4
                  clear fc
                  obtain ⟨o4, q0, q1, q2, q3, q4, qf⟩ := QC.out w8 F8.out.bt
                  have NF := hideP (FIN.out w8 (⟨D, 0, 0, t0, 0⟩ : Blk) F8.out.bt F8.out.cf rfl ⟨i64_zero, i64_zero, HWF.out.2.2.1, i64_zero⟩ EQ.out)
                  simp only at NF
                  go_upto_region 6 with fail
                  obtain ⟨w9, hw9⟩ : ∃ w9, ((((w8.setCell ⟨gq, j * 5, none⟩ (.slice uc nc kc)).setCell ⟨gq, j * 5 + 1, none⟩ (.int .i64 0)).setCell ⟨gq, j * 5 + 2, none⟩ (.int .i64 0)).setCell ⟨gq, j * 5 + 3, none⟩ (.int .i64 t0)).setCell ⟨gq, j * 5 + 4, none⟩ (.int .i64 0) = w9 := ⟨_, rfl⟩
                  rw [hw9] at NF ⊢
                  clear hw9 o4 q0 q1 q2 q3 q4 qf f0 f1 f2 f3 f4
                  go_wp2
                  go_roundg (blocks.length - (j + 1))
                  case rel => exact ⟨j + 1, by omega, by go_num, NF.out⟩
                  case measure => omega
            · have h1b : (jump == 1) = false := by simpa using h1
              have fc := (cells_of hF.out.x8).1
              have x0 := fc 0
              have x1 := fc 1
              have x2 := fc 2
              have x3 := fc 3
              have x4 := fc 4
              simp at x0 x1 x2 x3 x4
              clear fc
              have EQ : Hid (foldB (⟨code, jump, a, t0, els⟩ : Blk) = ⟨D, jump, a, t0, els⟩) := by show _ = _; rw [FB.out]; simp [foldJ, h1]
              go_upto_region 19 with fail
              clear x0 x1 x2 x3 x4
              have fc := (cells_of hF.out.x8).1
              have f0 := fc 0
              have f1 := fc 1
              have f2 := fc 2
              have f3 := fc 3
              have f4 := fc 4
              simp at f0 f1 f2 f3 f4
              clear fc
              obtain ⟨o4, q0, q1, q2, q3, q4, qf⟩ := QC.out wr hF.out.bt
              have NF := hideP (FIN.out wr (⟨D, jump, a, t0, els⟩ : Blk) hF.out.bt hF.out.cf rfl HWF.out EQ.out)
              simp only at NF
              go_upto_region 6 with fail
              obtain ⟨w9, hw9⟩ : ∃ w9, ((((wr.setCell ⟨gq, j * 5, none⟩ (.slice uc nc kc)).setCell ⟨gq, j * 5 + 1, none⟩ (.int .i64 jump)).setCell ⟨gq, j * 5 + 2, none⟩ (.int .i64 a)).setCell ⟨gq, j * 5 + 3, none⟩ (.int .i64 t0)).setCell ⟨gq, j * 5 + 4, none⟩ (.int .i64 els) = w9 := ⟨_, rfl⟩
              rw [hw9] at NF ⊢
              clear hw9 o4 q0 q1 q2 q3 q4 qf f0 f1 f2 f3 f4
              go_wp2
              go_roundg (blocks.length - (j + 1))
              case rel => exact ⟨j + 1, by omega, by go_num, NF.out⟩
              case measure => omega
      · have hjn : j = blocks.length := by omega
        subst hjn
        have MA : Hid (midH foldB blocks blocks.length = blocks.map foldB) := midH_all foldB blocks
        rw [MA.out] at hI
        have z := hI.out.bR
        have fc := (cells_of hI.out.bO).1
        have d0 := fc 0
        have d1 := fc 1
        have d2 := fc 2
        have d3 := fc 3
        have d4 := fc 4
        simp at d0 d1 d2 d3 d4
        clear fc
        have fc := (cells_of z).1
        have r0 := fc 0
        have r1 := fc 1
        have r2 := fc 2
        have r3 := fc 3
        have r4 := fc 4
        simp at r0 r1 r2 r3 r4
        clear fc
        have rf := (cells_of z).2
        obtain ⟨z4, bu⟩ := put5n z rfl (.slice sa sizes.length kS) (.int .i64 p) (.int .i64 q) (.int .i64 (V : Int)) (.slice (some ⟨gq, 0, none⟩) blocks.length cq)
        have ZF := hideP z4
        have BU := hideP bu
        clear z z4 bu
        go_wp2
        refine bodyPost_ret (results_cell_row rfl _ _ (w.heap.size + 1) 29 #[.slice sa sizes.length kS, .int .i64 p, .int .i64 q, .int .i64 (V : Int), .slice (some ⟨gq, 0, none⟩) blocks.length cq] (0, 0) _ rfl ZF.out Try.underlying29 rfl (by kernel_rfl)) rfl ?_
        rw [E.out]
        have hlt9 := hltP hI.out.bR
        obtain ⟨rows9, hr9, _⟩ := hI.out.cp
        have gr9 := hr9.gr9 (by simp only [List.length_map]; exact hbm)
        simp only [List.length_map] at gr9
        exact ⟨_, rfl, GrKeeps.mono (GrKeeps.but gr9 (by omega) BU.out) (by omega), hI.out.bel.trans (BU.out.below (by omega) (by omega))⟩
theorem spec_fold (x : Gr) (w : World) (B : Nat) (v : Array Value) (h : GrIs w B v x) (GO : OkIs 26 x) (hf : Fits x) :
    Calls Try.prog 8 #[.agg v] w fun en w' => ∃ v', en = .returned (.agg v') ∧ GrIs w' w.heap.size v' (foldP x) ∧ Below w.heap.size w w' := spec_fold0 x w B v h GO hf
end Go.Proofs.Ytjmclmbepnbeoaa
