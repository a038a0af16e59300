/- The contract of spec.Copies (written by wip/mkfldt.py). -/
import Derived.Test.YtjmclmbepnbeoaaUseCop
import Derived.Test.YtjmclmbepnbeoaaChAll
import Derived.Test.YtjmclmbepnbeoaaPut5
import Derived.Test.YtjmclmbepnbeoaaCpyB
import Derived.Deep.RegionHeld3
import Derived.Deep.LoopGhost
import Derived.Deep.CutRange
import Derived.Conc.WalkWords
namespace Go.Proofs.Ytjmclmbepnbeoaa
open Go.ChangeShapes Go.WideShapes Go.ChangeAt Go.RowKit
/-- Within a round: the code done so far in its place, the block's own variable, of what each slot is a copy. -/
structure Cs9 (wr : World) (gc oc b8 ob V : Nat) (c8 : Array Value) (code : List Ins) (f : Int → Int) (W : World) : Prop where
  bt : But gc wr W
  cf : 0 < code.length → CodeF W gc oc code
  x8 : W.heap[b8]? = some (.cells c8 44 (0, 0))
  of : OfAt ob V f W
section
variable {wr W W' : World} {gc oc b8 ob V : Nat} {c8 c8' : Array Value} {code : List Ins} {f f' : Int → Int}
theorem Cs9.stays (h : Cs9 wr gc oc b8 ob V c8 code f W) (b : Below W.heap.size W W') : Cs9 wr gc oc b8 ob V c8 code f W' :=
  ⟨h.bt.belowN b, fun h0 => (h.cf h0).keep (b.block _ (h.cf h0).lt), (b.block _ (Array.getElem?_eq_some_iff.1 h.x8).1).trans h.x8, h.of.stays b⟩
theorem Cs9.ne (h : Cs9 wr gc oc b8 ob V c8 code f W) : b8 ≠ ob := by
  obtain ⟨cw, b1, _⟩ := h.of
  have e := h.x8
  intro he
  rw [he, b1] at e
  injection e with e
  injection e with _ e2
  exact absurd e2 (by decide)
theorem Cs9.step (h : Cs9 wr gc oc b8 ob V c8 code f W) (b : But ob W W') (hk : wr.heap.size ≤ ob) (hg : 0 < code.length → gc < wr.heap.size) (of : OfAt ob V f' W') : Cs9 wr gc oc b8 ob V c8 code f' W' := by
  have hn := h.ne
  refine ⟨h.bt.next b hk, fun h0 => ?_, (b.block _ (Array.getElem?_eq_some_iff.1 h.x8).1 hn).trans h.x8, of⟩
  have := hg h0
  exact (h.cf h0).keep (b.block _ (h.cf h0).lt (by omega))
theorem Cs9.put (h : Cs9 wr gc oc b8 ob V c8 code f W) (b : But gc W W') {code' : List Ins} (hc : CodeF W' gc oc code') (hg : gc < wr.heap.size) (h8 : wr.heap.size ≤ b8) (hk : wr.heap.size ≤ ob) : Cs9 wr gc oc b8 ob V c8 code' f W' :=
  ⟨h.bt.same b, fun _ => hc, keepQ b h.x8 (by omega), h.of.but b (by omega)⟩
theorem Cs9.box (h : Cs9 wr gc oc b8 ob V c8 code f W) (b : But b8 W W') (hb : W'.heap[b8]? = some (.cells c8' 44 (0, 0))) (h8 : wr.heap.size ≤ b8) (hg : 0 < code.length → gc < wr.heap.size) : Cs9 wr gc oc b8 ob V c8' code f W' := by
  have hn := h.ne
  refine ⟨h.bt.next b h8, fun h0 => ?_, hb, h.of.but b (fun e => hn e.symm)⟩
  have := hg h0
  exact (h.cf h0).keep (b.block _ (h.cf h0).lt (by omega))
end
/-- The slots in their order. -/
def idl (s : Nat) : List Int := (List.range s).map fun k : Nat => (k : Int)
theorem idl_len (s : Nat) : (idl s).length = s := by simp [idl]
theorem idl_succ (s : Nat) : idl (s + 1) = idl s ++ [(s : Int)] := by simp [idl, List.range_succ]
theorem ofStart {W : World} {B V : Nat} {v : Value} (h : OwnI W B v (idl V)) : ∃ ob cv, v = .slice (some ⟨ob, 0, none⟩) V cv ∧ B ≤ ob ∧ OfAt ob V (fun s => s) W := by
  obtain ⟨g, cap, cur, hv, hB, hh, hc, _, hs, hx⟩ := h.parts
  rw [idl_len] at hv hc
  refine ⟨g, cap, hv, hB, cur, hh, by omega, fun s hs => ?_⟩
  have := hx s (by rw [idl_len]; exact hs)
  simpa [idl] using this
theorem OfOk.made {V : Nat} {f : Int → Int} (h : OfOk V f) {y : Ins} (ha : y.op = 1 → 0 ≤ y.a ∧ y.a < V) : OfOk V (madeX f y) := by
  intro s h0 h1
  unfold madeX
  split
  · exact h s h0 h1
  · simp only
    split
    · rename_i es
      split
      · rename_i e1
        exact ha e1
      · omega
    · split
      · exact ⟨h0, h1⟩
      · exact h s h0 h1
theorem useX_odS (f : Int → Int) (x : Ins) : (useX f x).op = x.op ∧ (useX f x).d = x.d ∧ (x.op = 1 → (useX f x).a = f x.a) := by
  unfold useX
  refine ⟨?_, ?_, fun h => ?_⟩
  · split
    · rfl
    · split
      · rfl
      · split
        · rfl
        · split <;> rfl
  · split
    · rfl
    · split
      · rfl
      · split
        · rfl
        · split <;> rfl
  · rw [if_pos (Or.inl h)]
theorem copUp_ok {V : Nat} {code : List Ins} (hV : V ≤ 1000) (hw : ∀ x ∈ code, x.wf ∧ x.t.size ≤ maxLen) (hz : ∀ z ∈ code, (∀ s ∈ usesP z, 0 ≤ s ∧ s < V) ∧ (¬ (z.op = 4 ∨ z.op = 6) → 0 ≤ z.d ∧ z.d < V)) : ∀ j, OfOk V (scanUp copF (fun s => s) code j).1 ∧ ∀ y ∈ (scanUp copF (fun s => s) code j).2, y.wf ∧ y.t.size ≤ maxLen
  | 0 => ⟨fun s h0 h1 => ⟨h0, h1⟩, fun y hy => (by simp [scanUp] at hy)⟩
  | j + 1 => by
    obtain ⟨h1, h2⟩ := copUp_ok hV hw hz j
    by_cases h : j < code.length
    · rw [scanUp_at h]
      have hx := h1.use (hw _ (List.getElem_mem h)) hV (hz _ (List.getElem_mem h)).1
      obtain ⟨u1, u2, u3⟩ := useX_odS (scanUp copF (fun s => s) code j).1 code[j]
      refine ⟨h1.made (fun e => ?_), fun y hy => ?_⟩
      · rw [u1] at e
        rw [u3 e]
        have := (hz _ (List.getElem_mem h)).1 (code[j].a) (by simp [usesP, e])
        exact h1 _ this.1 this.2
      · rcases List.mem_append.1 hy with hy | hy
        · exact h2 y hy
        · rw [List.mem_singleton.1 hy]; exact hx
    · have e : scanUp copF (fun s => s) code (j + 1) = scanUp copF (fun s => s) code j := by
        show (match code[j]? with | some x => _ | none => _) = _
        rw [List.getElem?_eq_none (by omega)]
      rw [e]; exact ⟨h1, h2⟩
/-- The first state of every block. -/
def i0 : Int → Int := fun s => s
set_option maxRecDepth 100000 in
set_option maxHeartbeats 16000000 in
theorem spec_copies0 (x : Gr) (w : World) (B : Nat) (v : Array Value) (h : GrIs w B v x) (GO : OkIs 26 x) (hf : Fits x) :
    Calls Try.prog 14 #[.agg v] w fun en w' => SpGr9 w (copP x) en w' := by
  obtain ⟨y, hy⟩ : ∃ y, grOk x = y := ⟨_, rfl⟩
  have HY := hideP hy
  have CY : Hid (∀ W, Below w.heap.size w W → Calls Try.prog 26 #[.agg v] W fun en w' => en = .returned (.bool y) ∧ Below W.heap.size W w') := fun W hW => by rw [← hy]; exact GO W B v (GrKeeps.stays h hW)
  have CC : Hid (∀ W, Below w.heap.size w W → Calls Try.prog 25 #[.agg v] W fun en w' => ∃ v', en = .returned (.agg v') ∧ GrIs w' W.heap.size v' x ∧ Below W.heap.size W w' ∧ CpGrD W.heap.size x v' w') := fun W hW => spec_copyD x W B v (GrKeeps.stays h hW) hf
  obtain ⟨X, hX⟩ : ∃ X, copP x = X := ⟨_, rfl⟩
  have HX := hideP hX
  have HIN := hideP (fun hk => ins_of (x := x) hk)
  rw [hX]
  clear hy hX GO hf
  obtain ⟨sizes, p, q, r, blocks⟩ := x
  obtain ⟨us, cs, ub, cb, rfl, _, _, hbb⟩ := h
  simp only at *
  have hbm := hbb.1
  have AL := hideP (below2 w (.cells #[.slice us sizes.length cs, .int .i64 p, .int .i64 q, .int .i64 r, .slice ub blocks.length cb] 29) (.cells #[.slice none 0 0, .int .i64 0, .int .i64 0, .int .i64 0, .slice none 0 0] 29))
  have TW := hideP (fun w1 => two (w := w) (w1 := w1) (o1 := .cells #[.slice us sizes.length cs, .int .i64 p, .int .i64 q, .int .i64 r, .slice ub blocks.length cb] 29) (o2 := .cells #[.slice none 0 0, .int .i64 0, .int .i64 0, .int .i64 0, .slice none 0 0] 29))
  have HZ2 : Hid (((w.alloc (.cells #[.slice us sizes.length cs, .int .i64 p, .int .i64 q, .int .i64 r, .slice ub blocks.length cb] 29)).alloc (.cells #[.slice none 0 0, .int .i64 0, .int .i64 0, .int .i64 0, .slice none 0 0] 29)).heap.size = w.heap.size + 2) := by show _ = _; simp
  clear hbb
  go_enter Try.func14, Try.ntmps14
  go_wp2_with fail
  refine (CC.out _ AL.out).mono ?_
  rintro e1 w1 ⟨v1, rfl, _, bel1, sa, kS, gq, cq, rows1, rfl, cp1, dis1⟩
  obtain ⟨P1, RR, L1, hw⟩ := TW.out w1 bel1
  rw [HZ2.out] at cp1
  simp only at cp1 dis1 ⊢
  have al2 := (Below.refl w1.heap.size w1).alloc (Nat.le_refl _) (.cells #[.slice sa sizes.length kS, .int .i64 p, .int .i64 q, .int .i64 r, .slice (some ⟨gq, 0, none⟩) blocks.length cq] 29)
  have lo : w.heap.size + 2 ≤ gq ∧ gq < w1.heap.size := cp1.own.low gq rfl
  have I0 : Hid (SgAt w w1.heap.size #[.slice us sizes.length cs, .int .i64 p, .int .i64 q, .int .i64 r, .slice ub blocks.length cb] #[.slice none 0 0, .int .i64 0, .int .i64 0, .int .i64 0, .slice none 0 0] #[.slice sa sizes.length kS, .int .i64 p, .int .i64 q, .int .i64 r, .slice (some ⟨gq, 0, none⟩) blocks.length cq] ⟨sizes, p, q, r, blocks⟩ sa kS gq cq (w1.alloc (.cells #[.slice sa sizes.length kS, .int .i64 p, .int .i64 q, .int .i64 r, .slice (some ⟨gq, 0, none⟩) blocks.length cq] 29))) := ⟨⟨rows1, cp1.stays al2, dis1⟩, (al2.block _ (hltP P1)).trans P1, (al2.block _ (hltP RR)).trans RR, newB1 w1 _, below_trans hw al2⟩
  clear bel1 P1 RR hw TW AL CC al2 cp1 dis1 HZ2 L1
  go_upto_region 2 with fail
  obtain ⟨Wb, hWb⟩ : ∃ Wb, w1.alloc (.cells #[.slice sa sizes.length kS, .int .i64 p, .int .i64 q, .int .i64 r, .slice (some ⟨gq, 0, none⟩) blocks.length cq] 29) = Wb := ⟨_, rfl⟩
  rw [hWb] at I0 ⊢
  clear hWb
  have fc := (cells_of I0.out.bP).1
  have c0 := fc 0
  have c1 := fc 1
  have c2 := fc 2
  have c3 := fc 3
  have c4 := fc 4
  simp at c0 c1 c2 c3 c4
  clear fc
  go_wp2_with fail
  refine (CY.out _ I0.out.bel).mono ?_
  rintro e2 w2 ⟨rfl, bel2⟩
  have I2 := hideP (I0.out.stays bel2)
  clear CY c0 c1 c2 c3 c4 I0 bel2
  cases y with
  | false =>
    have E : Hid (X = ⟨sizes, p, q, r, blocks⟩) := by show _ = _; rw [← HX.out]; exact copP_no (by rw [HY.out]; simp)
    have z := I2.out.bR
    have fc := (cells_of I2.out.bO).1
    have d0 := fc 0
    have d1 := fc 1
    have d2 := fc 2
    have d3 := fc 3
    have d4 := fc 4
    simp at d0 d1 d2 d3 d4
    clear fc
    have fc := (cells_of z).1
    have r0 := fc 0
    have r1 := fc 1
    have r2 := fc 2
    have r3 := fc 3
    have r4 := fc 4
    simp at r0 r1 r2 r3 r4
    clear fc
    have rf := (cells_of z).2
    obtain ⟨z4, bu⟩ := put5n z rfl (.slice sa sizes.length kS) (.int .i64 p) (.int .i64 q) (.int .i64 r) (.slice (some ⟨gq, 0, none⟩) blocks.length cq)
    have ZF := hideP z4
    have BU := hideP bu
    clear z z4 bu
    go_wp2
    refine bodyPost_ret (results_cell_row rfl _ _ (w.heap.size + 1) 29 #[.slice sa sizes.length kS, .int .i64 p, .int .i64 q, .int .i64 r, .slice (some ⟨gq, 0, none⟩) blocks.length cq] (0, 0) _ rfl ZF.out Try.underlying29 rfl (by kernel_rfl)) rfl ?_
    rw [E.out]
    have hlt9 := hltP I2.out.bR
    obtain ⟨rows9, hr9, _⟩ := I2.out.cp
    have gr9 := hr9.gr9 hbm
    exact ⟨_, rfl, GrKeeps.mono (GrKeeps.but gr9 (by omega) BU.out) (by omega), I2.out.bel.trans (BU.out.below (by omega) (by omega))⟩
  | true =>
    have hok0 := HY.out
    simp only [grOk, frOk, Bool.and_eq_true, decide_eq_true_eq] at hok0
    obtain ⟨V, hV⟩ : ∃ V : Nat, r = (V : Int) := ⟨r.toNat, by omega⟩
    subst hV
    have hV1 : V ≤ 1000 := by omega
    have hbl3 : blocks.length ≤ 300 := by omega
    have hcl1 : ∀ j (hj : j < blocks.length), (blocks[j]).code.length ≤ 1000 := fun j hj => by
      obtain ⟨R, hR⟩ := codeAll_split blocks j hj
      have h1 := hok0.1.1.2
      rw [hR] at h1
      simp only [List.length_append] at h1
      omega
    have HCL := hideP hcl1
    have HJ : Hid (∀ j (hj : j < blocks.length), (blocks[j]).jump ≠ 0 → 0 ≤ (blocks[j]).a ∧ (blocks[j]).a < V) := fun j hj e0 => by
      have h1 := List.all_eq_true.1 hok0.2 _ (List.getElem_mem hj)
      unfold jmpOk vOk at h1
      by_cases e1 : (blocks[j]).jump = 1
      · simp [e1] at h1
        omega
      · by_cases e2 : (blocks[j]).jump = 2
        · simp [e2] at h1
          omega
        · simp [e0, e1, e2] at h1
    have HZ : Hid (∀ j (hj : j < blocks.length), ∀ z ∈ (blocks[j]).code, (∀ s ∈ usesP z, 0 ≤ s ∧ s < V) ∧ (¬ (z.op = 4 ∨ z.op = 6) → 0 ≤ z.d ∧ z.d < V)) := fun j hj z hz => by
      have h1 := ins_uses (HIN.out HY.out _ (List.getElem_mem hj) z hz)
      refine ⟨h1.1, fun hn => ?_⟩
      rcases h1.2 with h2 | h2
      · exact absurd h2.2 hn
      · omega
    have E : Hid (X = ⟨sizes, p, q, (V : Int), blocks.map copB⟩) := by show _ = _; rw [← HX.out]; exact copP_ok HY.out
    clear hok0 hcl1 HX HIN
    go_wp2
    go_loopg [4] blocks.length (fun gk ix wr => ∃ j : Nat, gk + j = blocks.length ∧ ix = .int .i64 j ∧ Hid (SgAt w w1.heap.size #[.slice us sizes.length cs, .int .i64 p, .int .i64 q, .int .i64 (V : Int), .slice ub blocks.length cb] #[.slice none 0 0, .int .i64 0, .int .i64 0, .int .i64 0, .slice none 0 0] #[.slice sa sizes.length kS, .int .i64 p, .int .i64 q, .int .i64 (V : Int), .slice (some ⟨gq, 0, none⟩) blocks.length cq] ⟨sizes, p, q, (V : Int), midH copB blocks j⟩ sa kS gq cq wr))
    case atStart => exact ⟨0, by simp, rfl, I2.out⟩
    case round =>
      obtain ⟨j, hgk, rfl, hI⟩ := hrel
      clear I2
      obtain ⟨wo, hwo⟩ : ∃ wo, wo = wr := ⟨_, rfl⟩
      subst hwo
      have b4 := (cells_of hI.out.bP).1 4
      simp at b4
      by_cases hlt : j < blocks.length
      · have hjm : j < (midH copB blocks j).length := by rw [midH_len]; exact hlt
        have hmj : (midH copB blocks j)[j] = blocks[j] := midH_ge copB blocks j j (Nat.le_refl _) hlt
        obtain ⟨uc, kc, gc, oc, hcells, hco, hwf, hwz, ⟨cq0, Tq0, hpl⟩, hnx⟩ := hI.out.turn (j := j) hjm
        simp only [hmj] at hcells hco hwf hwz hnx
        have hzz := HZ.out j hlt
        have hjj := HJ.out j hlt
        have hcl := HCL.out j hlt
        have e9 : midH copB blocks (j + 1) = (midH copB blocks j).set j (copB (blocks[j])) := by
          show (midH copB blocks j).set j (copB (blocks[j]!)) = _
          rw [getElem!_pos blocks j hlt]
        have E9 := hideP e9
        obtain ⟨BK, hBK⟩ : ∃ BK, blocks[j] = BK := ⟨_, rfl⟩
        rw [hBK] at hcells hco hwf hwz hzz hjj hcl E9
        simp only [hBK] at hnx
        have HNX := hideP hnx
        clear hnx e9 hmj hBK hjm
        obtain ⟨code, jump, a, t0, els⟩ := BK
        simp only at hcells hco hwz hzz hjj hcl HNX
        obtain ⟨nc, hnc⟩ : ∃ nc, code.length = nc := ⟨_, rfl⟩
        rw [hnc] at hcells hcl HNX
        have HNC := hideP hnc
        have HCO := hideP hco
        have HWF := hideP hwf
        have HWZ := hideP hwz
        have HZZ := hideP hzz
        have q0 : wo.cell? ⟨gq, j * 5, none⟩ = some (.slice uc nc kc) := hcells 0 (by omega)
        have q1 : wo.cell? ⟨gq, j * 5 + 1, none⟩ = some (.int .i64 jump) := hcells 1 (by omega)
        have q2 : wo.cell? ⟨gq, j * 5 + 2, none⟩ = some (.int .i64 a) := hcells 2 (by omega)
        have q3 : wo.cell? ⟨gq, j * 5 + 3, none⟩ = some (.int .i64 t0) := hcells 3 (by omega)
        have q4 : wo.cell? ⟨gq, j * 5 + 4, none⟩ = some (.int .i64 els) := hcells 4 (by omega)
        have HCE := hideP hcells
        have HPL := hideP hpl
        have o4 := (cells_of hI.out.bO).1 4
        simp at o4
        have hol : w1.heap.size < wo.heap.size := hltP hI.out.bO
        have hNl : w.heap.size < wo.heap.size := hltP hI.out.bP
        have BO := hideP hI.out.bO
        have BP := hideP hI.out.bP
        have al := (Below.refl wo.heap.size wo).alloc (Nat.le_refl _) (.cells #[.slice uc nc kc, .int .i64 jump, .int .i64 a, .int .i64 t0, .int .i64 els] 44)
        have X8 := hideP (newB1 wo (.cells #[.slice uc nc kc, .int .i64 jump, .int .i64 a, .int .i64 t0, .int .i64 els] 44))
        have AL := hideP al
        clear hcells hco hwf hwz hzz hpl hnc al hI
        go_upto_region 8 with fail
        obtain ⟨wb, hwb⟩ : ∃ wb, wo.alloc (.cells #[.slice uc nc kc, .int .i64 jump, .int .i64 a, .int .i64 t0, .int .i64 els] 44) = wb := ⟨_, rfl⟩
        obtain ⟨b8, hb8⟩ : ∃ b8, wo.heap.size = b8 := ⟨_, rfl⟩
        rw [hwb] at X8 AL ⊢
        rw [hb8] at X8 ⊢
        have HB8 := hideP hb8
        clear hwb hb8 q0 q1 q2 q3 q4 o4 b4
        have hgo : Hid (0 < nc → gc ≠ w1.heap.size ∧ gc < wo.heap.size ∧ gc ≠ gq) := fun h0 => by
          obtain ⟨_, _, s3, s4, cur, T9, s5, s6, _⟩ := HCO.out.some' (by rw [HNC.out]; exact h0)
          refine ⟨fun e => ?_, s3, s4⟩
          rw [e, BO.out] at s5
          injection s5 with s5
          injection s5 with s5
          subst s5
          rw [HNC.out] at s6
          simp at s6
          omega
        have O0 := hideP (own_lit wb [] #[] wb.heap.size 0 rfl rfl rfl (by simp))
        have A0 := hideP ((Below.refl wb.heap.size wb).alloc (Nat.le_refl _) (.cells #[] 3))
        go_wp2
        go_loopg [6, 7] V (fun gk v ix wr => ∃ s : Nat, gk + s = V ∧ ix = .int .i64 s ∧ Hid (OwnI wr wb.heap.size v (idl s)) ∧ Hid (Below wb.heap.size wb wr))
        case atStart => exact ⟨0, by simp, rfl, O0.out, A0.out⟩
        case round =>
          obtain ⟨s, hgs, rfl, ho, hb⟩ := hrel
          clear O0 A0
          have hbp := (below_trans AL.out hb.out).block _ hNl |>.trans BP.out
          have c3 := (cells_of hbp).1 3
          simp at c3
          clear hbp
          by_cases hsv : s < V
          · obtain ⟨g, c, hv9, _⟩ := id ho.out
            rw [idl_len] at hv9
            subst hv9
            have al := (Below.refl wr.heap.size wr).alloc (Nat.le_refl _) (.cells #[.int .i64 (s : Int)] 3)
            have OC := hideP (ho.out.stays al)
            have OD := hideP (own_lit wr [(s : Int)] #[.int .i64 (s : Int)] wr.heap.size 1 rfl rfl rfl (by simp))
            have BC := hideP (hb.out.alloc hb.out.size (.cells #[.int .i64 (s : Int)] 3))
            have SC := hideP BC.out.size
            have hrl := idl_len s
            have IS := hideP (idl_succ s)
            obtain ⟨L, hL⟩ : ∃ L, idl s = L := ⟨_, rfl⟩
            rw [hL] at OC hrl IS ho
            have HRL := hideP hrl
            clear al hL hrl
            go_wp2_with (at_builtin; refine list_appI _ rfl _ _ rfl wb.heap.size _ L [(s : Int)] wr.heap.size 0 1 1 rfl rfl rfl OC.out OD.out.at (by rw [HRL.out]; simp; omega) SC.out ?_; intro v6 w6 o6 grow6 loc6)
            have B6 := hideP (BC.out.grown grow6 BC.out.size (fun b' hb' => by have := OC.out.low b' hb'; omega))
            rw [← IS.out] at o6
            have O6 := hideP o6
            clear o6 grow6 loc6 HRL IS OC OD BC SC
            go_wp2
            go_roundg (V - (s + 1))
            case rel => exact ⟨s + 1, by omega, by go_num, O6.out, B6.out⟩
            case measure => omega
          · have hsn : s = V := by omega
            subst hsn
            obtain ⟨ob, cv, hvv, hob, of5⟩ := ofStart ho.out
            subst hvv
            have hb8b : b8 < wb.heap.size := (Array.getElem?_eq_some_iff.1 X8.out).1
            have F5 : Hid (Cs9 wo gc oc b8 ob s #[.slice uc nc kc, .int .i64 jump, .int .i64 a, .int .i64 t0, .int .i64 els] (midS copF i0 code 0) i0 wr) := by
              refine ⟨(But.refl gc wo).belowN (below_trans AL.out hb.out), fun h0 => ?_, (hb.out.block _ hb8b).trans X8.out, of5⟩
              rw [midS_zero] at h0 ⊢
              have hs := HCO.out.some' h0
              exact hs.2.2.2.2.keep ((below_trans AL.out hb.out).block _ hs.2.2.1)
            have hkk : wo.heap.size ≤ ob := by have := HB8.out; omega
            have h8w : wo.heap.size ≤ b8 := by have := HB8.out; omega
            obtain ⟨V, hVV⟩ : ∃ V, V = s := ⟨_, rfl⟩
            subst hVV
            clear of5 ho hb X8 AL
            go_wp2
            clear c3
            go_loopg [8] nc (fun gk ix W => ∃ k : Nat, gk + k = nc ∧ ix = .int .i64 k ∧ Hid (Cs9 wo gc oc b8 ob V #[.slice uc nc kc, .int .i64 jump, .int .i64 a, .int .i64 t0, .int .i64 els] (midS copF i0 code k) (scanUp copF i0 code k).1 W))
            case atStart => exact ⟨0, by simp, rfl, F5.out⟩
            case round =>
              obtain ⟨k, hgk2, rfl, hF⟩ := hrel
              clear F5
              have x8c := (cells_of hF.out.x8).1 0
              simp at x8c
              by_cases hk : k < nc
              · have hkc : k < code.length := by rw [HNC.out]; exact hk
                obtain ⟨hg1, hg2, hg3⟩ := hgo.out (by omega)
                have hs := HCO.out.some' (by omega)
                have huc := hs.1
                subst huc
                have hml : (midS copF i0 code k).length = nc := by rw [midS_len (by omega)]; exact HNC.out
                have hcf := hF.out.cf (by omega)
                have hat := midS_at (f := copF) (s0 := i0) hkc
                have NXT := hideP (midS_next (f := copF) (s0 := i0) hkc)
                have hml1 : (midS copF i0 code (k + 1)).length = nc := by rw [midS_len (by omega)]; exact HNC.out
                have UP := hideP (scanUp_at (f := copF) (s0 := i0) hkc)
                obtain ⟨M, hM⟩ : ∃ M, midS copF i0 code k = M := ⟨_, rfl⟩
                obtain ⟨M1, hM1⟩ : ∃ M1, midS copF i0 code (k + 1) = M1 := ⟨_, rfl⟩
                obtain ⟨ff, hff⟩ : ∃ ff, (scanUp copF i0 code k).1 = ff := ⟨_, rfl⟩
                rw [hM] at hml hcf hat hF NXT
                rw [hM1] at hml1 NXT
                rw [hff] at hF NXT UP
                have hzz := HZZ.out _ (List.getElem_mem hkc)
                obtain ⟨z, hz⟩ : ∃ z, code[k] = z := ⟨_, rfl⟩
                rw [hz] at hat NXT hzz UP
                obtain ⟨v1, v2, v3⟩ := useX_odS ff z
                have ST : Hid (∀ W', OfAt ob V ff W' → Calls Try.prog 40 #[.agg (insV z), .slice (some ⟨ob, 0, none⟩) V cv] W' fun e w' => e = .returned (.agg (insV (useX ff z))) ∧ Below W'.heap.size W' w') := fun W' hW' => use09_any z ff V W' ob cv hW' hzz.1
                have SM : Hid (∀ W', OfAt ob V ff W' → Calls Try.prog 41 #[.agg (insV (useX ff z)), .slice (some ⟨ob, 0, none⟩) V cv] W' fun e w' => e = .returned (.tuple #[]) ∧ OfAt ob V (madeX ff (useX ff z)) w' ∧ But ob W' w') := fun W' hW' => made09_any (useX ff z) ff V W' ob cv hW' (by rw [v1, v2]; exact hzz.2) hV1
                have UP1 : Hid ((scanUp copF i0 code (k + 1)).1 = madeX ff (useX ff z)) := by show _ = _; rw [UP.out]; rfl
                have NX2 : Hid (∀ q, q < nc → M1[q]! = if q = k then useX ff z else M[q]!) := fun q hq => NXT.out q (by rw [HNC.out]; exact hq)
                have hrow : RowF wr gc oc nc (fun k r => insF (M[k]!) r) := by unfold CodeF at hcf; rw [hml] at hcf; exact hcf
                have HROW := hideP hrow
                have HML1 := hideP hml1
                have HM1 := hideP hM1
                obtain ⟨y, hy⟩ : ∃ y, useX ff z = y := ⟨_, rfl⟩
                rw [hy] at ST SM UP1 NX2
                obtain ⟨f2, hf2⟩ : ∃ f2, madeX ff y = f2 := ⟨_, rfl⟩
                rw [hf2] at SM UP1
                have ccl := fun r (hr : r < 7) => (hrow.at hk hr).1
                rw [hat] at ccl
                clear hM hM1 hff hz hy hf2 hat hcf hml hml1 UP NXT hzz v1 v2 v3
                obtain ⟨op, d, xa, xb, xc, xn, xt⟩ := z
                obtain ⟨yo, yd, ya, yb, yc, yn, yt⟩ := y
                simp only [insV] at ST SM
                have m0 : wr.cell? ⟨gc, oc + k * 7, none⟩ = some (.int .i64 op) := ccl 0 (by omega)
                have m1 : wr.cell? ⟨gc, oc + k * 7 + 1, none⟩ = some (.int .i64 d) := ccl 1 (by omega)
                have m2 : wr.cell? ⟨gc, oc + k * 7 + 2, none⟩ = some (.int .i64 xa) := ccl 2 (by omega)
                have m3 : wr.cell? ⟨gc, oc + k * 7 + 3, none⟩ = some (.int .i64 xb) := ccl 3 (by omega)
                have m4 : wr.cell? ⟨gc, oc + k * 7 + 4, none⟩ = some (.int .i64 xc) := ccl 4 (by omega)
                have m5 : wr.cell? ⟨gc, oc + k * 7 + 5, none⟩ = some (.int .i64 xn) := ccl 5 (by omega)
                have m6 : wr.cell? ⟨gc, oc + k * 7 + 6, none⟩ = some (.string xt) := ccl 6 (by omega)
                have hx8 := (Array.getElem?_eq_some_iff.1 hF.out.x8).1
                have SK : Hid (∀ W' : World, W'.heap[b8]? = wr.heap[b8]? → W'.cell? ⟨b8, 0, none⟩ = some (.slice (some ⟨gc, oc, none⟩) nc kc)) := fun W' h1 => (World.cell?_of_block (a := ⟨b8, 0, none⟩) h1).trans x8c
                clear ccl hrow
                go_upto_region 16 with fail
                refine wp_region_held_drew (S := fun W' => W'.cell? ⟨b8, 0, none⟩ = some (.slice (some ⟨gc, oc, none⟩) nc kc)) (by kernel_rfl) (SK.out _ rfl) (fun hHeld => ?_)
                refine wpAnyH_take (i := 0) (v := (.pointer (some ⟨b8, 0, none⟩))) rfl (by kernel_rfl) (by kernel_rfl) (by kernel_rfl) (fun _ _ _ h => h) (Or.inl ⟨by rfl, ?_⟩) hHeld ?_
                · (intro w hSw; (try dsimp only at hSw); go_simp)
                walk_nrm
                refine wpAnyH_take (i := 1) (v := (.slice (some ⟨gc, oc, none⟩) nc kc)) rfl (by kernel_rfl) (by kernel_rfl) (by kernel_rfl) (fun _ _ _ h => h) (Or.inl ⟨by rfl, ?_⟩) hHeld ?_
                · (intro w hSw; (try dsimp only at hSw); go_simp)
                walk_nrm
                refine wpAnyH_take (i := 2) (v := (.int .i64 (k : Int))) rfl (by kernel_rfl) (by kernel_rfl) (by kernel_rfl) (fun _ _ _ h => h) (Or.inl ⟨by rfl, ?_⟩) hHeld ?_
                · (intro w hSw; (try dsimp only at hSw); go_simp)
                walk_nrm
                refine wpAnyH_take (i := 3) (v := (.pointer (some ⟨b8, 0, none⟩))) rfl (by kernel_rfl) (by kernel_rfl) (by kernel_rfl) (fun _ _ _ h => h) (Or.inl ⟨by rfl, ?_⟩) hHeld ?_
                · (intro w hSw; (try dsimp only at hSw); go_simp)
                walk_nrm
                refine wpAnyH_take (i := 4) (v := (.slice (some ⟨gc, oc, none⟩) nc kc)) rfl (by kernel_rfl) (by kernel_rfl) (by kernel_rfl) (fun _ _ _ h => h) (Or.inl ⟨by rfl, ?_⟩) hHeld ?_
                · (intro w hSw; (try dsimp only at hSw); go_simp)
                walk_nrm
                refine wpAnyH_take (i := 5) (v := (.int .i64 (k : Int))) rfl (by kernel_rfl) (by kernel_rfl) (by kernel_rfl) (fun _ _ _ h => h) (Or.inl ⟨by rfl, ?_⟩) hHeld ?_
                · (intro w hSw; (try dsimp only at hSw); go_simp)
                walk_nrm
                refine wpAnyH_take (i := 6) (v := (.pointer (some ⟨gc, oc + k * 7, none⟩))) rfl (by kernel_rfl) (by kernel_rfl) (by kernel_rfl) (fun _ _ _ h => h) (Or.inl ⟨by rfl, ?_⟩) hHeld ?_
                · (intro w hSw; (try dsimp only at hSw); go_simp)
                walk_nrm
                refine wpAnyH_take (i := 8) (v := (.slice (some ⟨ob, 0, none⟩) V cv)) rfl (by kernel_rfl) (by kernel_rfl) (by kernel_rfl) (fun _ _ _ h => h) (Or.inl ⟨by rfl, ?_⟩) hHeld ?_
                · (intro w hSw; (try dsimp only at hSw); go_simp)
                walk_nrm
                refine wpAnyH_ready (rs := [7]) (by kernel_rfl) (by simp) ?_
                refine AllReadyH.cons rfl (fun K hK => ?_) AllReadyH.nil
                go_simp
                refine hK.out _ _ (SK.out _ rfl) (fun hHeld => ?_)
                clear hK K
                walk_nrm
                refine wpAnyH_ready (rs := [9]) (by kernel_rfl) (by simp) ?_
                refine AllReadyH.cons rfl (fun K hK => ?_) AllReadyH.nil
                go_simp
                go_at_call 40
                refine (ST.out _ (hF.out.of.stays (Below.refl _ _).drew)).mono ?_
                rintro e6 w6 ⟨rfl, b6⟩
                have b6' : Below wr.heap.size wr w6 := (Below.refl wr.heap.size wr).drew.trans (b6.mono (Nat.le_refl _))
                have F6 := hideP (hF.out.stays b6')
                have R6 : Hid (RowF w6 gc oc nc (fun k r => insF (M[k]!) r)) := HROW.out.keep (b6'.block _ HROW.out.lt)
                go_wp2_with fail
                refine hK.out _ _ (SK.out _ (b6'.block _ hx8)) (fun hHeld => ?_)
                clear hK K b6
                walk_nrm
                refine wpAnyH_take (i := 10) (v := (.pointer (some ⟨gc, oc + k * 7, none⟩))) rfl (by kernel_rfl) (by kernel_rfl) (by kernel_rfl) (fun _ _ _ h => h) (Or.inl ⟨by rfl, ?_⟩) hHeld ?_
                · (intro w hSw; (try dsimp only at hSw); go_simp)
                walk_nrm
                obtain ⟨u0, u1, u2, u3, u4, u5, u6, p0, p1, p2, p3, p4, p5, p6, pf⟩ := R6.out.seen hk
                refine wpAnyH_ready (rs := [11]) (by kernel_rfl) (by simp) ?_
                refine AllReadyH.cons rfl (fun K hK => ?_) AllReadyH.nil
                go_simp
                obtain ⟨w7, hw7⟩ : ∃ w7, (((((((w6.setCell ⟨gc, oc + k * 7, none⟩ (.int .i64 yo)).setCell ⟨gc, oc + k * 7 + 1, none⟩ (.int .i64 yd)).setCell ⟨gc, oc + k * 7 + 2, none⟩ (.int .i64 ya)).setCell ⟨gc, oc + k * 7 + 3, none⟩ (.int .i64 yb)).setCell ⟨gc, oc + k * 7 + 4, none⟩ (.int .i64 yc)).setCell ⟨gc, oc + k * 7 + 5, none⟩ (.int .i64 yn)).setCell ⟨gc, oc + k * 7 + 6, none⟩ (.string yt)) = w7 := ⟨_, rfl⟩
                have bt7 := set7 w6 gc oc k (.int .i64 yo) (.int .i64 yd) (.int .i64 ya) (.int .i64 yb) (.int .i64 yc) (.int .i64 yn) (.string yt)
                have rp7 := R6.out.put hk (⟨yo, yd, ya, yb, yc, yn, yt⟩ : Ins)
                simp only at rp7
                rw [hw7] at bt7 rp7 ⊢
                have C7 : CodeF w7 gc oc M1 := by
                  unfold CodeF
                  rw [HML1.out]
                  refine rp7.congr (fun q hq r _ => ?_)
                  rw [NX2.out q hq]
                  split <;> rfl
                have F7 : Hid (Cs9 wo gc oc b8 ob V #[.slice (some ⟨gc, oc, none⟩) nc kc, .int .i64 jump, .int .i64 a, .int .i64 t0, .int .i64 els] M1 ff w7) := F6.out.put bt7 C7 hg2 h8w hkk
                have hR7 : RowF w7 gc oc nc (fun k r => insF (M1[k]!) r) := by unfold CodeF at C7; rw [HML1.out] at C7; exact C7
                have cc7 := fun r (hr : r < 7) => (hR7.at hk hr).1
                rw [NX2.out k hk, if_pos rfl] at cc7
                have n0 : w7.cell? ⟨gc, oc + k * 7, none⟩ = some (.int .i64 yo) := cc7 0 (by omega)
                have n1 : w7.cell? ⟨gc, oc + k * 7 + 1, none⟩ = some (.int .i64 yd) := cc7 1 (by omega)
                have n2 : w7.cell? ⟨gc, oc + k * 7 + 2, none⟩ = some (.int .i64 ya) := cc7 2 (by omega)
                have n3 : w7.cell? ⟨gc, oc + k * 7 + 3, none⟩ = some (.int .i64 yb) := cc7 3 (by omega)
                have n4 : w7.cell? ⟨gc, oc + k * 7 + 4, none⟩ = some (.int .i64 yc) := cc7 4 (by omega)
                have n5 : w7.cell? ⟨gc, oc + k * 7 + 5, none⟩ = some (.int .i64 yn) := cc7 5 (by omega)
                have n6 : w7.cell? ⟨gc, oc + k * 7 + 6, none⟩ = some (.string yt) := cc7 6 (by omega)
                have y8c := (cells_of F7.out.x8).1 0
                simp at y8c
                refine hK.out _ _ (SK.out _ ((bt7.block _ (by have := b6'.size; omega) (by omega)).trans (b6'.block _ hx8))) (fun hHeld => ?_)
                clear hK K
                refine wpAnyH_done (by kernel_rfl) ?_ _
                clear hHeld p0 p1 p2 p3 p4 p5 p6 pf hw7 bt7 rp7 R6 F6 b6' m0 m1 m2 m3 m4 m5 m6 SK ST HROW NX2 HML1 x8c cc7 hR7 C7
                go_wp2_with fail
                refine (SM.out _ F7.out.of).mono ?_
                rintro e8 w8 ⟨rfl, of8, b8'⟩
                have F8 := hideP (F7.out.step b8' hkk (fun _ => hg2) of8)
                clear of8 b8' F7 SM n0 n1 n2 n3 n4 n5 n6 y8c
                go_wp2
                go_roundg (nc - (k + 1))
                case rel => exact ⟨k + 1, by omega, by go_num, by rw [HM1.out, UP1.out]; exact F8.out⟩
                case measure => omega
              · have hkn : nc = k := by omega
                subst hkn
                have hal : midS copF i0 code nc = (scanUp copF i0 code nc).2 := by have := midS_all (f := copF) (s0 := i0) (code := code); rw [HNC.out] at this; exact this
                rw [hal] at hF
                have hfu : copUp code = scanUp copF i0 code nc := by unfold copUp; rw [HNC.out]; rfl
                have hdl : (scanUp copF i0 code nc).2.length = nc := scanUp_len nc (by rw [HNC.out]; exact Nat.le_refl _)
                obtain ⟨hfo, hdw⟩ := copUp_ok hV1 HWZ.out HZZ.out nc
                have hfo2 : OfOk V (scanUp copF i0 code nc).1 := hfo
                have hdw2 : ∀ y ∈ (scanUp copF i0 code nc).2, y.wf ∧ y.t.size ≤ maxLen := hdw
                have FB : Hid (copB (⟨code, jump, a, t0, els⟩ : Blk) = ⟨(scanUp copF i0 code nc).2, jump, if jump = 0 then a else (scanUp copF i0 code nc).1 a, t0, els⟩) := by show _ = _; unfold copB; simp only [hfu]
                obtain ⟨D, hD⟩ : ∃ D, (scanUp copF i0 code nc).2 = D := ⟨_, rfl⟩
                obtain ⟨ff, hff⟩ : ∃ ff, (scanUp copF i0 code nc).1 = ff := ⟨_, rfl⟩
                rw [hD] at hF hdl hdw2 FB
                rw [hff] at hF FB hfo2
                have HDL := hideP hdl
                have HDW := hideP hdw2
                have HFO := hideP hfo2
                clear hal hfu hD hff hdl hdw hdw2 hfo hfo2
                have hgcq : gq ≠ gc ∧ w1.heap.size ≠ gc := by
                  by_cases h0 : nc = 0
                  · have := HCO.out.none' (by rw [HNC.out]; exact h0)
                    omega
                  · have := hgo.out (by omega)
                    exact ⟨fun e => this.2.2 e.symm, fun e => this.1 e.symm⟩
                have hgl : 0 < D.length → gc < wo.heap.size := fun h0 => (hgo.out (by rw [HDL.out] at h0; exact h0)).2.1
                have FIN : Hid (∀ W4 nb, But gc wo W4 → (0 < D.length → CodeF W4 gc oc D) → nb.code = D → nb.wf → copB (⟨code, jump, a, t0, els⟩ : Blk) = nb → SgAt w w1.heap.size #[.slice us sizes.length cs, .int .i64 p, .int .i64 q, .int .i64 (V : Int), .slice ub blocks.length cb] #[.slice none 0 0, .int .i64 0, .int .i64 0, .int .i64 0, .slice none 0 0] #[.slice sa sizes.length kS, .int .i64 p, .int .i64 q, .int .i64 (V : Int), .slice (some ⟨gq, 0, none⟩) blocks.length cq] ⟨sizes, p, q, (V : Int), midH copB blocks (j + 1)⟩ sa kS gq cq (((((W4.setCell ⟨gq, j * 5, none⟩ (.slice uc nc kc)).setCell ⟨gq, j * 5 + 1, none⟩ (.int .i64 nb.jump)).setCell ⟨gq, j * 5 + 2, none⟩ (.int .i64 nb.a)).setCell ⟨gq, j * 5 + 3, none⟩ (.int .i64 nb.to)).setCell ⟨gq, j * 5 + 4, none⟩ (.int .i64 nb.els))) := fun W4 nb h1 h2 h3 h4 h5 => by
                  have h6 := HNX.out W4 nb h1 (by rw [h3]; exact h2) (by rw [h3]; exact HDL.out) h4 (by rw [h3]; exact HDW.out) lo hol (fun h0 => by rw [h3] at h0; exact fun e => hgcq.2 e.symm)
                  rw [h3, HDL.out] at h6
                  rw [E9.out, h5]
                  exact h6
                have QC : Hid (∀ W4, But gc wo W4 → W4.cell? ⟨w1.heap.size, 4, none⟩ = some (.slice (some ⟨gq, 0, none⟩) blocks.length cq) ∧ W4.cell? ⟨gq, j * 5, none⟩ = some (.slice uc nc kc) ∧ W4.cell? ⟨gq, j * 5 + 1, none⟩ = some (.int .i64 jump) ∧ W4.cell? ⟨gq, j * 5 + 2, none⟩ = some (.int .i64 a) ∧ W4.cell? ⟨gq, j * 5 + 3, none⟩ = some (.int .i64 t0) ∧ W4.cell? ⟨gq, j * 5 + 4, none⟩ = some (.int .i64 els) ∧ ∀ i, W4.frozen? ⟨gq, i, none⟩ = false) := fun W4 h1 => by
                  have hq := h1.block gq (by omega) hgcq.1
                  have c := fun r (hr : r < 5) => (World.cell?_of_block (a := ⟨gq, j * 5 + r, none⟩) hq).trans (HCE.out r hr)
                  exact ⟨(cells_of ((h1.block _ hol hgcq.2).trans BO.out)).1 4, c 0 (by omega), c 1 (by omega), c 2 (by omega), c 3 (by omega), c 4 (by omega), (cells_of (hq.trans HPL.out)).2⟩
                clear x8c
                by_cases h0 : jump = 0
                · subst h0
                  have fc := (cells_of hF.out.x8).1
                  have x0 := fc 0
                  have x1 := fc 1
                  have x2 := fc 2
                  have x3 := fc 3
                  have x4 := fc 4
                  simp at x0 x1 x2 x3 x4
                  clear fc
                  have EQ : Hid (copB (⟨code, 0, a, t0, els⟩ : Blk) = ⟨D, 0, a, t0, els⟩) := by show _ = _; rw [FB.out]; simp
                  go_upto_region 20 with fail
                  clear x0 x1 x2 x3 x4
                  have fc := (cells_of hF.out.x8).1
                  have f0 := fc 0
                  have f1 := fc 1
                  have f2 := fc 2
                  have f3 := fc 3
                  have f4 := fc 4
                  simp at f0 f1 f2 f3 f4
                  clear fc
                  obtain ⟨o4, q0, q1, q2, q3, q4, qf⟩ := QC.out wr hF.out.bt
                  have NF := hideP (FIN.out wr (⟨D, 0, a, t0, els⟩ : Blk) hF.out.bt hF.out.cf rfl HWF.out EQ.out)
                  simp only at NF
                  go_upto_region 6 with fail
                  obtain ⟨w9, hw9⟩ : ∃ w9, ((((wr.setCell ⟨gq, j * 5, none⟩ (.slice uc nc kc)).setCell ⟨gq, j * 5 + 1, none⟩ (.int .i64 0)).setCell ⟨gq, j * 5 + 2, none⟩ (.int .i64 a)).setCell ⟨gq, j * 5 + 3, none⟩ (.int .i64 t0)).setCell ⟨gq, j * 5 + 4, none⟩ (.int .i64 els) = w9 := ⟨_, rfl⟩
                  rw [hw9] at NF ⊢
                  clear hw9 o4 q0 q1 q2 q3 q4 qf f0 f1 f2 f3 f4
                  go_wp2
                  go_roundg (blocks.length - (j + 1))
                  case rel => exact ⟨j + 1, by omega, by go_num, NF.out⟩
                  case measure => omega
                · have h0b : (jump == 0) = false := by simpa using h0
                  obtain ⟨an, rfl⟩ : ∃ an : Nat, a = an := ⟨a.toNat, by have := hjj h0; omega⟩
                  have han : an < V := by have := hjj h0; omega
                  have fc := (cells_of hF.out.x8).1
                  have x0 := fc 0
                  have x1 := fc 1
                  have x2 := fc 2
                  have x3 := fc 3
                  have x4 := fc 4
                  simp at x0 x1 x2 x3 x4
                  clear fc
                  have xf := (cells_of hF.out.x8).2
                  obtain ⟨k1, kf1⟩ := hF.out.of.at han
                  have hfi : I64 (ff (an : Int)) := by have := HFO.out (an : Int) (by omega) (by omega); unfold I64; omega
                  obtain ⟨fa, hfa⟩ : ∃ fa, ff (an : Int) = fa := ⟨_, rfl⟩
                  rw [hfa] at k1 hfi FB
                  have HFI := hideP hfi
                  have EQ : Hid (copB (⟨code, jump, (an : Int), t0, els⟩ : Blk) = ⟨D, jump, fa, t0, els⟩) := by show _ = _; rw [FB.out]; simp [h0]
                  have z := heap_setCell_same wr b8 2 _ _ (.int .i64 fa) hF.out.x8
                  have bu : But b8 wr (wr.setCell ⟨b8, 2, none⟩ (.int .i64 fa)) := (But.refl _ _).set _ _
                  clear hfa hfi
                  go_upto_region 20 with fail
                  obtain ⟨w8, hw8⟩ : ∃ w8, wr.setCell ⟨b8, 2, none⟩ (.int .i64 fa) = w8 := ⟨_, rfl⟩
                  rw [hw8] at z bu ⊢
                  have F8 : Hid (Cs9 wo gc oc b8 ob V #[.slice uc nc kc, .int .i64 jump, .int .i64 fa, .int .i64 t0, .int .i64 els] D ff w8) := hF.out.box bu z h8w hgl
                  clear hw8 z bu k1 kf1 x0 x1 x2 x3 x4 xf
                  have fc := (cells_of F8.out.x8).1
                  have f0 := fc 0
                  have f1 := fc 1
                  have f2 := fc 2
                  have f3 := fc 3
                  have f4 := fc 4
                  simp at f0 f1 f2 f3 f4
                  clear fc
                  obtain ⟨o4, q0, q1, q2, q3, q4, qf⟩ := QC.out w8 F8.out.bt
                  have NF := hideP (FIN.out w8 (⟨D, jump, fa, t0, els⟩ : Blk) F8.out.bt F8.out.cf rfl ⟨HWF.out.1, HFI.out, HWF.out.2.2.1, HWF.out.2.2.2⟩ EQ.out)
                  simp only at NF
                  go_upto_region 6 with fail
                  obtain ⟨w9, hw9⟩ : ∃ w9, ((((w8.setCell ⟨gq, j * 5, none⟩ (.slice uc nc kc)).setCell ⟨gq, j * 5 + 1, none⟩ (.int .i64 jump)).setCell ⟨gq, j * 5 + 2, none⟩ (.int .i64 fa)).setCell ⟨gq, j * 5 + 3, none⟩ (.int .i64 t0)).setCell ⟨gq, j * 5 + 4, none⟩ (.int .i64 els) = w9 := ⟨_, rfl⟩
                  rw [hw9] at NF ⊢
                  clear hw9 o4 q0 q1 q2 q3 q4 qf f0 f1 f2 f3 f4
                  go_wp2
                  go_roundg (blocks.length - (j + 1))
                  case rel => exact ⟨j + 1, by omega, by go_num, NF.out⟩
                  case measure => omega
      · have hjn : j = blocks.length := by omega
        subst hjn
        have MA : Hid (midH copB blocks blocks.length = blocks.map copB) := midH_all copB blocks
        rw [MA.out] at hI
        have z := hI.out.bR
        have fc := (cells_of hI.out.bO).1
        have d0 := fc 0
        have d1 := fc 1
        have d2 := fc 2
        have d3 := fc 3
        have d4 := fc 4
        simp at d0 d1 d2 d3 d4
        clear fc
        have fc := (cells_of z).1
        have r0 := fc 0
        have r1 := fc 1
        have r2 := fc 2
        have r3 := fc 3
        have r4 := fc 4
        simp at r0 r1 r2 r3 r4
        clear fc
        have rf := (cells_of z).2
        obtain ⟨z4, bu⟩ := put5n z rfl (.slice sa sizes.length kS) (.int .i64 p) (.int .i64 q) (.int .i64 (V : Int)) (.slice (some ⟨gq, 0, none⟩) blocks.length cq)
        have ZF := hideP z4
        have BU := hideP bu
        clear z z4 bu
        go_wp2
        refine bodyPost_ret (results_cell_row rfl _ _ (w.heap.size + 1) 29 #[.slice sa sizes.length kS, .int .i64 p, .int .i64 q, .int .i64 (V : Int), .slice (some ⟨gq, 0, none⟩) blocks.length cq] (0, 0) _ rfl ZF.out Try.underlying29 rfl (by kernel_rfl)) rfl ?_
        rw [E.out]
        have hlt9 := hltP hI.out.bR
        obtain ⟨rows9, hr9, _⟩ := hI.out.cp
        have gr9 := hr9.gr9 (by simp only [List.length_map]; exact hbm)
        simp only [List.length_map] at gr9
        exact ⟨_, rfl, GrKeeps.mono (GrKeeps.but gr9 (by omega) BU.out) (by omega), hI.out.bel.trans (BU.out.below (by omega) (by omega))⟩
theorem spec_copies (x : Gr) (w : World) (B : Nat) (v : Array Value) (h : GrIs w B v x) (GO : OkIs 26 x) (hf : Fits x) :
    Calls Try.prog 14 #[.agg v] w fun en w' => ∃ v', en = .returned (.agg v') ∧ GrIs w' w.heap.size v' (copP x) ∧ Below w.heap.size w w' := spec_copies0 x w B v h GO hf
end Go.Proofs.Ytjmclmbepnbeoaa
