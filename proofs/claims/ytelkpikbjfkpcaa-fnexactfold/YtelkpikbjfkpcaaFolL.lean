/- The contract of impl.Fold (written by wip/mktop.py). -/
import Derived.Test.YtelkpikbjfkpcaaChgF
import Derived.Test.YtelkpikbjfkpcaaChAll
namespace Go.Proofs.Ytelkpikbjfkpcaa
open Go.ChangeShapes Go.WideShapes Go.ChangeAt Go.RowKit
theorem chB_fold (b : Blk) : chB foldF s0 foldJ b = foldB b := (foldB_J b).symm
theorem foldJ_wf {K : Kn} {b : Blk} (h : b.wf) : (foldJ K b).wf := by
  unfold foldJ
  split
  · split
    · refine ⟨i64_zero, i64_zero, ?_, i64_zero⟩
      simp only
      split
      · exact h.2.2.2
      · exact h.2.2.1
    · exact h
  · exact h
theorem foldP_map (x : Gr) : (if grOk x = true then { x with blocks := x.blocks.map (chB foldF s0 foldJ) } else x) = foldP x := by
  unfold foldP
  have e : (chB foldF s0 foldJ) = foldB := funext chB_fold
  rw [e]
set_option maxRecDepth 100000 in
set_option maxHeartbeats 8000000 in
theorem impl_fold (x : Gr) (w : World) (B : Nat) (v : Array Value) (h : GrIs w B v x) (GO : OkIs 44 x) (hf : Fits x) :
    Calls Try.prog 9 #[.agg v] w fun en w' => MadeGrW w (foldP x) en w' := by
  have CH : Hid (∀ W, Below w.heap.size w W → Calls Try.prog 25 #[.agg v, .func (.func 26) #[] #[]] W fun en w' => MadeGrW W (foldP x) en w') := fun W hW => by
    rw [← foldP_map x]
    exact chgF_any x W B v (GrKeeps.stays h hW) GO hf (fun hk b hb z hz => okz_of h hk b hb z hz) (fun hk b hb => by
    obtain ⟨k1, k2⟩ := gr_wf h b hb
    refine ⟨?_, ?_⟩
    · have := foldJ_wf (K := (scanUp foldF s0 b.code b.code.length).1) k1
      exact ⟨this.1, this.2.1, this.2.2.1, this.2.2.2⟩
    · exact (foldUp_ki k2 b.code.length).2)
  obtain ⟨X, hX⟩ : ∃ X, foldP x = X := ⟨_, rfl⟩
  rw [hX] at CH ⊢
  clear hX GO hf
  obtain ⟨sizes, p, q, r, blocks⟩ := x
  obtain ⟨us, cs, ub, cb, rfl, _⟩ := h
  simp only at *
  have AL := hideP (below2 w (.cells #[.slice us sizes.length cs, .int .i64 p, .int .i64 q, .int .i64 r, .slice ub blocks.length cb] 29) (.cells #[.slice none 0 0, .int .i64 0, .int .i64 0, .int .i64 0, .slice none 0 0] 29))
  have TW := hideP (fun w1 => two (w := w) (w1 := w1) (o1 := .cells #[.slice us sizes.length cs, .int .i64 p, .int .i64 q, .int .i64 r, .slice ub blocks.length cb] 29) (o2 := .cells #[.slice none 0 0, .int .i64 0, .int .i64 0, .int .i64 0, .slice none 0 0] 29))
  have HZ2 : Hid (((w.alloc (.cells #[.slice us sizes.length cs, .int .i64 p, .int .i64 q, .int .i64 r, .slice ub blocks.length cb] 29)).alloc (.cells #[.slice none 0 0, .int .i64 0, .int .i64 0, .int .i64 0, .slice none 0 0] 29)).heap.size = w.heap.size + 2) := by show _ = _; simp
  go_enter Try.func9, Try.ntmps9
  go_wp2_with fail
  refine (CH.out _ AL.out).mono ?_
  rintro e1 w1 ⟨v1, S, g1, cs1, rfl, gi, ow, lo, n1, n2, n3, bel1⟩
  obtain ⟨P1, RR, L1, hw⟩ := TW.out w1 bel1
  rw [HZ2.out] at gi lo
  obtain ⟨us1, ks1, ub1, kb1, rfl, _⟩ := id gi
  obtain ⟨xs, xp, xq, xr, xb⟩ := X
  simp only at gi ow n1 n2 n3 ⊢
  have GI := hideP gi
  have OW := hideP ow
  have LO := hideP lo
  have NN : Hid (S.n = xs.length ∧ cs1.length = xb.length ∧ ∀ i (h : i < cs1.length), cs1[i].n = (xb[i]!).code.length) := ⟨n1, n2, n3⟩
  have HWW := hideP hw
  have hlt := hltP RR
  have fc := (cells_of RR).1
  have r0 := fc 0
  have r1 := fc 1
  have r2 := fc 2
  have r3 := fc 3
  have r4 := fc 4
  simp at r0 r1 r2 r3 r4
  clear fc
  have rf := (cells_of RR).2
  obtain ⟨z4, bu⟩ := put5n RR rfl (.slice us1 xs.length ks1) (.int .i64 xp) (.int .i64 xq) (.int .i64 xr) (.slice ub1 xb.length kb1)
  have ZF := hideP z4
  have BU := hideP bu
  clear z4 bu P1 RR L1 hw gi ow lo n1 n2 n3 bel1 TW AL CH HZ2
  go_wp2
  refine bodyPost_ret (results_cell_row rfl _ _ (w.heap.size + 1) 29 #[.slice us1 xs.length ks1, .int .i64 xp, .int .i64 xq, .int .i64 xr, .slice ub1 xb.length kb1] (0, 0) _ rfl ZF.out Try.underlying29 rfl (by kernel_rfl)) rfl ?_
  have hsb := BU.out.size
  refine ⟨_, S, g1, cs1, rfl, GrKeeps.mono (GrKeeps.but GI.out (by omega) BU.out) (by omega), OW.out.above (B := w.heap.size + 2) (fun c hc => (LO.out c hc).1) (fun k hk hkl => BU.out.block k hkl (by omega)), fun c hc => ?_, NN.out.1, NN.out.2.1, NN.out.2.2, HWW.out.trans (BU.out.below (by omega) (by omega))⟩
  have := LO.out c hc
  omega
end Go.Proofs.Ytelkpikbjfkpcaa
