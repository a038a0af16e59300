/- The contract of impl.Copies (written by wip/mktop.py). -/
import Derived.Test.YtelkpikbjfkpcaaChgC
import Derived.Test.YtelkpikbjfkpcaaChAll
import Derived.Test.YtelkpikbjfkpcaaCpyG
namespace Go.Proofs.Ytelkpikbjfkpcaa
open Go.ChangeShapes Go.WideShapes Go.ChangeAt Go.RowKit
theorem copP_map (x : Gr) : (if grOk x = true then { x with blocks := x.blocks.map (chB copK s0 copJ) } else x) = copP x := by
  unfold copP
  have e : (chB copK s0 copJ) = copB := funext chB_cop
  rw [e]
set_option maxRecDepth 100000 in
set_option maxHeartbeats 8000000 in
theorem impl_copies (x : Gr) (w : World) (B : Nat) (v : Array Value) (h : GrIs w B v x) (GO : OkIs 44 x) (hf : Fits x) :
    Calls Try.prog 14 #[.agg v] w fun en w' => MadeGrW w (copP x) en w' := by
  have CH : Hid (∀ W, Below w.heap.size w W → Calls Try.prog 25 #[.agg v, .func (.func 35) #[] #[]] W fun en w' => MadeGrW W (copP x) en w') := fun W hW => by
    rw [← copP_map x]
    exact chgC_any x W B v (GrKeeps.stays h hW) GO hf (fun hk b hb z hz => okz_of h hk b hb z hz) (copWn h)
  obtain ⟨X, hX⟩ : ∃ X, copP x = X := ⟨_, rfl⟩
  rw [hX] at CH ⊢
  clear hX GO hf
  obtain ⟨sizes, p, q, r, blocks⟩ := x
  obtain ⟨us, cs, ub, cb, rfl, _⟩ := h
  simp only at *
  have AL := hideP (below2 w (.cells #[.slice us sizes.length cs, .int .i64 p, .int .i64 q, .int .i64 r, .slice ub blocks.length cb] 29) (.cells #[.slice none 0 0, .int .i64 0, .int .i64 0, .int .i64 0, .slice none 0 0] 29))
  have TW := hideP (fun w1 => two (w := w) (w1 := w1) (o1 := .cells #[.slice us sizes.length cs, .int .i64 p, .int .i64 q, .int .i64 r, .slice ub blocks.length cb] 29) (o2 := .cells #[.slice none 0 0, .int .i64 0, .int .i64 0, .int .i64 0, .slice none 0 0] 29))
  have HZ2 : Hid (((w.alloc (.cells #[.slice us sizes.length cs, .int .i64 p, .int .i64 q, .int .i64 r, .slice ub blocks.length cb] 29)).alloc (.cells #[.slice none 0 0, .int .i64 0, .int .i64 0, .int .i64 0, .slice none 0 0] 29)).heap.size = w.heap.size + 2) := by show _ = _; simp
  go_enter Try.func14, Try.ntmps14
  go_wp2_with fail
  refine (CH.out _ AL.out).mono ?_
  rintro e1 w1 ⟨v1, S, g1, cs1, rfl, gi, ow, lo, n1, n2, n3, bel1⟩
  obtain ⟨P1, RR, L1, hw⟩ := TW.out w1 bel1
  rw [HZ2.out] at gi lo
  obtain ⟨us1, ks1, ub1, kb1, rfl, _⟩ := id gi
  obtain ⟨xs, xp, xq, xr, xb⟩ := X
  simp only at gi ow n1 n2 n3 ⊢
  have GI := hideP gi
  have OW := hideP ow
  have LO := hideP lo
  have NN : Hid (S.n = xs.length ∧ cs1.length = xb.length ∧ ∀ i (h : i < cs1.length), cs1[i].n = (xb[i]!).code.length) := ⟨n1, n2, n3⟩
  have HWW := hideP hw
  have hlt := hltP RR
  have fc := (cells_of RR).1
  have r0 := fc 0
  have r1 := fc 1
  have r2 := fc 2
  have r3 := fc 3
  have r4 := fc 4
  simp at r0 r1 r2 r3 r4
  clear fc
  have rf := (cells_of RR).2
  obtain ⟨z4, bu⟩ := put5n RR rfl (.slice us1 xs.length ks1) (.int .i64 xp) (.int .i64 xq) (.int .i64 xr) (.slice ub1 xb.length kb1)
  have ZF := hideP z4
  have BU := hideP bu
  clear z4 bu P1 RR L1 hw gi ow lo n1 n2 n3 bel1 TW AL CH HZ2
  go_wp2
  refine bodyPost_ret (results_cell_row rfl _ _ (w.heap.size + 1) 29 #[.slice us1 xs.length ks1, .int .i64 xp, .int .i64 xq, .int .i64 xr, .slice ub1 xb.length kb1] (0, 0) _ rfl ZF.out Try.underlying29 rfl (by kernel_rfl)) rfl ?_
  have hsb := BU.out.size
  refine ⟨_, S, g1, cs1, rfl, GrKeeps.mono (GrKeeps.but GI.out (by omega) BU.out) (by omega), OW.out.above (B := w.heap.size + 2) (fun c hc => (LO.out c hc).1) (fun k hk hkl => BU.out.block k hkl (by omega)), fun c hc => ?_, NN.out.1, NN.out.2.1, NN.out.2.2, HWW.out.trans (BU.out.below (by omega) (by omega))⟩
  have := LO.out c hc
  omega
end Go.Proofs.Ytelkpikbjfkpcaa
