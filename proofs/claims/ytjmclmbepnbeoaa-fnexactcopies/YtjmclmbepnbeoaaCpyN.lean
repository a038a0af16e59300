/- The contract of impl.Copies (written by wip/mktop2.py). -/
import Derived.Test.YtjmclmbepnbeoaaCgC
import Derived.Test.YtjmclmbepnbeoaaChAll
import Derived.Test.YtjmclmbepnbeoaaUseA
import Derived.Test.YtjmclmbepnbeoaaCpyA
namespace Go.Proofs.Ytjmclmbepnbeoaa
open Go.ChangeShapes Go.WideShapes Go.ChangeAt Go.RowKit
theorem idx_constC (f : Blk → Blk) (l : List Blk) : l.mapIdx (fun _ b => f b) = l.map f := by
  apply List.ext_getElem
  · simp
  · intro i h1 h2
    simp
theorem copP_map (x : Gr) : (if grOk x = true then { x with blocks := x.blocks.mapIdx (fun _ b => chB copK s0 copJ b) } else x) = copP x := by
  unfold copP
  have e : (chB copK s0 copJ) = copB := funext chB_cop
  rw [idx_constC, e]
set_option maxHeartbeats 4000000 in
theorem begC_any (i : Nat) (w : World) :
    Calls Try.prog 42 #[.int .i64 (i : Int)] w fun e w' => ∃ pp m, e = .returned (.agg #[.func (.func 70) #[] #[.pointer (some ⟨pp, 0, none⟩)], .func (.func 74) #[] #[.pointer (some ⟨pp, 0, none⟩)]]) ∧ SrD w.heap.size pp m 0 s0 w' ∧ Below w.heap.size w w' := by
  have al := (Below.refl w.heap.size w).alloc (Nat.le_refl _) (.cells #[.nilFunc, .nilFunc] 56)
  have AL := hideP al
  have N1 := hideP (newB1 w (.cells #[.nilFunc, .nilFunc] 56))
  have ON := hideP copying_any
  have HSZ : Hid ((w.alloc (.cells #[.nilFunc, .nilFunc] 56)).heap.size = w.heap.size + 1) := by show _ = _; simp
  clear al
  go_enter Try.func42, Try.ntmps42
  go_wp2_with fail
  refine (ON.out _).mono ?_
  rintro e1 w1 ⟨pp, m, rfl, sr, hp, hm, _, _, bel⟩
  rw [HSZ.out] at hp hm
  have n1 := (bel.block _ (hltP N1.out)).trans N1.out
  have hlt := hltP n1
  have r0 := (cells_of n1).1 0
  have r1 := (cells_of n1).1 1
  have rf := (cells_of n1).2
  simp at r0 r1
  have z0 := heap_setCell_same w1 w.heap.size 0 _ _ (.func (.func 70) #[] #[.pointer (some ⟨pp, 0, none⟩)]) n1
  have z1 : ((w1.setCell ⟨w.heap.size, 0, none⟩ (.func (.func 70) #[] #[.pointer (some ⟨pp, 0, none⟩)])).setCell ⟨w.heap.size, 1, none⟩ (.func (.func 74) #[] #[.pointer (some ⟨pp, 0, none⟩)])).heap[w.heap.size]? = some (.cells #[.func (.func 70) #[] #[.pointer (some ⟨pp, 0, none⟩)], .func (.func 74) #[] #[.pointer (some ⟨pp, 0, none⟩)]] 56 (0, 0)) := heap_setCell_same _ w.heap.size 1 _ _ (.func (.func 74) #[] #[.pointer (some ⟨pp, 0, none⟩)]) z0
  have ZF := hideP z1
  have bu : But w.heap.size w1 ((w1.setCell ⟨w.heap.size, 0, none⟩ (.func (.func 70) #[] #[.pointer (some ⟨pp, 0, none⟩)])).setCell ⟨w.heap.size, 1, none⟩ (.func (.func 74) #[] #[.pointer (some ⟨pp, 0, none⟩)])) := ((But.refl w.heap.size w1).set 0 _).set 1 _
  have BEL := hideP (below_trans AL.out bel)
  have sd : SrD (w.heap.size + 1) pp m 0 s0 w1 := ⟨sr, hp, hm⟩
  have SD2 := hideP (sd.other bu (by omega))
  have BB := hideP (BEL.out.trans (bu.below (Nat.le_refl _) BEL.out.size))
  have HP : Hid (w.heap.size + 1 ≤ pp ∧ w.heap.size + 1 ≤ m) := ⟨hp, hm⟩
  clear z0 z1 bu sd sr bel n1 AL BEL hp hm
  go_wp2
  refine bodyPost_ret (results_cell_row rfl _ _ w.heap.size 56 #[.func (.func 70) #[] #[.pointer (some ⟨pp, 0, none⟩)], .func (.func 74) #[] #[.pointer (some ⟨pp, 0, none⟩)]] (0, 0) _ rfl ZF.out Try.underlying56 rfl (by kernel_rfl)) rfl ?_
  exact ⟨pp, m, rfl, ⟨SD2.out.sr, by have := HP.out; omega, by have := HP.out; omega⟩, BB.out⟩
set_option maxRecDepth 100000 in
set_option maxHeartbeats 8000000 in
theorem impl_copies (x : Gr) (w : World) (B : Nat) (v : Array Value) (h : GrIs w B v x) (GO : OkIs 61 x) (hf : Fits x) :
    Calls Try.prog 15 #[.agg v] w fun en w' => MadeGrW w (copP x) en w' := by
  have CH : Hid (∀ W, Below w.heap.size w W → Calls Try.prog 31 #[.agg v, .func (.func 42) #[] #[]] W fun en w' => MadeGrW W (copP x) en w') := fun W hW => by
    rw [← copP_map x]
    exact chgC_any (fun _ => s0) #[] x W B v (GrKeeps.stays h hW) GO hf (fun i W' _ _ _ => begC_any i W') (fun hk b hb z hz => okz_of h hk b hb z hz) (fun hk i hi => copWn h hk _ (List.getElem_mem hi))
  obtain ⟨X, hX⟩ : ∃ X, copP x = X := ⟨_, rfl⟩
  rw [hX] at CH ⊢
  clear hX GO hf
  obtain ⟨sizes, p, q, r, blocks⟩ := x
  obtain ⟨us, cs, ub, cb, rfl, _⟩ := h
  simp only at *
  have AL := hideP (below2 w (.cells #[.slice us sizes.length cs, .int .i64 p, .int .i64 q, .int .i64 r, .slice ub blocks.length cb] 29) (.cells #[.slice none 0 0, .int .i64 0, .int .i64 0, .int .i64 0, .slice none 0 0] 29))
  have TW := hideP (fun w1 => two (w := w) (w1 := w1) (o1 := .cells #[.slice us sizes.length cs, .int .i64 p, .int .i64 q, .int .i64 r, .slice ub blocks.length cb] 29) (o2 := .cells #[.slice none 0 0, .int .i64 0, .int .i64 0, .int .i64 0, .slice none 0 0] 29))
  have HZ2 : Hid (((w.alloc (.cells #[.slice us sizes.length cs, .int .i64 p, .int .i64 q, .int .i64 r, .slice ub blocks.length cb] 29)).alloc (.cells #[.slice none 0 0, .int .i64 0, .int .i64 0, .int .i64 0, .slice none 0 0] 29)).heap.size = w.heap.size + 2) := by show _ = _; simp
  go_enter Try.func15, Try.ntmps15
  go_wp2_with fail
  refine (CH.out _ AL.out).mono ?_
  rintro e1 w1 ⟨v1, S, g1, cs1, rfl, gi, ow, lo, n1, n2, n3, bel1⟩
  obtain ⟨P1, RR, L1, hw⟩ := TW.out w1 bel1
  rw [HZ2.out] at gi lo
  obtain ⟨us1, ks1, ub1, kb1, rfl, _⟩ := id gi
  obtain ⟨xs, xp, xq, xr, xb⟩ := X
  simp only at gi ow n1 n2 n3 ⊢
  have GI := hideP gi
  have OW := hideP ow
  have LO := hideP lo
  have NN : Hid (S.n = xs.length ∧ cs1.length = xb.length ∧ ∀ i (h : i < cs1.length), cs1[i].n = (xb[i]!).code.length) := ⟨n1, n2, n3⟩
  have HWW := hideP hw
  have hlt := hltP RR
  have fc := (cells_of RR).1
  have r0 := fc 0
  have r1 := fc 1
  have r2 := fc 2
  have r3 := fc 3
  have r4 := fc 4
  simp at r0 r1 r2 r3 r4
  clear fc
  have rf := (cells_of RR).2
  obtain ⟨z4, bu⟩ := put5n RR rfl (.slice us1 xs.length ks1) (.int .i64 xp) (.int .i64 xq) (.int .i64 xr) (.slice ub1 xb.length kb1)
  have ZF := hideP z4
  have BU := hideP bu
  clear z4 bu P1 RR L1 hw gi ow lo n1 n2 n3 bel1 TW AL CH HZ2
  go_wp2
  refine bodyPost_ret (results_cell_row rfl _ _ (w.heap.size + 1) 29 #[.slice us1 xs.length ks1, .int .i64 xp, .int .i64 xq, .int .i64 xr, .slice ub1 xb.length kb1] (0, 0) _ rfl ZF.out Try.underlying29 rfl (by kernel_rfl)) rfl ?_
  have hsb := BU.out.size
  refine ⟨_, S, g1, cs1, rfl, GrKeeps.mono (GrKeeps.but GI.out (by omega) BU.out) (by omega), OW.out.above (B := w.heap.size + 2) (fun c hc => (LO.out c hc).1) (fun k hk hkl => BU.out.block k hkl (by omega)), fun c hc => ?_, NN.out.1, NN.out.2.1, NN.out.2.2, HWW.out.trans (BU.out.below (by omega) (by omega))⟩
  have := LO.out c hc
  omega
end Go.Proofs.Ytjmclmbepnbeoaa
