/- The contract of impl.Fold (written by wip/mktop2.py). -/
import Derived.Test.YtjmclmbepnbeoaaCgF
import Derived.Test.YtjmclmbepnbeoaaChAll
import Derived.Test.YtjmclmbepnbeoaaUseA
import Derived.Test.YtjmclmbepnbeoaaFigK
namespace Go.Proofs.Ytjmclmbepnbeoaa
open Go.ChangeShapes Go.WideShapes Go.ChangeAt Go.RowKit
theorem idx_constF (f : Blk → Blk) (l : List Blk) : l.mapIdx (fun _ b => f b) = l.map f := by
  apply List.ext_getElem
  · simp
  · intro i h1 h2
    simp
theorem chB_fold (b : Blk) : chB foldF s0 foldJ b = foldB b := (foldB_J b).symm
theorem foldJ_wf {K : Kn} {b : Blk} (h : b.wf) : (foldJ K b).wf := by
  unfold foldJ
  split
  · split
    · refine ⟨i64_zero, i64_zero, ?_, i64_zero⟩
      simp only
      split
      · exact h.2.2.2
      · exact h.2.2.1
    · exact h
  · exact h
theorem foldP_map (x : Gr) : (if grOk x = true then { x with blocks := x.blocks.mapIdx (fun _ b => chB foldF s0 foldJ b) } else x) = foldP x := by
  unfold foldP
  have e : (chB foldF s0 foldJ) = foldB := funext chB_fold
  rw [idx_constF, e]
set_option maxHeartbeats 4000000 in
theorem begF_any (V : Nat) (hV : V ≤ 1000) (i : Nat) (w : World) (bg : Nat) (us ub : Value) (p q : Int) (hg : w.heap[bg]? = some (.cells #[us, .int .i64 p, .int .i64 q, .int .i64 (V : Int), ub] 29 (0, 0))) :
    Calls Try.prog 32 #[.int .i64 (i : Int), .pointer (some ⟨bg, 0, none⟩)] w fun e w' => ∃ pp m cap, e = .returned (.agg #[.func (.func 63) #[] #[.pointer (some ⟨pp, 0, none⟩)], .func (.func 66) #[.slice (some ⟨m, 0, none⟩) V cap] #[]]) ∧ FgAt V w.heap.size pp m cap 0 s0 w' ∧ Below w.heap.size w w' := by
  have al := (Below.refl w.heap.size w).alloc (Nat.le_refl _) (.cells #[.nilFunc, .nilFunc] 56)
  have hsz : (w.alloc (.cells #[.nilFunc, .nilFunc] 56)).heap.size = w.heap.size + 1 := by simp
  have N1 := newB1 w (.cells #[.nilFunc, .nilFunc] 56)
  have G1 := (al.block _ (hltP hg)).trans hg
  obtain ⟨w1, hw1⟩ : ∃ w1, w.alloc (.cells #[.nilFunc, .nilFunc] 56) = w1 := ⟨_, rfl⟩
  rw [hw1] at al hsz N1 G1
  have HW := hideP hw1
  have AL := hideP al
  have HN := hideP N1
  have c3 := (cells_of G1).1 3
  simp at c3
  have mk := make_n (P := Try.prog) Try.underlying59 infoMb V (by omega) (by decide) w1
  have FM := FiAt.made w1 V
  have al2 := (Below.refl w1.heap.size w1).alloc (Nat.le_refl _) (.cells (madeCells #[.bool false, .int .i64 0] (V * 2)) 120)
  have emc : (Value.agg #[.bool false, .int .i64 0]).cells = #[.bool false, .int .i64 0] := rfl
  rw [emc] at mk
  obtain ⟨ZC, hZC⟩ : ∃ ZC, madeCells #[.bool false, .int .i64 0] (V * 2) = ZC := ⟨_, rfl⟩
  rw [hZC] at mk FM al2
  have FD := hideP (folding_any V (w.heap.size + 1) w1.heap.size V (fun _ => none) (w1.alloc (.cells ZC 120)) FM (fun _ _ e => by cases e) (by omega))
  have A2 := hideP al2
  have HSZ := hideP hsz
  clear al N1 G1 hw1 hg hZC FM al2 emc hsz
  go_enter Try.func32, Try.ntmps32
  go_upto_region 1 with fail
  rw [HW.out]
  clear HW
  go_wp2_with fail
  refine FD.out.mono ?_
  rintro e1 w2 ⟨pp, rfl, fg, bel⟩
  have b12 := below_trans A2.out bel
  have n1 := (b12.block _ (hltP HN.out)).trans HN.out
  have hlt := hltP n1
  have r0 := (cells_of n1).1 0
  have r1 := (cells_of n1).1 1
  have rf := (cells_of n1).2
  simp at r0 r1
  obtain ⟨m, hm⟩ : ∃ m, w1.heap.size = m := ⟨_, rfl⟩
  rw [hm] at fg ⊢
  have z0 := heap_setCell_same w2 w.heap.size 0 _ _ (.func (.func 63) #[] #[.pointer (some ⟨pp, 0, none⟩)]) n1
  have z1 : ((w2.setCell ⟨w.heap.size, 0, none⟩ (.func (.func 63) #[] #[.pointer (some ⟨pp, 0, none⟩)])).setCell ⟨w.heap.size, 1, none⟩ (.func (.func 66) #[.slice (some ⟨m, 0, none⟩) V V] #[])).heap[w.heap.size]? = some (.cells #[.func (.func 63) #[] #[.pointer (some ⟨pp, 0, none⟩)], .func (.func 66) #[.slice (some ⟨m, 0, none⟩) V V] #[]] 56 (0, 0)) := heap_setCell_same _ w.heap.size 1 _ _ (.func (.func 66) #[.slice (some ⟨m, 0, none⟩) V V] #[]) z0
  have ZF := hideP z1
  have bu : But w.heap.size w2 ((w2.setCell ⟨w.heap.size, 0, none⟩ (.func (.func 63) #[] #[.pointer (some ⟨pp, 0, none⟩)])).setCell ⟨w.heap.size, 1, none⟩ (.func (.func 66) #[.slice (some ⟨m, 0, none⟩) V V] #[])) := ((But.refl w.heap.size w2).set 0 _).set 1 _
  have fg2 := fg.other bu (by omega)
  have FG : Hid (FgAt V w.heap.size pp m V 0 s0 ((w2.setCell ⟨w.heap.size, 0, none⟩ (.func (.func 63) #[] #[.pointer (some ⟨pp, 0, none⟩)])).setCell ⟨w.heap.size, 1, none⟩ (.func (.func 66) #[.slice (some ⟨m, 0, none⟩) V V] #[]))) := ⟨fg2.bx, fg2.fi, ⟨by have := fg2.lo; omega, by have := fg2.lo; omega⟩, fg2.ki⟩
  have bb := below_trans AL.out b12
  have BB := hideP (bb.trans (bu.below (Nat.le_refl _) bb.size))
  clear z0 z1 bu fg fg2 bel b12 n1 bb hm mk c3
  go_wp2
  refine bodyPost_ret (results_cell_row rfl _ _ w.heap.size 56 #[.func (.func 63) #[] #[.pointer (some ⟨pp, 0, none⟩)], .func (.func 66) #[.slice (some ⟨m, 0, none⟩) V V] #[]] (0, 0) _ rfl ZF.out Try.underlying56 rfl (by kernel_rfl)) rfl ?_
  exact ⟨pp, m, V, rfl, FG.out, BB.out⟩
set_option maxRecDepth 100000 in
set_option maxHeartbeats 8000000 in
theorem impl_fold (x : Gr) (w : World) (B : Nat) (v : Array Value) (h : GrIs w B v x) (GO : OkIs 61 x) (hf : Fits x) :
    Calls Try.prog 10 #[.agg v] w fun en w' => MadeGrW w (foldP x) en w' := by
  have CH : Hid (∀ W, Below w.heap.size w W → W.heap[w.heap.size]? = some (.cells v 29 (0, 0)) → Calls Try.prog 31 #[.agg v, .func (.func 32) #[] #[.pointer (some ⟨w.heap.size, 0, none⟩)]] W fun en w' => MadeGrW W (foldP x) en w') := fun W hW hbx => by
    rw [← foldP_map x]
    obtain ⟨V, hV⟩ : ∃ V : Nat, grOk x = true → x.slots = (V : Int) ∧ V ≤ 1000 := ⟨x.slots.toNat, fun hk => by simp only [grOk, frOk, Bool.and_eq_true, decide_eq_true_eq] at hk; omega⟩
    obtain ⟨us', cs', ub', cb', hv', _⟩ := id h
    exact chgF_any V (fun _ => s0) #[.pointer (some ⟨w.heap.size, 0, none⟩)] x W B v (GrKeeps.stays h hW) GO hf (fun i W' _ hk hW' => begF_any V (hV hk).2 i W' w.heap.size _ _ _ _ (by rw [← (hV hk).1, ← hv']; exact (hW'.block _ (hltP hbx)).trans hbx)) (fun hk => okF_of h (hV hk).1 hk) (fun hk => jmF_of (hV hk).1 hk) (fun hk i hi => by
    obtain ⟨k1, k2⟩ := gr_wf h _ (List.getElem_mem hi)
    refine ⟨?_, ?_⟩
    · have := foldJ_wf (K := (scanUp foldF s0 x.blocks[i].code x.blocks[i].code.length).1) k1
      exact ⟨this.1, this.2.1, this.2.2.1, this.2.2.2⟩
    · exact (foldUp_ki k2 x.blocks[i].code.length).2)
  obtain ⟨X, hX⟩ : ∃ X, foldP x = X := ⟨_, rfl⟩
  rw [hX] at CH ⊢
  clear hX GO hf
  obtain ⟨sizes, p, q, r, blocks⟩ := x
  obtain ⟨us, cs, ub, cb, rfl, _⟩ := h
  simp only at *
  have AL := hideP (below2 w (.cells #[.slice us sizes.length cs, .int .i64 p, .int .i64 q, .int .i64 r, .slice ub blocks.length cb] 29) (.cells #[.slice none 0 0, .int .i64 0, .int .i64 0, .int .i64 0, .slice none 0 0] 29))
  have TW := hideP (fun w1 => two (w := w) (w1 := w1) (o1 := .cells #[.slice us sizes.length cs, .int .i64 p, .int .i64 q, .int .i64 r, .slice ub blocks.length cb] 29) (o2 := .cells #[.slice none 0 0, .int .i64 0, .int .i64 0, .int .i64 0, .slice none 0 0] 29))
  have HZ2 : Hid (((w.alloc (.cells #[.slice us sizes.length cs, .int .i64 p, .int .i64 q, .int .i64 r, .slice ub blocks.length cb] 29)).alloc (.cells #[.slice none 0 0, .int .i64 0, .int .i64 0, .int .i64 0, .slice none 0 0] 29)).heap.size = w.heap.size + 2) := by show _ = _; simp
  go_enter Try.func10, Try.ntmps10
  go_wp2_with fail
  refine (CH.out _ AL.out (heap_alloc2_old w _ _)).mono ?_
  rintro e1 w1 ⟨v1, S, g1, cs1, rfl, gi, ow, lo, n1, n2, n3, bel1⟩
  obtain ⟨P1, RR, L1, hw⟩ := TW.out w1 bel1
  rw [HZ2.out] at gi lo
  obtain ⟨us1, ks1, ub1, kb1, rfl, _⟩ := id gi
  obtain ⟨xs, xp, xq, xr, xb⟩ := X
  simp only at gi ow n1 n2 n3 ⊢
  have GI := hideP gi
  have OW := hideP ow
  have LO := hideP lo
  have NN : Hid (S.n = xs.length ∧ cs1.length = xb.length ∧ ∀ i (h : i < cs1.length), cs1[i].n = (xb[i]!).code.length) := ⟨n1, n2, n3⟩
  have HWW := hideP hw
  have hlt := hltP RR
  have fc := (cells_of RR).1
  have r0 := fc 0
  have r1 := fc 1
  have r2 := fc 2
  have r3 := fc 3
  have r4 := fc 4
  simp at r0 r1 r2 r3 r4
  clear fc
  have rf := (cells_of RR).2
  obtain ⟨z4, bu⟩ := put5n RR rfl (.slice us1 xs.length ks1) (.int .i64 xp) (.int .i64 xq) (.int .i64 xr) (.slice ub1 xb.length kb1)
  have ZF := hideP z4
  have BU := hideP bu
  clear z4 bu P1 RR L1 hw gi ow lo n1 n2 n3 bel1 TW AL CH HZ2
  go_wp2
  refine bodyPost_ret (results_cell_row rfl _ _ (w.heap.size + 1) 29 #[.slice us1 xs.length ks1, .int .i64 xp, .int .i64 xq, .int .i64 xr, .slice ub1 xb.length kb1] (0, 0) _ rfl ZF.out Try.underlying29 rfl (by kernel_rfl)) rfl ?_
  have hsb := BU.out.size
  refine ⟨_, S, g1, cs1, rfl, GrKeeps.mono (GrKeeps.but GI.out (by omega) BU.out) (by omega), OW.out.above (B := w.heap.size + 2) (fun c hc => (LO.out c hc).1) (fun k hk hkl => BU.out.block k hkl (by omega)), fun c hc => ?_, NN.out.1, NN.out.2.1, NN.out.2.2, HWW.out.trans (BU.out.below (by omega) (by omega))⟩
  have := LO.out c hc
  omega
end Go.Proofs.Ytjmclmbepnbeoaa
