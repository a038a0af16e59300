/- The contract of impl.Twice (written by wip/mktop2.py). -/
import Derived.Test.YtjmclmbepnbeoaaCgW
import Derived.Test.YtjmclmbepnbeoaaChAll
import Derived.Test.YtjmclmbepnbeoaaUseA
namespace Go.Proofs.Ytjmclmbepnbeoaa
open Go.ChangeShapes Go.WideShapes Go.ChangeAt Go.RowKit
theorem idx_const (f : Blk → Blk) (l : List Blk) : l.mapIdx (fun _ b => f b) = l.map f := by
  apply List.ext_getElem
  · simp
  · intro i h1 h2
    simp
theorem chB_tw (b : Blk) : chB twF [] idJ b = twB b := rfl
theorem okW_of {w : World} {B : Nat} {v : Array Value} {x : Gr} (h : GrIs w B v x) (hk : grOk x = true) : ∀ b ∈ x.blocks, ∀ z ∈ b.code, OkW z := fun b hb z hz => by
  obtain ⟨hu, hm⟩ := ins_uses (ins_of hk b hb z hz)
  refine ⟨(gr_wf h b hb).2 z hz, fun h2 => ?_⟩
  have h3 := hu z.a (by simp [usesP, h2])
  have h4 := hu z.b (by simp [usesP, h2])
  rcases hm with hm | hm
  · rcases hm.2 with e | e <;> omega
  · omega
theorem twP_few {x : Gr} (h : x.sz ≤ 1048576) : (twP x).sizes.length + celS (twP x).blocks ≤ 50000000 := by
  have h1 := celS_sz x.blocks
  simp only [Gr.sz, slSz] at h
  by_cases hok : grOk x = true
  · rw [twP_ok hok]
    simp only [celS_map9 twB_len]
    omega
  · rw [twP_no hok]
    omega
set_option maxHeartbeats 2000000 in
theorem once0_any (w : World) :
    Calls Try.prog 53 #[] w fun e w' => ∃ pp, e = .returned (.agg #[.func (.func 89) #[] #[.pointer (some ⟨pp, 0, none⟩)], .func (.func 95) #[] #[]]) ∧ TwAt w.heap.size pp 0 [] w' ∧ Below w.heap.size w w' := by
  obtain ⟨k0, k1, k2⟩ := three_at w (.cells #[.func (.func 89) #[] #[.pointer (some ⟨w.heap.size + 1 + 1, 0, none⟩)], .func (.func 95) #[] #[]] 56) (.cells #[] 48) (.cells #[.slice (some ⟨w.heap.size + 1, 0, none⟩) 0 0] 42)
  have bel := below3 w (.cells #[.func (.func 89) #[] #[.pointer (some ⟨w.heap.size + 1 + 1, 0, none⟩)], .func (.func 95) #[] #[]] 56) (.cells #[] 48) (.cells #[.slice (some ⟨w.heap.size + 1, 0, none⟩) 0 0] 42)
  have K0 := hideP k0
  have TW : Hid (TwAt w.heap.size (w.heap.size + 1 + 1) 0 [] (((w.alloc (.cells #[.func (.func 89) #[] #[.pointer (some ⟨w.heap.size + 1 + 1, 0, none⟩)], .func (.func 95) #[] #[]] 56)).alloc (.cells #[] 48)).alloc (.cells #[.slice (some ⟨w.heap.size + 1, 0, none⟩) 0 0] 42))) :=
    ⟨⟨w.heap.size + 1, 0, k2, OwnE.of_parts InOk (l := []) (by omega) k1 (Nat.le_refl _) (Nat.zero_le _) rfl (fun j hj => absurd hj (Nat.not_lt_zero _))⟩, by omega, Nat.le_refl _, fun y hy => absurd hy (by simp)⟩
  have BEL := hideP bel
  clear k0 k1 k2 bel
  go_enter Try.func53, Try.ntmps53
  go_wp2
  refine bodyPost_ret (results_cell_row rfl _ _ w.heap.size 56 #[.func (.func 89) #[] #[.pointer (some ⟨w.heap.size + 1 + 1, 0, none⟩)], .func (.func 95) #[] #[]] (0, 0) _ rfl K0.out Try.underlying56 rfl (by kernel_rfl)) rfl ?_
  exact ⟨w.heap.size + 1 + 1, rfl, TW.out, BEL.out⟩
theorem TwAt.mono {D D' pp j : Nat} {L : List Ins} {W : World} (h : TwAt D pp j L W) (hd : D' ≤ D) : TwAt D' pp j L W :=
  let ⟨g, cap, h1, h2⟩ := h.bx
  ⟨⟨g, cap, h1, h2.mono hd⟩, Nat.le_trans hd h.lo, h.few, h.ok⟩
set_option maxHeartbeats 2000000 in
theorem begW_any (i : Nat) (w : World) :
    Calls Try.prog 52 #[.int .i64 (i : Int)] w fun e w' => ∃ pp, e = .returned (.agg #[.func (.func 89) #[] #[.pointer (some ⟨pp, 0, none⟩)], .func (.func 95) #[] #[]]) ∧ TwAt w.heap.size pp 0 [] w' ∧ Below w.heap.size w w' := by
  have al := (Below.refl w.heap.size w).alloc (Nat.le_refl _) (.cells #[.nilFunc, .nilFunc] 56)
  have AL := hideP al
  have N1 := hideP (newB1 w (.cells #[.nilFunc, .nilFunc] 56))
  have ON := hideP once0_any
  clear al
  go_enter Try.func52, Try.ntmps52
  go_wp2_with fail
  refine (ON.out _).mono ?_
  rintro e1 w1 ⟨pp, rfl, tw, bel⟩
  have n1 := (bel.block _ (hltP N1.out)).trans N1.out
  have hlt := hltP n1
  have r0 := (cells_of n1).1 0
  have r1 := (cells_of n1).1 1
  have rf := (cells_of n1).2
  simp at r0 r1
  have z0 := heap_setCell_same w1 w.heap.size 0 _ _ (.func (.func 89) #[] #[.pointer (some ⟨pp, 0, none⟩)]) n1
  have z1 : ((w1.setCell ⟨w.heap.size, 0, none⟩ (.func (.func 89) #[] #[.pointer (some ⟨pp, 0, none⟩)])).setCell ⟨w.heap.size, 1, none⟩ (.func (.func 95) #[] #[])).heap[w.heap.size]? = some (.cells #[.func (.func 89) #[] #[.pointer (some ⟨pp, 0, none⟩)], .func (.func 95) #[] #[]] 56 (0, 0)) := heap_setCell_same _ w.heap.size 1 _ _ (.func (.func 95) #[] #[]) z0
  have ZF := hideP z1
  have bu : But w.heap.size w1 ((w1.setCell ⟨w.heap.size, 0, none⟩ (.func (.func 89) #[] #[.pointer (some ⟨pp, 0, none⟩)])).setCell ⟨w.heap.size, 1, none⟩ (.func (.func 95) #[] #[])) := ((But.refl w.heap.size w1).set 0 _).set 1 _
  have BEL := hideP (below_trans AL.out bel)
  have hsz : (w.alloc (.cells #[.nilFunc, .nilFunc] 56)).heap.size = w.heap.size + 1 := by simp
  rw [hsz] at tw
  have TW := hideP ((tw.other bu (by omega)).mono (show w.heap.size ≤ w.heap.size + 1 by omega))
  have BB := hideP (BEL.out.trans (bu.below (Nat.le_refl _) BEL.out.size))
  clear z0 z1 bu tw bel n1 hsz AL BEL
  go_wp2
  refine bodyPost_ret (results_cell_row rfl _ _ w.heap.size 56 #[.func (.func 89) #[] #[.pointer (some ⟨pp, 0, none⟩)], .func (.func 95) #[] #[]] (0, 0) _ rfl ZF.out Try.underlying56 rfl (by kernel_rfl)) rfl ?_
  exact ⟨pp, rfl, TW.out, BB.out⟩
theorem twP_map (x : Gr) : (if grOk x = true then { x with blocks := x.blocks.mapIdx (fun _ b => chB twF [] idJ b) } else x) = twP x := by
  unfold twP
  rw [idx_const]
  rfl
set_option maxRecDepth 100000 in
set_option maxHeartbeats 8000000 in
theorem impl_twice (x : Gr) (w : World) (B : Nat) (v : Array Value) (h : GrIs w B v x) (GO : OkIs 61 x) (hf : Fits x) :
    Calls Try.prog 22 #[.agg v] w fun en w' => MadeGrW w (twP x) en w' := by
  have CH : Hid (∀ W, Below w.heap.size w W → Calls Try.prog 31 #[.agg v, .func (.func 52) #[] #[]] W fun en w' => MadeGrW W (twP x) en w') := fun W hW => by
    rw [← twP_map x]
    exact chgW_any (fun _ => []) #[] x W B v (GrKeeps.stays h hW) GO hf (fun i W' _ _ _ => begW_any i W') (okW_of h) (fun hk i hi => by
    obtain ⟨k1, k2⟩ := gr_wf h _ (List.getElem_mem hi)
    exact ⟨k1, fun z hz => twUp_wf k2 z hz⟩)
  obtain ⟨X, hX⟩ : ∃ X, twP x = X := ⟨_, rfl⟩
  rw [hX] at CH ⊢
  clear hX GO hf
  obtain ⟨sizes, p, q, r, blocks⟩ := x
  obtain ⟨us, cs, ub, cb, rfl, _⟩ := h
  simp only at *
  have AL := hideP (below2 w (.cells #[.slice us sizes.length cs, .int .i64 p, .int .i64 q, .int .i64 r, .slice ub blocks.length cb] 29) (.cells #[.slice none 0 0, .int .i64 0, .int .i64 0, .int .i64 0, .slice none 0 0] 29))
  have TW := hideP (fun w1 => two (w := w) (w1 := w1) (o1 := .cells #[.slice us sizes.length cs, .int .i64 p, .int .i64 q, .int .i64 r, .slice ub blocks.length cb] 29) (o2 := .cells #[.slice none 0 0, .int .i64 0, .int .i64 0, .int .i64 0, .slice none 0 0] 29))
  have HZ2 : Hid (((w.alloc (.cells #[.slice us sizes.length cs, .int .i64 p, .int .i64 q, .int .i64 r, .slice ub blocks.length cb] 29)).alloc (.cells #[.slice none 0 0, .int .i64 0, .int .i64 0, .int .i64 0, .slice none 0 0] 29)).heap.size = w.heap.size + 2) := by show _ = _; simp
  go_enter Try.func22, Try.ntmps22
  go_wp2_with fail
  refine (CH.out _ AL.out).mono ?_
  rintro e1 w1 ⟨v1, S, g1, cs1, rfl, gi, ow, lo, n1, n2, n3, bel1⟩
  obtain ⟨P1, RR, L1, hw⟩ := TW.out w1 bel1
  rw [HZ2.out] at gi lo
  obtain ⟨us1, ks1, ub1, kb1, rfl, _⟩ := id gi
  obtain ⟨xs, xp, xq, xr, xb⟩ := X
  simp only at gi ow n1 n2 n3 ⊢
  have GI := hideP gi
  have OW := hideP ow
  have LO := hideP lo
  have NN : Hid (S.n = xs.length ∧ cs1.length = xb.length ∧ ∀ i (h : i < cs1.length), cs1[i].n = (xb[i]!).code.length) := ⟨n1, n2, n3⟩
  have HWW := hideP hw
  have hlt := hltP RR
  have fc := (cells_of RR).1
  have r0 := fc 0
  have r1 := fc 1
  have r2 := fc 2
  have r3 := fc 3
  have r4 := fc 4
  simp at r0 r1 r2 r3 r4
  clear fc
  have rf := (cells_of RR).2
  obtain ⟨z4, bu⟩ := put5n RR rfl (.slice us1 xs.length ks1) (.int .i64 xp) (.int .i64 xq) (.int .i64 xr) (.slice ub1 xb.length kb1)
  have ZF := hideP z4
  have BU := hideP bu
  clear z4 bu P1 RR L1 hw gi ow lo n1 n2 n3 bel1 TW AL CH HZ2
  go_wp2
  refine bodyPost_ret (results_cell_row rfl _ _ (w.heap.size + 1) 29 #[.slice us1 xs.length ks1, .int .i64 xp, .int .i64 xq, .int .i64 xr, .slice ub1 xb.length kb1] (0, 0) _ rfl ZF.out Try.underlying29 rfl (by kernel_rfl)) rfl ?_
  have hsb := BU.out.size
  refine ⟨_, S, g1, cs1, rfl, GrKeeps.mono (GrKeeps.but GI.out (by omega) BU.out) (by omega), OW.out.above (B := w.heap.size + 2) (fun c hc => (LO.out c hc).1) (fun k hk hkl => BU.out.block k hkl (by omega)), fun c hc => ?_, NN.out.1, NN.out.2.1, NN.out.2.2, HWW.out.trans (BU.out.below (by omega) (by omega))⟩
  have := LO.out c hc
  omega
end Go.Proofs.Ytjmclmbepnbeoaa
