/- The contract of impl.Threads (written by wip/mkthr.py). -/
import Derived.Test.YtobpcfelgobedabThrE
import Derived.Test.YtobpcfelgobedabWnT
import Derived.Test.YtobpcfelgobedabCpTT
import Derived.Test.YtobpcfelgobedabMadG
import Derived.Deep.RegionHeld3
import Derived.Conc.WalkWords
namespace Go.Proofs.Ytobpcfelgobedab
open Go.ChangeShapes Go.WideShapes Go.ChangeAt Go.RowKit
theorem tell_eta (T : Int → Int) (b : Blk) : (⟨b.code, b.jump, b.a, (tellB T b).to, (tellB T b).els⟩ : Blk) = tellB T b := by
  unfold tellB
  split
  · rfl
  · split <;> rfl
theorem tell_wf {T : Int → Int} {b : Blk} (h : ∀ n, toldOf b n → I64 (T n)) (hw : b.wf) : (tellB T b).wf := by
  unfold tellB
  split
  · rename_i h1
    exact ⟨hw.1, hw.2.1, h _ (Or.inr ⟨Or.inr h1, rfl⟩), h _ (Or.inl ⟨h1, rfl⟩)⟩
  · split
    · rename_i h0
      exact ⟨hw.1, hw.2.1, h _ (Or.inr ⟨Or.inl h0, rfl⟩), hw.2.2.2⟩
    · exact hw
theorem GrIs.turnX {W : World} {A : Nat} {v : Array Value} {y : Gr} {S : CRow} {gb : Nat} {cs : List CRow} (h : GrIs W A v y) (ow : GOwn W v S gb 0 cs) (hl : cs.length = y.blocks.length) {i : Nat} (hi : i < y.blocks.length) {code : List Ins} {jump a t0 els t e : Int} (hx : y.blocks[i] = ⟨code, jump, a, t0, els⟩) (hw : (⟨code, jump, a, t, e⟩ : Blk).wf) {uc : Option Addr} {kc : Nat} (hc : W.cell? ⟨gb, i * 5, none⟩ = some (.slice uc code.length kc)) :
    GrIs (((((W.setCell ⟨gb, i * 5, none⟩ (.slice uc code.length kc)).setCell ⟨gb, i * 5 + 1, none⟩ (.int .i64 jump)).setCell ⟨gb, i * 5 + 2, none⟩ (.int .i64 a)).setCell ⟨gb, i * 5 + 3, none⟩ (.int .i64 t)).setCell ⟨gb, i * 5 + 4, none⟩ (.int .i64 e)) A v { y with blocks := y.blocks.set i ⟨code, jump, a, t, e⟩ } ∧
    GOwn (((((W.setCell ⟨gb, i * 5, none⟩ (.slice uc code.length kc)).setCell ⟨gb, i * 5 + 1, none⟩ (.int .i64 jump)).setCell ⟨gb, i * 5 + 2, none⟩ (.int .i64 a)).setCell ⟨gb, i * 5 + 3, none⟩ (.int .i64 t)).setCell ⟨gb, i * 5 + 4, none⟩ (.int .i64 e)) v S gb 0 cs ∧
    But gb W (((((W.setCell ⟨gb, i * 5, none⟩ (.slice uc code.length kc)).setCell ⟨gb, i * 5 + 1, none⟩ (.int .i64 jump)).setCell ⟨gb, i * 5 + 2, none⟩ (.int .i64 a)).setCell ⟨gb, i * 5 + 3, none⟩ (.int .i64 t)).setCell ⟨gb, i * 5 + 4, none⟩ (.int .i64 e)) := by
  have := h.turnT ow hl hi (t := t) (e := e) (uc := uc) (kc := kc) (by rw [hx]; exact hw) (by rw [hx]; exact hc)
  rw [hx] at this
  exact this
/-- While Threads walks: the boxes of the graph, of the answer, of the copy (in block q), and the copy, its first blocks told anew. -/
structure TgAt (w : World) (bv zv v3 : Array Value) (q : Nat) (y : Gr) (S : CRow) (g3 : Nat) (cs : List CRow) (W : World) : Prop where
  gi : GrIs W (w.heap.size + 2) v3 y
  ow : GOwn W v3 S g3 0 cs
  box : W.heap[w.heap.size]? = some (.cells bv 29 (0, 0))
  res : W.heap[w.heap.size + 1]? = some (.cells zv 29 (0, 0))
  told : W.heap[q]? = some (.cells v3 29 (0, 0))
  bel : Below w.heap.size w W
theorem TgAt.stays {w : World} {bv zv v3 : Array Value} {q : Nat} {y : Gr} {S : CRow} {g3 : Nat} {cs : List CRow} {W W' : World} (h : TgAt w bv zv v3 q y S g3 cs W) (b : Below W.heap.size W W') : TgAt w bv zv v3 q y S g3 cs W' :=
  ⟨GrKeeps.stays h.gi b, h.ow.stays b, (b.block _ (hltH h.box)).trans h.box, (b.block _ (hltH h.res)).trans h.res, (b.block _ (hltH h.told)).trans h.told, below_trans h.bel b⟩
theorem thrU_code (bs : List Blk) (j i : Nat) (h : i < bs.length) : ((thrU bs j)[i]!).code = (bs[i]!).code := by
  rw [getElem!_pos (thrU bs j) i (by rw [thrU_len]; exact h), getElem!_pos bs i h, thrU_at h]
  split
  · unfold tellB
    split
    · rfl
    · split <;> rfl
  · rfl
set_option maxRecDepth 100000 in
set_option maxHeartbeats 8000000 in
theorem impl_threads (x : Gr) (w : World) (B : Nat) (v : Array Value) (h : GrIs w B v x) (GO : OkIs 19 x) (hf : Fits x) :
    Calls Try.prog 7 #[.agg v] w fun en w' => MadeGr w (thrP x) en w' := by
  have HG0 := hideP h
  have HF := hideP hf
  obtain ⟨y, hy⟩ : ∃ y, grOk x = y := ⟨_, rfl⟩
  have HY := hideP hy
  have CY : Hid (∀ W, Below w.heap.size w W → Calls Try.prog 19 #[.agg v] W fun en w' => en = .returned (.bool y) ∧ Below W.heap.size W w') := fun W hW => by rw [← hy]; exact GO W B v (GrKeeps.stays h hW)
  have CL := hideP (fun (hg : grOk x = true) n W (hW : Below w.heap.size w W) pc hq hi => thrClo_any x n W B pc v (GrKeeps.stays h hW) hg hq hi)
  obtain ⟨X, hX⟩ : ∃ X, thrP x = X := ⟨_, rfl⟩
  have HX := hideP hX
  rw [hX]
  clear hy hX GO hf
  obtain ⟨sizes, p, q, r, blocks⟩ := x
  obtain ⟨us, cs, ub, cb, rfl, _⟩ := h
  simp only at *
  have al := below2 w (.cells #[.slice us sizes.length cs, .int .i64 p, .int .i64 q, .int .i64 r, .slice ub blocks.length cb] 29) (.cells #[.slice none 0 0, .int .i64 0, .int .i64 0, .int .i64 0, .slice none 0 0] 29)
  have AL := hideP al
  have TW := hideP (fun w1 => two (w := w) (w1 := w1) (o1 := .cells #[.slice us sizes.length cs, .int .i64 p, .int .i64 q, .int .i64 r, .slice ub blocks.length cb] 29) (o2 := .cells #[.slice none 0 0, .int .i64 0, .int .i64 0, .int .i64 0, .slice none 0 0] 29))
  have hz2 : ((w.alloc (.cells #[.slice us sizes.length cs, .int .i64 p, .int .i64 q, .int .i64 r, .slice ub blocks.length cb] 29)).alloc (.cells #[.slice none 0 0, .int .i64 0, .int .i64 0, .int .i64 0, .slice none 0 0] 29)).heap.size = w.heap.size + 2 := by simp
  have HZ2 := hideP hz2
  clear al hz2
  go_enter Try.func7, Try.ntmps7
  go_wp2_with fail
  refine (graphCopy_any _ _ B _ (GrKeeps.stays HG0.out AL.out) HF.out).mono ?_
  rintro e1 wc ⟨v3, S, g3, cs3, rfl, gi, ow, lo, n1, n2, n3, bel⟩
  obtain ⟨P1, RR, L1, hw⟩ := TW.out wc bel
  rw [HZ2.out] at gi lo
  obtain ⟨us3, ks3, ub3, kb3, rfl, _⟩ := id gi
  simp only at gi ow n1 n2 n3 ⊢
  have T0 : Hid (TgAt w #[.slice us sizes.length cs, .int .i64 p, .int .i64 q, .int .i64 r, .slice ub blocks.length cb] #[.slice none 0 0, .int .i64 0, .int .i64 0, .int .i64 0, .slice none 0 0] #[.slice us3 sizes.length ks3, .int .i64 p, .int .i64 q, .int .i64 r, .slice ub3 blocks.length kb3] wc.heap.size ⟨sizes, p, q, r, blocks⟩ S g3 cs3 (wc.alloc (.cells #[.slice us3 sizes.length ks3, .int .i64 p, .int .i64 q, .int .i64 r, .slice ub3 blocks.length kb3] 29))) := by
    have al2 := (Below.refl wc.heap.size wc).alloc (Nat.le_refl _) (.cells #[.slice us3 sizes.length ks3, .int .i64 p, .int .i64 q, .int .i64 r, .slice ub3 blocks.length kb3] 29)
    exact ⟨GrKeeps.stays gi al2, ow.stays al2, (al2.block _ (hltH P1)).trans P1, (al2.block _ (hltH RR)).trans RR, blk_newG wc _, below_trans hw al2⟩
  have LO := hideP lo
  have N1 := hideP n1
  have N2 := hideP n2
  have N3 := hideP n3
  have L2 : w.heap.size + 2 ≤ wc.heap.size := by have := bel.size; have := HZ2.out; omega
  clear bel P1 RR hw TW AL gi ow lo n1 n2 n3 HZ2 L1
  go_upto_region 2 with fail
  obtain ⟨Wb, hWb⟩ : ∃ Wb, wc.alloc (.cells #[.slice us3 sizes.length ks3, .int .i64 p, .int .i64 q, .int .i64 r, .slice ub3 blocks.length kb3] 29) = Wb := ⟨_, rfl⟩
  rw [hWb] at T0 ⊢
  clear hWb
  have c0 := (cells_of T0.out.box).1 0
  have c1 := (cells_of T0.out.box).1 1
  have c2 := (cells_of T0.out.box).1 2
  have c3 := (cells_of T0.out.box).1 3
  have c4 := (cells_of T0.out.box).1 4
  simp at c0 c1 c2 c3 c4
  go_wp2_with fail
  refine (CY.out _ T0.out.bel).mono ?_
  rintro e2 w2 ⟨rfl, bel2⟩
  have T2 := hideP (T0.out.stays bel2)
  clear CY c0 c1 c2 c3 c4 bel2 T0
  cases y with
  | false =>
    have E : Hid (X = ⟨sizes, p, q, r, blocks⟩) := by show _ = _; rw [← HX.out]; exact thrP_no HY.out
    have d0 := (cells_of T2.out.told).1 0
    have d1 := (cells_of T2.out.told).1 1
    have d2 := (cells_of T2.out.told).1 2
    have d3 := (cells_of T2.out.told).1 3
    have d4 := (cells_of T2.out.told).1 4
    simp at d0 d1 d2 d3 d4
    have r0 := (cells_of T2.out.res).1 0
    have r1 := (cells_of T2.out.res).1 1
    have r2 := (cells_of T2.out.res).1 2
    have r3 := (cells_of T2.out.res).1 3
    have r4 := (cells_of T2.out.res).1 4
    have rf := (cells_of T2.out.res).2
    simp at r0 r1 r2 r3 r4
    have z0 := heap_setCell_same w2 _ 0 _ _ (.slice us3 sizes.length ks3) T2.out.res
    have z1 := heap_setCell_same _ _ 1 _ _ (.int .i64 p) z0
    have z2 := heap_setCell_same _ _ 2 _ _ (.int .i64 q) z1
    have z3 := heap_setCell_same _ _ 3 _ _ (.int .i64 r) z2
    have z4 : (((((w2.setCell ⟨w.heap.size + 1, 0, none⟩ (.slice us3 sizes.length ks3)).setCell ⟨w.heap.size + 1, 1, none⟩ (.int .i64 p)).setCell ⟨w.heap.size + 1, 2, none⟩ (.int .i64 q)).setCell ⟨w.heap.size + 1, 3, none⟩ (.int .i64 r)).setCell ⟨w.heap.size + 1, 4, none⟩ (.slice ub3 blocks.length kb3)).heap[w.heap.size + 1]? = some (.cells #[.slice us3 sizes.length ks3, .int .i64 p, .int .i64 q, .int .i64 r, .slice ub3 blocks.length kb3] 29 (0, 0)) := heap_setCell_same _ _ 4 _ _ (.slice ub3 blocks.length kb3) z3
    have ZF := hideP z4
    have BU : Hid (But (w.heap.size + 1) w2 (((((w2.setCell ⟨w.heap.size + 1, 0, none⟩ (.slice us3 sizes.length ks3)).setCell ⟨w.heap.size + 1, 1, none⟩ (.int .i64 p)).setCell ⟨w.heap.size + 1, 2, none⟩ (.int .i64 q)).setCell ⟨w.heap.size + 1, 3, none⟩ (.int .i64 r)).setCell ⟨w.heap.size + 1, 4, none⟩ (.slice ub3 blocks.length kb3))) := (((((But.refl (w.heap.size + 1) w2).set 0 (.slice us3 sizes.length ks3)).set 1 (.int .i64 p)).set 2 (.int .i64 q)).set 3 (.int .i64 r)).set 4 (.slice ub3 blocks.length kb3)
    clear z0 z1 z2 z3 z4
    go_wp2
    refine bodyPost_ret (results_cell_row rfl _ _ (w.heap.size + 1) 29 #[.slice us3 sizes.length ks3, .int .i64 p, .int .i64 q, .int .i64 r, .slice ub3 blocks.length kb3] (0, 0) _ rfl ZF.out Try.underlying29 rfl (by kernel_rfl)) rfl ?_
    rw [E.out]
    have h3 := hltH T2.out.told
    refine ⟨_, S, g3, cs3, rfl, GrKeeps.mono (GrKeeps.but T2.out.gi (by omega) BU.out) (by omega), T2.out.ow.above (B := w.heap.size + 2) (fun c hc => (LO.out c hc).1) (fun k hk hkl => BU.out.block k hkl (by omega)), fun c hc => ?_, N1.out, N2.out, N3.out, T2.out.bel.trans (BU.out.below (by omega) (by have := T2.out.bel.size; omega))⟩
    have := LO.out c hc
    have := BU.out.size
    omega
  | true =>
    have hok : Hid (grOk ⟨sizes, p, q, r, blocks⟩ = true) := HY.out
    have E : Hid (X = ⟨sizes, p, q, r, thrU blocks blocks.length⟩) := by show _ = _; rw [← HX.out]; exact thrP_ok HY.out
    have hbl := grOk_blocks hok.out
    simp only at hbl
    have hcne : cs3 ≠ [] := fun e => by have := N2.out; rw [e] at this; simp at this; omega
    obtain ⟨usq, kSq, ubq, kBq, vsq, hvq, hub, _⟩ := T2.out.ow.codeAtT T2.out.gi (i := 0) (by have := N2.out; omega)
    have hub3 : ub3 = some ⟨g3, 0, none⟩ := by
      obtain ⟨_, h4⟩ := five_injT hvq
      obtain ⟨h5, _⟩ := slice_injT h4
      rw [h5, hub]
    subst hub3
    have hg3 := (T2.out.ow.mem.2.1 hcne)
    obtain ⟨pg, hpg⟩ := hg3
    have hgr := LO.out _ hpg
    simp only at hgr
    clear hvq hub hpg
    have T3 : Hid (TgAt w #[.slice us sizes.length cs, .int .i64 p, .int .i64 q, .int .i64 r, .slice ub blocks.length cb] #[.slice none 0 0, .int .i64 0, .int .i64 0, .int .i64 0, .slice none 0 0] #[.slice us3 sizes.length ks3, .int .i64 p, .int .i64 q, .int .i64 r, .slice (some ⟨g3, 0, none⟩) blocks.length kb3] wc.heap.size ⟨sizes, p, q, r, thrU blocks 0⟩ S g3 cs3 w2) := by rw [thrU_zero]; exact T2.out
    have d4 := (cells_of T2.out.told).1 4
    simp at d4
    go_wp2
    clear d4 T2
    go_loopg [15] blocks.length (fun gk ix wr => ∃ j : Nat, gk + j = blocks.length ∧ ix = .int .i64 j ∧ Hid (TgAt w #[.slice us sizes.length cs, .int .i64 p, .int .i64 q, .int .i64 r, .slice ub blocks.length cb] #[.slice none 0 0, .int .i64 0, .int .i64 0, .int .i64 0, .slice none 0 0] #[.slice us3 sizes.length ks3, .int .i64 p, .int .i64 q, .int .i64 r, .slice (some ⟨g3, 0, none⟩) blocks.length kb3] wc.heap.size ⟨sizes, p, q, r, thrU blocks j⟩ S g3 cs3 wr))
    case atStart => exact ⟨0, by omega, rfl, T3.out⟩
    case round =>
      obtain ⟨j, hgk, rfl, hT⟩ := hrel
      clear T3
      by_cases hlt : j < blocks.length
      · obtain ⟨us4, cs4, ub4, cb4, hv4, hwf4, hs4, hb4⟩ := id hT.out.gi
        have hub4 : ub4 = some ⟨g3, 0, none⟩ := by
          obtain ⟨_, h4⟩ := five_injT hv4
          obtain ⟨h5, _⟩ := slice_injT h4
          exact h5.symm
        subst hub4
        have hjU : j < (thrU blocks j).length := by rw [thrU_len]; exact hlt
        obtain ⟨b, o, code, jump, a, t0, els, ux, kx, he, _, hbb, hx, q0, q1, q2, q3, q4, hbX⟩ := Blk_get hb4 j hjU
        cases he
        simp only [Nat.zero_add] at q0 q1 q2 q3 q4
        have hxb : blocks[j] = ⟨code, jump, a, t0, els⟩ := by rw [← hx]; rw [thrU_at hlt, if_neg (by omega)]
        have WF : Hid ((⟨code, jump, a, t0, els⟩ : Blk).wf) := by obtain ⟨_, _, _, hw, _⟩ := hbX; exact hw
        have hjmp := jump_to hok.out (List.getElem_mem (l := blocks) hlt)
        have hjme := jump_els hok.out (List.getElem_mem (l := blocks) hlt)
        rw [hxb] at hjmp hjme
        have TR : Hid (∀ n, toldOf ⟨code, jump, a, t0, els⟩ n → InR blocks.length n) := fun n hn => by
          rcases hn with ⟨h1, rfl⟩ | ⟨h1, rfl⟩
          · exact hjme h1
          · exact hjmp h1
        have TI : Hid (∀ n, toldOf ⟨code, jump, a, t0, els⟩ n → I64 (aimT blocks n)) := fun n hn => by
          have h1 : InR blocks.length (aimT blocks n) := aimF_in (fun b hb hj0 => jump_to hok.out hb (Or.inl hj0)) _ _ _ (TR.out n hn)
          have h2 := h1.1
          have h3 := h1.2
          unfold I64
          omega
        have TWF := hideP (tell_wf TI.out WF.out)
        obtain ⟨wr1, hwr1⟩ : ∃ wr1, wr.alloc (.cells #[.slice ux code.length kx, .int .i64 jump, .int .i64 a, .int .i64 t0, .int .i64 els] 40) = wr1 := ⟨_, rfl⟩
        have A1 : Hid (Below wr.heap.size wr wr1) := by show Below _ _ _; rw [← hwr1]; exact (Below.refl _ _).alloc (Nat.le_refl _) _
        have X1 : Hid (wr1.heap[wr.heap.size]? = some (.cells #[.slice ux code.length kx, .int .i64 jump, .int .i64 a, .int .i64 t0, .int .i64 els] 40)) := by show _ = _; rw [← hwr1]; exact blk_newG wr _
        have T1 := hideP (hT.out.stays A1.out)
        have CN := hideP (fun W (hW : Below wr1.heap.size wr1 W) => withNext_any (aimT blocks) code jump a t0 els W ux kx w.heap.size (fun n W2 hW2 hn => CL.out hok.out n W2 (below_trans (below_trans T1.out.bel hW) hW2) w.heap.size ((hW2.block _ (Nat.lt_of_lt_of_le (hltH T1.out.box) hW.size)).trans ((hW.block _ (hltH T1.out.box)).trans T1.out.box)) (TR.out n hn)))
        have TE := tell_eta (aimT blocks) ⟨code, jump, a, t0, els⟩
        obtain ⟨yt, hyt⟩ : ∃ z, (tellB (aimT blocks) ⟨code, jump, a, t0, els⟩).to = z := ⟨_, rfl⟩
        obtain ⟨ye, hye⟩ : ∃ z, (tellB (aimT blocks) ⟨code, jump, a, t0, els⟩).els = z := ⟨_, rfl⟩
        rw [hyt, hye] at TE CN
        simp only at TE
        have HTE := hideP TE
        have SK : Hid (∀ X, Below wr1.heap.size wr1 X → X.cell? ⟨wc.heap.size, 4, none⟩ = some (.slice (some ⟨g3, 0, none⟩) blocks.length kb3) ∧ X.cell? ⟨wr.heap.size, 0, none⟩ = some (.slice ux code.length kx) ∧ X.cell? ⟨wr.heap.size, 1, none⟩ = some (.int .i64 jump) ∧ X.cell? ⟨wr.heap.size, 2, none⟩ = some (.int .i64 a) ∧ X.cell? ⟨wr.heap.size, 3, none⟩ = some (.int .i64 t0) ∧ X.cell? ⟨wr.heap.size, 4, none⟩ = some (.int .i64 els)) := fun X hX => by
          have t4 := (cells_of ((hX.block _ (hltH T1.out.told)).trans T1.out.told)).1 4
          have xx := (cells_of ((hX.block _ (hltH X1.out)).trans X1.out)).1
          exact ⟨t4, xx 0, xx 1, xx 2, xx 3, xx 4⟩
        have KS : Hid (∀ X Y : World, Below wr1.heap.size wr1 X → But g3 X Y → (fun X : World => X.cell? ⟨wc.heap.size, 4, none⟩ = some (.slice (some ⟨g3, 0, none⟩) blocks.length kb3) ∧ X.cell? ⟨wr.heap.size, 0, none⟩ = some (.slice ux code.length kx) ∧ X.cell? ⟨wr.heap.size, 1, none⟩ = some (.int .i64 jump) ∧ X.cell? ⟨wr.heap.size, 2, none⟩ = some (.int .i64 a) ∧ X.cell? ⟨wr.heap.size, 3, none⟩ = some (.int .i64 t0) ∧ X.cell? ⟨wr.heap.size, 4, none⟩ = some (.int .i64 els)) Y) := fun X Y hX hY => by
          have h1 := hltH T1.out.told
          have h2 := hltH X1.out
          have h3 := hltH hT.out.told
          have hne : wc.heap.size ≠ g3 := by omega
          have hne2 : wr.heap.size ≠ g3 := by omega
          have t4 := (cells_of (((hY.block _ (Nat.lt_of_lt_of_le h1 hX.size) hne).trans (hX.block _ h1)).trans T1.out.told)).1 4
          have xx := (cells_of (((hY.block _ (Nat.lt_of_lt_of_le h2 hX.size) hne2).trans (hX.block _ h2)).trans X1.out)).1
          exact ⟨t4, xx 0, xx 1, xx 2, xx 3, xx 4⟩
        have hcell : Hid (wr1.cell? ⟨g3, j * 5, none⟩ = some (.slice ux code.length kx)) := (A1.out.cell (p := ⟨g3, j * 5, none⟩) hbb).trans q0
        have i0 : (0 : Int) ≤ (j : Int) := by omega
        have i1 : (j : Int) < (blocks.length : Int) := by omega
        have HX2 := hideP hx
        have HXB := hideP hxb
        have hg3l : g3 < wr1.heap.size := by have := A1.out.size; omega
        clear hv4 hwf4 hs4 hb4 hbX hjmp hjme TR TI TE hyt hye hx hxb WF
        go_upto_region 7 with fail
        all_goals try rw [hwr1]
        refine wp_region_held_drew (S := fun X => X.cell? ⟨wc.heap.size, 4, none⟩ = some (.slice (some ⟨g3, 0, none⟩) blocks.length kb3) ∧ X.cell? ⟨wr.heap.size, 0, none⟩ = some (.slice ux code.length kx) ∧ X.cell? ⟨wr.heap.size, 1, none⟩ = some (.int .i64 jump) ∧ X.cell? ⟨wr.heap.size, 2, none⟩ = some (.int .i64 a) ∧ X.cell? ⟨wr.heap.size, 3, none⟩ = some (.int .i64 t0) ∧ X.cell? ⟨wr.heap.size, 4, none⟩ = some (.int .i64 els)) (by kernel_rfl) (SK.out _ (Below.refl _ _).drew) (fun hHeld => ?_)
        refine wpAnyH_take (i := 0) (v := .pointer (some ⟨wc.heap.size, 4, none⟩)) rfl (by kernel_rfl) (by kernel_rfl) (by kernel_rfl) (fun _ _ _ h => h) (Or.inl ⟨by rfl, ?_⟩) hHeld ?_
        · rintro X ⟨hX, hX1, hX2, hX3, hX4, hX5⟩; go_simp
        walk_nrm
        refine wpAnyH_take (i := 1) (v := .slice (some ⟨g3, 0, none⟩) blocks.length kb3) rfl (by kernel_rfl) (by kernel_rfl) (by kernel_rfl) (fun _ _ _ h => h) (Or.inl ⟨by rfl, ?_⟩) hHeld ?_
        · rintro X ⟨hX, hX1, hX2, hX3, hX4, hX5⟩; go_simp
        walk_nrm
        refine wpAnyH_take (i := 2) (v := .int .i64 (j : Int)) rfl (by kernel_rfl) (by kernel_rfl) (by kernel_rfl) (fun _ _ _ h => h) (Or.inl ⟨by rfl, ?_⟩) hHeld ?_
        · rintro X ⟨hX, hX1, hX2, hX3, hX4, hX5⟩; go_simp
        walk_nrm
        refine wpAnyH_take (i := 3) (v := .agg #[.slice ux code.length kx, .int .i64 jump, .int .i64 a, .int .i64 t0, .int .i64 els]) rfl (by kernel_rfl) (by kernel_rfl) (by kernel_rfl) (fun _ _ _ h => h) (Or.inl ⟨by rfl, ?_⟩) hHeld ?_
        · rintro X ⟨hX, hX1, hX2, hX3, hX4, hX5⟩; go_simp
        walk_nrm
        refine wpAnyH_take (i := 4) (v := .func (.func 21) #[] #[.pointer (some ⟨w.heap.size, 0, none⟩)]) rfl (by kernel_rfl) (by kernel_rfl) (by kernel_rfl) (fun _ _ _ h => h) (Or.inl ⟨by rfl, ?_⟩) hHeld ?_
        · rintro X ⟨hX, hX1, hX2, hX3, hX4, hX5⟩; go_simp
        walk_nrm
        refine wpAnyH_ready (rs := [5]) (by kernel_rfl) (by simp) ?_
        refine AllReadyH.cons rfl (fun K hK => ?_) (AllReadyH.nil)
        go_simp
        refine (CN.out _ (Below.refl _ _).drew).mono ?_
        rintro e6 w6 ⟨rfl, b6⟩
        have B6 : Hid (Below wr1.heap.size wr1 w6) := (Below.refl _ _).drew.trans (b6.mono (Nat.le_refl _))
        clear b6
        go_wp2_with fail
        refine hK.out _ _ (SK.out _ B6.out) (fun hHeld => ?_)
        clear hK K CN
        walk_nrm
        refine wpAnyH_take (i := 6) (v := .pointer (some ⟨g3, j * 5, none⟩)) rfl (by kernel_rfl) (by kernel_rfl) (by kernel_rfl) (fun _ _ _ h => h) (Or.inl ⟨by rfl, ?_⟩) hHeld ?_
        · rintro X ⟨hX, hX1, hX2, hX3, hX4, hX5⟩; go_simp; all_goals (intro hbad; exfalso; omega)
        walk_nrm
        have T6 := hideP (T1.out.stays B6.out)
        obtain ⟨c5, C5, hc5, hs5⟩ : ∃ c5 C5, w6.heap[g3]? = some (.cells c5 C5 (0, 0)) ∧ blocks.length * 5 ≤ c5.size := by
          obtain ⟨c, C, h1, h2⟩ := T6.out.ow.brow hcne
          exact ⟨c, C, h1, by have := N2.out; omega⟩
        have e0 : ∃ u, w6.cell? ⟨g3, j * 5 + 0, none⟩ = some u := ⟨c5[j * 5 + 0]'(by omega), by rw [(cells_of hc5).1]; exact Array.getElem?_eq_getElem _⟩
        have e1 : ∃ u, w6.cell? ⟨g3, j * 5 + 1, none⟩ = some u := ⟨c5[j * 5 + 1]'(by omega), by rw [(cells_of hc5).1]; exact Array.getElem?_eq_getElem _⟩
        have e2 : ∃ u, w6.cell? ⟨g3, j * 5 + 2, none⟩ = some u := ⟨c5[j * 5 + 2]'(by omega), by rw [(cells_of hc5).1]; exact Array.getElem?_eq_getElem _⟩
        have e3 : ∃ u, w6.cell? ⟨g3, j * 5 + 3, none⟩ = some u := ⟨c5[j * 5 + 3]'(by omega), by rw [(cells_of hc5).1]; exact Array.getElem?_eq_getElem _⟩
        have e4 : ∃ u, w6.cell? ⟨g3, j * 5 + 4, none⟩ = some u := ⟨c5[j * 5 + 4]'(by omega), by rw [(cells_of hc5).1]; exact Array.getElem?_eq_getElem _⟩
        obtain ⟨u0, hu0⟩ := e0
        obtain ⟨u1, hu1⟩ := e1
        obtain ⟨u2, hu2⟩ := e2
        obtain ⟨u3, hu3⟩ := e3
        obtain ⟨u4, hu4⟩ := e4
        rw [Nat.add_zero] at hu0
        have fz := (cells_of hc5).2
        have HC5 := hideP hc5
        clear hc5
        refine wpAnyH_ready (rs := [7]) (by kernel_rfl) (by simp) ?_
        refine AllReadyH.cons rfl (fun K hK => ?_) (AllReadyH.nil)
        go_simp
        refine hK.out _ _ ?_ (fun hHeld => ?_)
        · exact KS.out _ _ B6.out ((((((But.refl g3 w6).set _ _).set _ _).set _ _).set _ _).set _ _)
        clear hK K
        walk_nrm
        refine wpAnyH_done (by kernel_rfl) ?_ _
        clear hHeld
        have NEW : Hid (TgAt w #[.slice us sizes.length cs, .int .i64 p, .int .i64 q, .int .i64 r, .slice ub blocks.length cb] #[.slice none 0 0, .int .i64 0, .int .i64 0, .int .i64 0, .slice none 0 0] #[.slice us3 sizes.length ks3, .int .i64 p, .int .i64 q, .int .i64 r, .slice (some ⟨g3, 0, none⟩) blocks.length kb3] wc.heap.size ⟨sizes, p, q, r, thrU blocks (j + 1)⟩ S g3 cs3 (((((w6.setCell ⟨g3, j * 5, none⟩ (.slice ux code.length kx)).setCell ⟨g3, j * 5 + 1, none⟩ (.int .i64 jump)).setCell ⟨g3, j * 5 + 2, none⟩ (.int .i64 a)).setCell ⟨g3, j * 5 + 3, none⟩ (.int .i64 yt)).setCell ⟨g3, j * 5 + 4, none⟩ (.int .i64 ye))) := by
          obtain ⟨n1, n2, n3⟩ := T6.out.gi.turnX T6.out.ow (by have := N2.out; rw [thrU_len]; exact this) hjU HX2.out (t := yt) (e := ye) (uc := ux) (kc := kx) (by rw [HTE.out]; exact TWF.out) ((B6.out.cell (p := ⟨g3, j * 5, none⟩) hg3l).trans hcell.out)
          rw [HTE.out, ← HXB.out, thrU_step hlt] at n1
          have h3 := hltH T6.out.told
          exact ⟨n1, n2, (n3.block _ (hltH T6.out.box) (by omega)).trans T6.out.box, (n3.block _ (hltH T6.out.res) (by omega)).trans T6.out.res, (n3.block _ h3 (by omega)).trans T6.out.told, T6.out.bel.trans (n3.below (by omega) T6.out.bel.size)⟩
        clear hu0 hu1 hu2 hu3 hu4 fz T6 HC5 SK KS T1 hT
        go_wp2
        go_roundg (blocks.length - (j + 1))
        case rel => exact ⟨j + 1, by omega, by go_num, NEW.out⟩
        case measure => omega
      · have hjn : j = blocks.length := by omega
        subst hjn
        have d0 := (cells_of hT.out.told).1 0
        have d1 := (cells_of hT.out.told).1 1
        have d2 := (cells_of hT.out.told).1 2
        have d3 := (cells_of hT.out.told).1 3
        have d4 := (cells_of hT.out.told).1 4
        simp at d0 d1 d2 d3 d4
        have r0 := (cells_of hT.out.res).1 0
        have r1 := (cells_of hT.out.res).1 1
        have r2 := (cells_of hT.out.res).1 2
        have r3 := (cells_of hT.out.res).1 3
        have r4 := (cells_of hT.out.res).1 4
        have rf := (cells_of hT.out.res).2
        simp at r0 r1 r2 r3 r4
        have z0 := heap_setCell_same wr _ 0 _ _ (.slice us3 sizes.length ks3) hT.out.res
        have z1 := heap_setCell_same _ _ 1 _ _ (.int .i64 p) z0
        have z2 := heap_setCell_same _ _ 2 _ _ (.int .i64 q) z1
        have z3 := heap_setCell_same _ _ 3 _ _ (.int .i64 r) z2
        have z4 : (((((wr.setCell ⟨w.heap.size + 1, 0, none⟩ (.slice us3 sizes.length ks3)).setCell ⟨w.heap.size + 1, 1, none⟩ (.int .i64 p)).setCell ⟨w.heap.size + 1, 2, none⟩ (.int .i64 q)).setCell ⟨w.heap.size + 1, 3, none⟩ (.int .i64 r)).setCell ⟨w.heap.size + 1, 4, none⟩ (.slice (some ⟨g3, 0, none⟩) blocks.length kb3)).heap[w.heap.size + 1]? = some (.cells #[.slice us3 sizes.length ks3, .int .i64 p, .int .i64 q, .int .i64 r, .slice (some ⟨g3, 0, none⟩) blocks.length kb3] 29 (0, 0)) := heap_setCell_same _ _ 4 _ _ (.slice (some ⟨g3, 0, none⟩) blocks.length kb3) z3
        have ZF := hideP z4
        have BU : Hid (But (w.heap.size + 1) wr (((((wr.setCell ⟨w.heap.size + 1, 0, none⟩ (.slice us3 sizes.length ks3)).setCell ⟨w.heap.size + 1, 1, none⟩ (.int .i64 p)).setCell ⟨w.heap.size + 1, 2, none⟩ (.int .i64 q)).setCell ⟨w.heap.size + 1, 3, none⟩ (.int .i64 r)).setCell ⟨w.heap.size + 1, 4, none⟩ (.slice (some ⟨g3, 0, none⟩) blocks.length kb3))) := (((((But.refl (w.heap.size + 1) wr).set 0 (.slice us3 sizes.length ks3)).set 1 (.int .i64 p)).set 2 (.int .i64 q)).set 3 (.int .i64 r)).set 4 (.slice (some ⟨g3, 0, none⟩) blocks.length kb3)
        clear z0 z1 z2 z3 z4
        go_wp2
        refine bodyPost_ret (results_cell_row rfl _ _ (w.heap.size + 1) 29 #[.slice us3 sizes.length ks3, .int .i64 p, .int .i64 q, .int .i64 r, .slice (some ⟨g3, 0, none⟩) blocks.length kb3] (0, 0) _ rfl ZF.out Try.underlying29 rfl (by kernel_rfl)) rfl ?_
        rw [E.out]
        have h3 := hltH hT.out.told
        refine ⟨_, S, g3, cs3, rfl, GrKeeps.mono (GrKeeps.but hT.out.gi (by omega) BU.out) (by omega), hT.out.ow.above (B := w.heap.size + 2) (fun c hc => (LO.out c hc).1) (fun k hk hkl => BU.out.block k hkl (by omega)), fun c hc => ?_, N1.out, by rw [thrU_len]; exact N2.out, fun i hi => ?_, hT.out.bel.trans (BU.out.below (by omega) (by have := hT.out.bel.size; omega))⟩
        · have := LO.out c hc
          have := BU.out.size
          omega
        · have := N2.out
          rw [thrU_code blocks _ i (by omega)]
          exact N3.out i hi
end Go.Proofs.Ytobpcfelgobedab
