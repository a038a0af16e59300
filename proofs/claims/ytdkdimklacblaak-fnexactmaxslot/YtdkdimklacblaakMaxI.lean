/- The contract of impl.MaxSlot. -/
import Derived.Test.YtdkdimklacblaakRangeC
import Derived.Test.YtdkdimklacblaakGrOkI
import Derived.Test.YtdkdimklacblaakMaxSl
import Derived.Test.YtdkdimklacblaakMaxD
import Derived.Stop.RegionWithIn
namespace Go.Proofs.Ytdkdimklacblaak
open Go.ChangeShapes Go.WideShapes Go.ChangeAt Go.RowKit Go.Shelf
attribute [local go_sem] Oper.semAt_some
/-- The list so far lies in its box; the graph's box, and what lay before. -/
structure MxAt (w : World) (m : Nat) (G : Array Value) (l : List Int) (W : World) : Prop where
  g0 : W.heap[w.heap.size]? = some (.cells G 30 (0, 0))
  box : ∃ v, W.heap[m + 1]? = some (.cells #[v] 22 (0, 0)) ∧ OwnI W m v l ∧ ∀ b, v.ownBlock = some b → b = m ∨ m + 4 ≤ b
  bel : Below w.heap.size w W
  pos : w.heap.size < m
theorem MxAt.stays {w : World} {m : Nat} {G : Array Value} {l : List Int} {W W' : World} (h : MxAt w m G l W) (b : Below W.heap.size W W') : MxAt w m G l W' := by
  obtain ⟨g0, ⟨v, h1, h2, h3⟩, bel, pos⟩ := h
  exact ⟨box_keep g0 b, ⟨v, box_keep h1 b, h2.stays b, h3⟩, below_trans bel b, pos⟩
theorem MxAt.alloc {w : World} {m : Nat} {G : Array Value} {l : List Int} {W : World} (h : MxAt w m G l W) (o : Obj) : MxAt w m G l (W.alloc o) := h.stays ((Below.refl W.heap.size W).alloc (Nat.le_refl _) o)
theorem MxAt.put {w : World} {m : Nat} {G : Array Value} {l : List Int} {W : World} (h : MxAt w m G l W) (o : Obj) : MxAt w m G l (W.putObj (m + 3) o) := by
  obtain ⟨g0, ⟨v, h1, h2, h3⟩, bel, pos⟩ := h
  refine ⟨(World.putObj_heap_other (by omega)).trans g0, ⟨v, (World.putObj_heap_other (by omega)).trans h1, ?_, h3⟩, bel.trans (put_below _ (by omega) bel.size), pos⟩
  exact h2.kept (grownBy_putObj' W (m + 3) o) (fun e => by have := h3 _ e; omega)
/-- A list is put behind it: by a call first, then an append, then the box is written. -/
theorem mx_step {w : World} {m : Nat} {G : Array Value} {l l2 : List Int} {W W1 W2 : World} {v v' : Value} (h : MxAt w m G l W) (hv : W.heap[m + 1]? = some (.cells #[v] 22 (0, 0))) (b1 : Below W.heap.size W W1) (hs : m + 4 ≤ W.heap.size)
    (o' : OwnI W2 m v' (l ++ l2)) (gr : W1.grownBy W2 v.ownBlock) (loc : v'.ownBlock = v.ownBlock ∨ v'.ownBlock = some W1.heap.size) :
    MxAt w m G (l ++ l2) (W2.setCell ⟨m + 1, 0, none⟩ v') ∧ KeptC (m + 2) w.heap.size W (W2.setCell ⟨m + 1, 0, none⟩ v') ∧ W2.cell? ⟨m + 1, 0, none⟩ = some v ∧ W2.frozen? ⟨m + 1, 0, none⟩ = false ∧ m + 4 ≤ (W2.setCell ⟨m + 1, 0, none⟩ v').heap.size := by
  obtain ⟨g0, ⟨v0, h1, h2, h3⟩, bel, pos⟩ := h
  rw [hv] at h1
  have hv0 : v = v0 := by simpa using h1
  subst hv0
  clear h1
  have z1 := b1.size
  have z2 := gr.size
  have own : ∀ k, k < W.heap.size → k ≠ m → k < m + 4 → W2.heap[k]? = W.heap[k]? := fun k hk hm h4 => (gr.block k (by omega) (fun e => by have := h3 k e.symm; omega)).trans (b1.block k hk)
  have hbox := (own (m + 1) (by omega) (by omega) (by omega)).trans hv
  have hset : ∀ k, k ≠ m + 1 → (W2.setCell ⟨m + 1, 0, none⟩ v').heap[k]? = W2.heap[k]? := fun k hk => Below.heap_setCell W2 ⟨m + 1, 0, none⟩ v' k (by show k ≠ m + 1; exact hk)
  have hsz : (W2.setCell ⟨m + 1, 0, none⟩ v').heap.size = W2.heap.size := size_set _ _ _
  have hloc : ∀ b, v'.ownBlock = some b → b = m ∨ m + 4 ≤ b := fun b hb => by
    rcases loc with e | e
    · exact h3 b (e ▸ hb)
    · rw [e] at hb; cases hb; right; omega
  have BW2 : Below w.heap.size W W2 := ⟨gr.os.trans b1.os, gr.tape.trans b1.tape, gr.output.trans b1.output, Nat.le_trans z1 z2, fun k hk => (gr.block k (by omega) (fun e => by have := h3 k e.symm; omega)).trans (b1.block k (by omega))⟩
  have BWS := BW2.setCell (p := ⟨m + 1, 0, none⟩) (by show w.heap.size ≤ m + 1; omega) v'
  refine ⟨⟨(hset _ (by omega)).trans ((own _ (by omega) (by omega) (by omega)).trans g0), ⟨v', by simpa using heap_setCell_same W2 (m + 1) 0 #[v] 22 v' hbox, ?_, hloc⟩, bel.trans BWS, pos⟩, ⟨by omega, fun k hk hk2 => (hset k (by omega)).trans (own k (by omega) (by omega) (by omega)), BWS⟩, ?_, ?_, by omega⟩
  · refine OwnI.butG o' (g := m + 1) ?_ (fun e => by have := hloc _ e; omega)
    exact (But.refl _ _).set _ _
  · simpa using (cells_of hbox).1 0
  · exact (cells_of hbox).2 0
theorem KeptC.trans {D B : Nat} {W W1 W2 : World} (h : KeptC D B W W1) (k : KeptC D B W1 W2) : KeptC D B W W2 :=
  ⟨Nat.le_trans h.size k.size, fun i h1 h2 => (k.same i h1 h2).trans (h.same i h1 h2), h.bel.trans k.bel⟩
/-- The box of a step is left as it is: it is no list of numbers of ours. -/
theorem box_keepC {w : World} {m : Nat} {G : Array Value} {l : List Int} {W W1 W2 : World} {v : Value} {bx : Nat} {cs : Array Value} (hx : W.heap[bx]? = some (.cells cs 44 (0, 0))) (b1 : Below W.heap.size W W1) (gr : W1.grownBy W2 v.ownBlock) (h : MxAt w m G l W) (hv : W.heap[m + 1]? = some (.cells #[v] 22 (0, 0))) (hbx : m + 2 + 2 ≤ bx) {v' : Value} : (W2.setCell ⟨m + 1, 0, none⟩ v').heap[bx]? = some (.cells cs 44 (0, 0)) := by
  obtain ⟨v0, h1, h2, _⟩ := h.box
  rw [hv] at h1
  have hv0 : v = v0 := by simpa using h1
  subst hv0
  have hlt := (Array.getElem?_eq_some_iff.1 hx).1
  refine (Below.heap_setCell W2 ⟨m + 1, 0, none⟩ v' bx (by show bx ≠ m + 1; omega)).trans ((gr.block bx (by have := b1.size; omega) (fun e => ?_)).trans ((b1.block bx hlt).trans hx))
  obtain ⟨g, cap, cur, rfl, _, hh, _⟩ := h2.parts
  have : g = bx := own_blk e.symm
  subst this
  rw [hx] at hh
  simp at hh
/-- append in a region that draws its order, inside a fence. -/
theorem step_appI_in {F : Fence} {n : Nat} {ops : Array Oper} {o : Oper} {a : Act} {Q : Exit → Act → World → Prop} {K : Act → World → Prop} {E : Prop} (w : World) (hgd : o.guard = none) (s x : Operand) (ho : o.op = .call { callee := .builtin .append, args := #[s, x], argTypes := #[22, 22] })
    (B : Nat) (v1 : Value) (l1 l2 : List Int) (b o2 m cap2 : Nat) (hm : l2.length = m) (hs : a.eval s = v1) (hx : a.eval x = .slice (some ⟨b, o2, none⟩) m cap2) (h1 : OwnI w B v1 l1) (h2 : ∀ j (h : j < l2.length), w.cell? ⟨b, o2 + j, none⟩ = some (.int .i64 l2[j])) (hn : l1.length + l2.length ≤ 8000000) (hB : B ≤ w.heap.size)
    (h : ∀ v' w', OwnI w' B v' (l1 ++ l2) → w.grownBy w' v1.ownBlock → (v'.ownBlock = v1.ownBlock ∨ v'.ownBlock = some w.heap.size) → K (a.put o.dst v') w') :
    if Region.wanted o (yielded ops a.tmps) = true then Oper.wpIn F n Try.prog o a w K Q else E := by
  have hw : Region.wanted o (yielded ops a.tmps) = true := by simp [Region.wanted, hgd]
  rw [if_pos hw]
  subst hm
  obtain ⟨v', w', hr, r1, r2, r3⟩ := run_appI (cap2 := cap2) o.type h1 h2 hn hB
  unfold Oper.wpIn
  refine ⟨?_, ?_⟩
  · simp [Oper.about, ho, resolve, Target.leads, Sem.run_pure]
  · rw [Oper.semAt_plain F _ _ (by rw [ho]; intro c hc'; cases hc')]
    simp [execOp, ho, resolve, invoke, builtin, hs, hx, hr, Result.andThen]
    exact h v' w' r1 r2 r3
set_option maxRecDepth 100000 in
set_option maxHeartbeats 16000000 in
theorem impl_maxSlot (g : Gr) (w : World) (B : Nat) (v : Array Value) (h : GrIs w B v g) (GO : OkIs 31 g) :
    Calls Try.prog 12 #[.agg v] w fun en w' => en = .returned (.int .i64 (maxP g)) ∧ Below w.heap.size w w' := by
  have hG := hideP h
  obtain ⟨gok, hgok⟩ : ∃ r, grOk g = r := ⟨_, rfl⟩
  have GO1 : Hid (∀ W, Below w.heap.size w W → Calls Try.prog 31 #[.agg v] W fun en w' => en = .returned (.bool gok) ∧ Below W.heap.size W w') := fun W hW => hgok ▸ GO W B v (GrKeeps.stays hG.out hW)
  have HK := hideP hgok
  clear hgok GO
  obtain ⟨sizes, params, vars, slots, blocks⟩ := g
  obtain ⟨us, cs, ub, cb, rfl, ok, hz, hb⟩ := h
  simp only at *
  have hm := maxLen_lt
  have hl := hb.1
  have HB := hideP hb
  clear hz hb ok
  refine (callsIn_wide (n := 4)).1 ?_
  refine callsIn_of_wp_marks Try.func12 rfl trivial ?_ rfl
  simp only [Try.ntmps12, List.size_toArray, List.length_cons, List.length_nil, Nat.reduceAdd, Nat.reduceSub, Array.replicate_succ, Array.replicate_zero, List.push_toArray, List.append_toArray, List.nil_append, List.cons_append]
  have Q0 := hideP (newB w (.cells #[.slice us sizes.length cs, .int .i64 params, .int .i64 vars, .int .i64 slots, .slice ub blocks.length cb] 30))
  cases gok with
  | false =>
    have E : Hid (maxP ⟨sizes, params, vars, slots, blocks⟩ = -1) := if_neg (by rw [HK.out]; simp)
    gi_wp2_with (refine ⟨trivial, ?_⟩; gi_at_call 31; refine (callsIn_wide.2 (GO1.out _ ((Below.refl _ _).alloc (Nat.le_refl _) _))).mono ?_; rintro e1 w1 ⟨rfl, bel1⟩; have BN := hideP (below_new bel1); clear bel1)
    refine ⟨.int .i64 (-1), by simp [results, Try.results12, go_sem], by rw [E.out], BN.out⟩
  | true =>
    gi_wp2_with (refine ⟨trivial, ?_⟩; gi_at_call 31; refine (callsIn_wide.2 (GO1.out _ ((Below.refl _ _).alloc (Nat.le_refl _) _))).mono ?_; rintro e1 w1 ⟨rfl, bel1⟩; have BN := hideP (below_new bel1); have Q1 := hideP (box_keep Q0.out bel1); have Q2 := hideP (box_keep Q1.out (below2 w1 (.cells #[.int .i64 (-1)] 3) (.cells #[.slice (some ⟨w1.heap.size, 0, none⟩) 1 1] 22))); have q4 := (cells_of Q2.out).1 4; simp at q4; clear bel1)
    clear q4
    have hbl := grOk_blocks HK.out
    obtain ⟨k1, k2⟩ : ((w1.alloc (.cells #[.int .i64 (-1)] 3)).alloc (.cells #[.slice (some ⟨w1.heap.size, 0, none⟩) 1 1] 22)).heap[w1.heap.size]? = some (.cells #[.int .i64 (-1)] 3) ∧ ((w1.alloc (.cells #[.int .i64 (-1)] 3)).alloc (.cells #[.slice (some ⟨w1.heap.size, 0, none⟩) 1 1] 22)).heap[w1.heap.size + 1]? = some (.cells #[.slice (some ⟨w1.heap.size, 0, none⟩) 1 1] 22) := by
      have := two (w := w1) (o1 := .cells #[.int .i64 (-1)] 3) (o2 := .cells #[.slice (some ⟨w1.heap.size, 0, none⟩) 1 1] 22) (Below.refl _ _)
      exact ⟨this.1, this.2.1⟩
    have hlt1 : w.heap.size < w1.heap.size := (Array.getElem?_eq_some_iff.1 Q1.out).1
    have own1 : OwnI ((w1.alloc (.cells #[.int .i64 (-1)] 3)).alloc (.cells #[.slice (some ⟨w1.heap.size, 0, none⟩) 1 1] 22)) w1.heap.size (.slice (some ⟨w1.heap.size, 0, none⟩) 1 1) [-1] := (own_lit w1 [-1] #[.int .i64 (-1)] w1.heap.size 1 rfl rfl rfl (by simp)).stays ((Below.refl _ _).alloc (Nat.le_refl _) _)
    have bel2 : Below w.heap.size w ((w1.alloc (.cells #[.int .i64 (-1)] 3)).alloc (.cells #[.slice (some ⟨w1.heap.size, 0, none⟩) 1 1] 22)) := (BN.out.alloc BN.out.size _).alloc (BN.out.alloc BN.out.size _).size _
    have hz2 : ((w1.alloc (.cells #[.int .i64 (-1)] 3)).alloc (.cells #[.slice (some ⟨w1.heap.size, 0, none⟩) 1 1] 22)).heap.size = w1.heap.size + 2 := by simp
    have I0 : MxAt w w1.heap.size #[.slice us sizes.length cs, .int .i64 params, .int .i64 vars, .int .i64 slots, .slice ub blocks.length cb] [-1] ((w1.alloc (.cells #[.int .i64 (-1)] 3)).alloc (.cells #[.slice (some ⟨w1.heap.size, 0, none⟩) 1 1] 22)) := ⟨Q2.out, ⟨_, k2, own1, fun b hb => by left; have := own_blk hb; omega⟩, bel2, by omega⟩
    refine range_stepsC rfl (by decide) (by decide) trivial w B blocks ub cb HB.out bel2 rfl
      (fun pre W => MxAt w w1.heap.size #[.slice us sizes.length cs, .int .i64 params, .int .i64 vars, .int .i64 slots, .slice ub blocks.length cb] (-1 :: pre.flatMap met) W) (fun _ _ => False) (fun pre W o h => h.alloc o) (fun pre W o h => by rw [hz2]; exact h.put o) (fun pre W o h => h)
      I0 4 ?assign ?body ?done ?stop
    case assign =>
      intro l x W K hK
      simp only [insCells]
      gi_wp2
      simpa [axOf, insCells] using hK
    case stop =>
      rintro D pre W hD hpre hx hK
      exact hx.elim
    case body =>
      rintro l pre x bx W hbx hpx hwf hsz hi hx hbel
      rw [hz2] at hbx ⊢
      clear k1 k2 own1 I0 bel2 Q2 Q1 Q0 GO1 hz2
      obtain ⟨m, hm1⟩ : ∃ m, w1.heap.size = m := ⟨_, rfl⟩
      obtain ⟨G, hG2⟩ : ∃ G : Array Value, #[.slice us sizes.length cs, .int .i64 params, .int .i64 vars, .int .i64 slots, .slice ub blocks.length cb] = G := ⟨_, rfl⟩
      simp only [hG2, hm1] at hi hbx ⊢
      have hmw : w.heap.size < m := by omega
      clear hm1 hG2 hlt1
      have hWs : m + 4 ≤ W.heap.size := by have := (Array.getElem?_eq_some_iff.1 hx).1; omega
      have hlen : pre.length + 1 ≤ 1000 := by have := hpx.length_le; simp at this; have := grOk_steps HK.out; simp only at this; omega
      obtain ⟨L, hL⟩ : ∃ L, -1 :: pre.flatMap met = L := ⟨_, rfl⟩
      have hLn : Hid (L.length ≤ 10000) := by rw [← hL]; exact met_few pre hlen
      have FIN : Hid (-1 :: (pre ++ [x]).flatMap met = L ++ [makesP x] ++ usesP x) := by show _ = _; rw [← hL]; simp [met]
      simp only [hL] at hi
      clear hL
      obtain ⟨v, hv, ho, hown⟩ := hi.box
      obtain ⟨g1, cap1, rfl, _⟩ := id ho
      have c0 := (cells_of hv).1 0
      simp at c0
      have xx := (cells_of hx).1
      simp only [insCells] at xx
      have x0 := xx 0
      have x1 := xx 1
      have x2 := xx 2
      have x3 := xx 3
      have x4 := xx 4
      have x5 := xx 5
      have x6 := xx 6
      simp at x0 x1 x2 x3 x4 x5 x6
      have HI := hideP hi
      have HV := hideP hv
      have HX := hideP hx
      have HO := hideP ho
      obtain ⟨mk, hmk⟩ : ∃ mk, makesP x = mk := ⟨_, rfl⟩
      obtain ⟨U, hU⟩ : ∃ U, usesP x = U := ⟨_, rfl⟩
      have US : Hid (∀ W', Calls Try.prog 34 #[.agg #[.int .i64 x.op, .int .i64 x.d, .int .i64 x.a, .int .i64 x.b, .int .i64 x.c, .int .i64 x.n, .string x.t]] W' fun en w' => ∃ v', en = .returned v' ∧ OwnI w' W'.heap.size v' U ∧ Below W'.heap.size W' w') := fun W' => hU ▸ impl_uses x W' 0 _ ⟨rfl, hwf, hsz⟩
      have hUn : Hid (U.length ≤ 3) := by rw [← hU]; exact usesP_len x
      rw [hU] at FIN
      have MK : Hid (∀ W', Calls Try.prog 33 #[.agg #[.int .i64 x.op, .int .i64 x.d, .int .i64 x.a, .int .i64 x.b, .int .i64 x.c, .int .i64 x.n, .string x.t]] W' fun en w' => en = .returned (.int .i64 mk) ∧ Below W'.heap.size W' w') := fun W' => hmk ▸ impl_makes x W' 0 _ ⟨rfl, hwf, hsz⟩
      rw [hmk] at FIN
      clear hi hv hx xx hbel hwf hsz hpx hmk ho hU
      simp only [axOf, insCells]
      gi_wp2
      refine wpIn_mono (Q := fun e a' W' => e = .normal ∧ ∃ t15 t16 t17 t18 t19 : Value, a' = ⟨#[.agg G, .pointer (some ⟨w.heap.size, 0, none⟩), .int .i64 0, .pointer (some ⟨m + 1, 0, none⟩), .pointer (some ⟨bx, 0, none⟩), undef, undef, .agg G, .bool true, .bool false, .slice (some ⟨m, 0, none⟩) 1 1, .pointer (some ⟨w.heap.size, 4, none⟩), .slice ub blocks.length cb, .func (.func 32) #[.slice ub blocks.length cb] #[], .agg #[.int .i64 x.op, .int .i64 x.d, .int .i64 x.a, .int .i64 x.b, .int .i64 x.c, .int .i64 x.n, .string x.t], t15, t16, t17, t18, t19, undef, undef, undef, undef, undef, undef, undef, undef, undef, undef, undef, undef, undef, undef, undef, undef, undef, undef], []⟩ ∧ MxAt w m G (L ++ [mk]) W' ∧ KeptC (m + 2) w.heap.size W W' ∧ W'.heap[bx]? = some (.cells #[.int .i64 x.op, .int .i64 x.d, .int .i64 x.a, .int .i64 x.b, .int .i64 x.c, .int .i64 x.n, .string x.t] 44 (0, 0)) ∧ m + 4 ≤ W'.heap.size) ?r6 ?r7
      case r6 =>
        refine wpIn_region_any (by kernel_rfl) ?_
        change wpAnyIn _ _ _ _ _ _ _ _ _ (World.drew _)
      -- region 6 begins
        refine wpAnyIn_ready (rs := [0, 1]) (by kernel_rfl) (by simp) ?_
        refine AllReadyIn.cons rfl (fun K hK => ?_) ?_
        · go_simp
          refine hK _ _ ?_
          clear hK K
          refine wpAnyIn_ready (rs := [1]) (by kernel_rfl) (by simp) ?_
          refine AllReadyIn.cons rfl (fun K hK => ?_) ?_
          · go_simp
            refine hK _ _ ?_
            clear hK K
            refine wpAnyIn_ready (rs := [2]) (by kernel_rfl) (by simp) ?_
            refine AllReadyIn.cons rfl (fun K hK => ?_) ?_
            · go_simp
              refine ⟨trivial, ?_⟩
              refine (CallsIn.inRound l (callsIn_wide.2 (MK.out _))).mono ?_
              rintro e1 w2 ⟨rfl, bel2⟩
              have B2 := hideP ((Below.refl W.heap.size W).drew.trans (bel2.mono (Nat.le_refl _)))
              have V2 := hideP (box_keep HV.out B2.out)
              have c2 := (cells_of V2.out).1 0
              simp at c2
              clear bel2
              refine hK _ _ ?_
              clear hK K
              refine wpAnyIn_ready (rs := [3]) (by kernel_rfl) (by simp) ?_
              refine AllReadyIn.cons rfl (fun K hK => ?_) ?_
              · go_simp
                have al := (Below.refl w2.heap.size w2).alloc (Nat.le_refl _) (.cells #[.int .i64 mk] 3)
                have B3 := hideP (below_trans B2.out al)
                have O3 := hideP ((HO.out.stays B2.out).stays al)
                have c3 := (cells_of (box_keep V2.out al)).1 0
                simp at c3
                clear al
                refine hK _ _ ?_
                clear hK K
                refine wpAnyIn_ready (rs := [4]) (by kernel_rfl) (by simp) ?_
                refine AllReadyIn.cons rfl (fun K hK => ?_) ?_
                · refine step_appI_in _ rfl _ _ rfl m _ L [mk] w2.heap.size 0 1 1 rfl rfl rfl O3.out (own_lit w2 [mk] _ _ _ rfl rfl rfl (by simp)).at (by have := hLn.out; simp; omega) (by have := B3.out.size; omega) ?_
                  intro v4 w4 o4 gr4 loc4
                  obtain ⟨n4, g4, cap4, rfl⟩ := own_shape o4
                  have M4 := hideP (mx_step HI.out HV.out B3.out hWs o4 gr4 loc4)
                  have X4 := hideP (box_keepC (v' := Value.slice (some ⟨g4, 0, none⟩) n4 cap4) HX.out B3.out gr4 HI.out HV.out hbx)
                  have d4 := M4.out.2.2.1
                  have f4 := M4.out.2.2.2.1
                  clear o4 gr4 loc4
                  refine hK _ _ ?_
                  simp only [Act.put, List.setIfInBounds_toArray]
                  clear hK K
                  refine wpAnyIn_ready (rs := [5]) (by kernel_rfl) (by simp) ?_
                  refine AllReadyIn.cons rfl (fun K hK => ?_) ?_
                  · go_simp
                    refine hK _ _ ?_
                    clear hK K
                    refine wpAnyIn_done (by kernel_rfl) ?_ _
                    exact ⟨rfl, _, _, _, _, _, rfl, M4.out.1, M4.out.2.1, X4.out, M4.out.2.2.2.2⟩
                  exact AllReadyIn.nil
                exact AllReadyIn.nil
              exact AllReadyIn.nil
            exact AllReadyIn.nil
          exact AllReadyIn.nil
        refine AllReadyIn.cons rfl (fun K hK => ?_) ?_
        · go_simp
          refine hK _ _ ?_
          clear hK K
          refine wpAnyIn_ready (rs := [0, 2]) (by kernel_rfl) (by simp) ?_
          refine AllReadyIn.cons rfl (fun K hK => ?_) ?_
          · go_simp
            refine hK _ _ ?_
            clear hK K
            refine wpAnyIn_ready (rs := [2]) (by kernel_rfl) (by simp) ?_
            refine AllReadyIn.cons rfl (fun K hK => ?_) ?_
            · go_simp
              refine ⟨trivial, ?_⟩
              refine (CallsIn.inRound l (callsIn_wide.2 (MK.out _))).mono ?_
              rintro e1 w2 ⟨rfl, bel2⟩
              have B2 := hideP ((Below.refl W.heap.size W).drew.trans (bel2.mono (Nat.le_refl _)))
              have V2 := hideP (box_keep HV.out B2.out)
              have c2 := (cells_of V2.out).1 0
              simp at c2
              clear bel2
              refine hK _ _ ?_
              clear hK K
              refine wpAnyIn_ready (rs := [3]) (by kernel_rfl) (by simp) ?_
              refine AllReadyIn.cons rfl (fun K hK => ?_) ?_
              · go_simp
                have al := (Below.refl w2.heap.size w2).alloc (Nat.le_refl _) (.cells #[.int .i64 mk] 3)
                have B3 := hideP (below_trans B2.out al)
                have O3 := hideP ((HO.out.stays B2.out).stays al)
                have c3 := (cells_of (box_keep V2.out al)).1 0
                simp at c3
                clear al
                refine hK _ _ ?_
                clear hK K
                refine wpAnyIn_ready (rs := [4]) (by kernel_rfl) (by simp) ?_
                refine AllReadyIn.cons rfl (fun K hK => ?_) ?_
                · refine step_appI_in _ rfl _ _ rfl m _ L [mk] w2.heap.size 0 1 1 rfl rfl rfl O3.out (own_lit w2 [mk] _ _ _ rfl rfl rfl (by simp)).at (by have := hLn.out; simp; omega) (by have := B3.out.size; omega) ?_
                  intro v4 w4 o4 gr4 loc4
                  obtain ⟨n4, g4, cap4, rfl⟩ := own_shape o4
                  have M4 := hideP (mx_step HI.out HV.out B3.out hWs o4 gr4 loc4)
                  have X4 := hideP (box_keepC (v' := Value.slice (some ⟨g4, 0, none⟩) n4 cap4) HX.out B3.out gr4 HI.out HV.out hbx)
                  have d4 := M4.out.2.2.1
                  have f4 := M4.out.2.2.2.1
                  clear o4 gr4 loc4
                  refine hK _ _ ?_
                  simp only [Act.put, List.setIfInBounds_toArray]
                  clear hK K
                  refine wpAnyIn_ready (rs := [5]) (by kernel_rfl) (by simp) ?_
                  refine AllReadyIn.cons rfl (fun K hK => ?_) ?_
                  · go_simp
                    refine hK _ _ ?_
                    clear hK K
                    refine wpAnyIn_done (by kernel_rfl) ?_ _
                    exact ⟨rfl, _, _, _, _, _, rfl, M4.out.1, M4.out.2.1, X4.out, M4.out.2.2.2.2⟩
                  exact AllReadyIn.nil
                exact AllReadyIn.nil
              exact AllReadyIn.nil
            exact AllReadyIn.nil
          refine AllReadyIn.cons rfl (fun K hK => ?_) ?_
          · go_simp
            refine ⟨trivial, ?_⟩
            refine (CallsIn.inRound l (callsIn_wide.2 (MK.out _))).mono ?_
            rintro e1 w2 ⟨rfl, bel2⟩
            have B2 := hideP ((Below.refl W.heap.size W).drew.trans (bel2.mono (Nat.le_refl _)))
            have V2 := hideP (box_keep HV.out B2.out)
            have c2 := (cells_of V2.out).1 0
            simp at c2
            clear bel2
            refine hK _ _ ?_
            clear hK K
            refine wpAnyIn_ready (rs := [0, 3]) (by kernel_rfl) (by simp) ?_
            refine AllReadyIn.cons rfl (fun K hK => ?_) ?_
            · go_simp
              refine hK _ _ ?_
              clear hK K
              refine wpAnyIn_ready (rs := [3]) (by kernel_rfl) (by simp) ?_
              refine AllReadyIn.cons rfl (fun K hK => ?_) ?_
              · go_simp
                have al := (Below.refl w2.heap.size w2).alloc (Nat.le_refl _) (.cells #[.int .i64 mk] 3)
                have B3 := hideP (below_trans B2.out al)
                have O3 := hideP ((HO.out.stays B2.out).stays al)
                have c3 := (cells_of (box_keep V2.out al)).1 0
                simp at c3
                clear al
                refine hK _ _ ?_
                clear hK K
                refine wpAnyIn_ready (rs := [4]) (by kernel_rfl) (by simp) ?_
                refine AllReadyIn.cons rfl (fun K hK => ?_) ?_
                · refine step_appI_in _ rfl _ _ rfl m _ L [mk] w2.heap.size 0 1 1 rfl rfl rfl O3.out (own_lit w2 [mk] _ _ _ rfl rfl rfl (by simp)).at (by have := hLn.out; simp; omega) (by have := B3.out.size; omega) ?_
                  intro v4 w4 o4 gr4 loc4
                  obtain ⟨n4, g4, cap4, rfl⟩ := own_shape o4
                  have M4 := hideP (mx_step HI.out HV.out B3.out hWs o4 gr4 loc4)
                  have X4 := hideP (box_keepC (v' := Value.slice (some ⟨g4, 0, none⟩) n4 cap4) HX.out B3.out gr4 HI.out HV.out hbx)
                  have d4 := M4.out.2.2.1
                  have f4 := M4.out.2.2.2.1
                  clear o4 gr4 loc4
                  refine hK _ _ ?_
                  simp only [Act.put, List.setIfInBounds_toArray]
                  clear hK K
                  refine wpAnyIn_ready (rs := [5]) (by kernel_rfl) (by simp) ?_
                  refine AllReadyIn.cons rfl (fun K hK => ?_) ?_
                  · go_simp
                    refine hK _ _ ?_
                    clear hK K
                    refine wpAnyIn_done (by kernel_rfl) ?_ _
                    exact ⟨rfl, _, _, _, _, _, rfl, M4.out.1, M4.out.2.1, X4.out, M4.out.2.2.2.2⟩
                  exact AllReadyIn.nil
                exact AllReadyIn.nil
              exact AllReadyIn.nil
            refine AllReadyIn.cons rfl (fun K hK => ?_) ?_
            · go_simp
              have al := (Below.refl w2.heap.size w2).alloc (Nat.le_refl _) (.cells #[.int .i64 mk] 3)
              have B3 := hideP (below_trans B2.out al)
              have O3 := hideP ((HO.out.stays B2.out).stays al)
              have c3 := (cells_of (box_keep V2.out al)).1 0
              simp at c3
              clear al
              refine hK _ _ ?_
              clear hK K
              refine wpAnyIn_ready (rs := [0]) (by kernel_rfl) (by simp) ?_
              refine AllReadyIn.cons rfl (fun K hK => ?_) ?_
              · go_simp
                refine hK _ _ ?_
                clear hK K
                refine wpAnyIn_ready (rs := [4]) (by kernel_rfl) (by simp) ?_
                refine AllReadyIn.cons rfl (fun K hK => ?_) ?_
                · refine step_appI_in _ rfl _ _ rfl m _ L [mk] w2.heap.size 0 1 1 rfl rfl rfl O3.out (own_lit w2 [mk] _ _ _ rfl rfl rfl (by simp)).at (by have := hLn.out; simp; omega) (by have := B3.out.size; omega) ?_
                  intro v4 w4 o4 gr4 loc4
                  obtain ⟨n4, g4, cap4, rfl⟩ := own_shape o4
                  have M4 := hideP (mx_step HI.out HV.out B3.out hWs o4 gr4 loc4)
                  have X4 := hideP (box_keepC (v' := Value.slice (some ⟨g4, 0, none⟩) n4 cap4) HX.out B3.out gr4 HI.out HV.out hbx)
                  have d4 := M4.out.2.2.1
                  have f4 := M4.out.2.2.2.1
                  clear o4 gr4 loc4
                  refine hK _ _ ?_
                  simp only [Act.put, List.setIfInBounds_toArray]
                  clear hK K
                  refine wpAnyIn_ready (rs := [5]) (by kernel_rfl) (by simp) ?_
                  refine AllReadyIn.cons rfl (fun K hK => ?_) ?_
                  · go_simp
                    refine hK _ _ ?_
                    clear hK K
                    refine wpAnyIn_done (by kernel_rfl) ?_ _
                    exact ⟨rfl, _, _, _, _, _, rfl, M4.out.1, M4.out.2.1, X4.out, M4.out.2.2.2.2⟩
                  exact AllReadyIn.nil
                exact AllReadyIn.nil
              exact AllReadyIn.nil
            exact AllReadyIn.nil
          exact AllReadyIn.nil
        exact AllReadyIn.nil
      -- region 6 ends
      rintro e5 a5 W5 ⟨rfl, t15, t16, t17, t18, t19, rfl, hi5, kp5, hx5, hWs5⟩
      clear c0 x0 x1 x2 x3 x4 x5 x6
      obtain ⟨v5, hv5, ho5, _⟩ := hi5.box
      obtain ⟨n5, g5, cap5, rfl⟩ := own_shape ho5
      have c0 := (cells_of hv5).1 0
      simp at c0
      have xx := (cells_of hx5).1
      have x0 := xx 0
      have x1 := xx 1
      have x2 := xx 2
      have x3 := xx 3
      have x4 := xx 4
      have x5 := xx 5
      have x6 := xx 6
      simp at x0 x1 x2 x3 x4 x5 x6
      have HI5 := hideP hi5
      have HV5 := hideP hv5
      have HO5 := hideP ho5
      have KP5 := hideP kp5
      clear hi5 hv5 ho5 kp5 hx5 xx
      gi_wp2
      refine wpIn_region_any (by kernel_rfl) ?_
      change wpAnyIn _ _ _ _ _ _ _ _ _ (World.drew _)
      -- region 7 begins
      refine wpAnyIn_ready (rs := [0, 1]) (by kernel_rfl) (by simp) ?_
      refine AllReadyIn.cons rfl (fun K hK => ?_) ?_
      · go_simp
        refine hK _ _ ?_
        clear hK K
        refine wpAnyIn_ready (rs := [1]) (by kernel_rfl) (by simp) ?_
        refine AllReadyIn.cons rfl (fun K hK => ?_) ?_
        · go_simp
          refine hK _ _ ?_
          clear hK K
          refine wpAnyIn_ready (rs := [2]) (by kernel_rfl) (by simp) ?_
          refine AllReadyIn.cons rfl (fun K hK => ?_) ?_
          · go_simp
            refine ⟨trivial, ?_⟩
            refine (CallsIn.inRound l (callsIn_wide.2 (US.out _))).mono ?_
            rintro e1 w2 ⟨v2, rfl, o2, bel2⟩
            obtain ⟨g2, cap2, rfl, _⟩ := id o2
            have B2 := hideP ((Below.refl W5.heap.size W5).drew.trans (bel2.mono (Nat.le_refl _)))
            have V2 := hideP (box_keep HV5.out B2.out)
            have O2 := hideP o2
            have c2 := (cells_of V2.out).1 0
            simp at c2
            clear bel2 o2
            refine hK _ _ ?_
            clear hK K
            refine wpAnyIn_ready (rs := [3]) (by kernel_rfl) (by simp) ?_
            refine AllReadyIn.cons rfl (fun K hK => ?_) ?_
            · refine step_appI_in _ rfl _ _ rfl m _ (L ++ [mk]) U g2 0 U.length cap2 rfl rfl rfl (HO5.out.stays B2.out) O2.out.at (by have := hLn.out; have := hUn.out; rw [List.length_append, List.length_singleton]; omega) (by have := B2.out.size; omega) ?_
              intro v4 w4 o4 gr4 loc4
              obtain ⟨n4, g4, cap4, rfl⟩ := own_shape o4
              have M4 := hideP (mx_step HI5.out HV5.out B2.out hWs5 o4 gr4 loc4)
              have d4 := M4.out.2.2.1
              have f4 := M4.out.2.2.2.1
              clear o4 gr4 loc4
              refine hK _ _ ?_
              simp only [Act.put, List.setIfInBounds_toArray]
              clear hK K
              refine wpAnyIn_ready (rs := [4]) (by kernel_rfl) (by simp) ?_
              refine AllReadyIn.cons rfl (fun K hK => ?_) ?_
              · go_simp
                refine hK _ _ ?_
                clear hK K
                refine wpAnyIn_done (by kernel_rfl) ?_ _
                gi_wp2
                exact ⟨KP5.out.trans M4.out.2.1, by show MxAt _ _ _ _ _; rw [FIN.out]; exact M4.out.1⟩
              exact AllReadyIn.nil
            exact AllReadyIn.nil
          exact AllReadyIn.nil
        exact AllReadyIn.nil
      refine AllReadyIn.cons rfl (fun K hK => ?_) ?_
      · go_simp
        refine hK _ _ ?_
        clear hK K
        refine wpAnyIn_ready (rs := [0, 2]) (by kernel_rfl) (by simp) ?_
        refine AllReadyIn.cons rfl (fun K hK => ?_) ?_
        · go_simp
          refine hK _ _ ?_
          clear hK K
          refine wpAnyIn_ready (rs := [2]) (by kernel_rfl) (by simp) ?_
          refine AllReadyIn.cons rfl (fun K hK => ?_) ?_
          · go_simp
            refine ⟨trivial, ?_⟩
            refine (CallsIn.inRound l (callsIn_wide.2 (US.out _))).mono ?_
            rintro e1 w2 ⟨v2, rfl, o2, bel2⟩
            obtain ⟨g2, cap2, rfl, _⟩ := id o2
            have B2 := hideP ((Below.refl W5.heap.size W5).drew.trans (bel2.mono (Nat.le_refl _)))
            have V2 := hideP (box_keep HV5.out B2.out)
            have O2 := hideP o2
            have c2 := (cells_of V2.out).1 0
            simp at c2
            clear bel2 o2
            refine hK _ _ ?_
            clear hK K
            refine wpAnyIn_ready (rs := [3]) (by kernel_rfl) (by simp) ?_
            refine AllReadyIn.cons rfl (fun K hK => ?_) ?_
            · refine step_appI_in _ rfl _ _ rfl m _ (L ++ [mk]) U g2 0 U.length cap2 rfl rfl rfl (HO5.out.stays B2.out) O2.out.at (by have := hLn.out; have := hUn.out; rw [List.length_append, List.length_singleton]; omega) (by have := B2.out.size; omega) ?_
              intro v4 w4 o4 gr4 loc4
              obtain ⟨n4, g4, cap4, rfl⟩ := own_shape o4
              have M4 := hideP (mx_step HI5.out HV5.out B2.out hWs5 o4 gr4 loc4)
              have d4 := M4.out.2.2.1
              have f4 := M4.out.2.2.2.1
              clear o4 gr4 loc4
              refine hK _ _ ?_
              simp only [Act.put, List.setIfInBounds_toArray]
              clear hK K
              refine wpAnyIn_ready (rs := [4]) (by kernel_rfl) (by simp) ?_
              refine AllReadyIn.cons rfl (fun K hK => ?_) ?_
              · go_simp
                refine hK _ _ ?_
                clear hK K
                refine wpAnyIn_done (by kernel_rfl) ?_ _
                gi_wp2
                exact ⟨KP5.out.trans M4.out.2.1, by show MxAt _ _ _ _ _; rw [FIN.out]; exact M4.out.1⟩
              exact AllReadyIn.nil
            exact AllReadyIn.nil
          exact AllReadyIn.nil
        refine AllReadyIn.cons rfl (fun K hK => ?_) ?_
        · go_simp
          refine ⟨trivial, ?_⟩
          refine (CallsIn.inRound l (callsIn_wide.2 (US.out _))).mono ?_
          rintro e1 w2 ⟨v2, rfl, o2, bel2⟩
          obtain ⟨g2, cap2, rfl, _⟩ := id o2
          have B2 := hideP ((Below.refl W5.heap.size W5).drew.trans (bel2.mono (Nat.le_refl _)))
          have V2 := hideP (box_keep HV5.out B2.out)
          have O2 := hideP o2
          have c2 := (cells_of V2.out).1 0
          simp at c2
          clear bel2 o2
          refine hK _ _ ?_
          clear hK K
          refine wpAnyIn_ready (rs := [0]) (by kernel_rfl) (by simp) ?_
          refine AllReadyIn.cons rfl (fun K hK => ?_) ?_
          · go_simp
            refine hK _ _ ?_
            clear hK K
            refine wpAnyIn_ready (rs := [3]) (by kernel_rfl) (by simp) ?_
            refine AllReadyIn.cons rfl (fun K hK => ?_) ?_
            · refine step_appI_in _ rfl _ _ rfl m _ (L ++ [mk]) U g2 0 U.length cap2 rfl rfl rfl (HO5.out.stays B2.out) O2.out.at (by have := hLn.out; have := hUn.out; rw [List.length_append, List.length_singleton]; omega) (by have := B2.out.size; omega) ?_
              intro v4 w4 o4 gr4 loc4
              obtain ⟨n4, g4, cap4, rfl⟩ := own_shape o4
              have M4 := hideP (mx_step HI5.out HV5.out B2.out hWs5 o4 gr4 loc4)
              have d4 := M4.out.2.2.1
              have f4 := M4.out.2.2.2.1
              clear o4 gr4 loc4
              refine hK _ _ ?_
              simp only [Act.put, List.setIfInBounds_toArray]
              clear hK K
              refine wpAnyIn_ready (rs := [4]) (by kernel_rfl) (by simp) ?_
              refine AllReadyIn.cons rfl (fun K hK => ?_) ?_
              · go_simp
                refine hK _ _ ?_
                clear hK K
                refine wpAnyIn_done (by kernel_rfl) ?_ _
                gi_wp2
                exact ⟨KP5.out.trans M4.out.2.1, by show MxAt _ _ _ _ _; rw [FIN.out]; exact M4.out.1⟩
              exact AllReadyIn.nil
            exact AllReadyIn.nil
          exact AllReadyIn.nil
        exact AllReadyIn.nil
      exact AllReadyIn.nil
      -- region 7 ends
    case done =>
      rintro D W hD hi hbel hK
      rw [hz2] at hD
      subst hD
      clear k1 k2 own1 I0 bel2 Q2 Q1 Q0 GO1 hz2 hbel
      obtain ⟨m, hm1⟩ : ∃ m, w1.heap.size = m := ⟨_, rfl⟩
      obtain ⟨G, hG2⟩ : ∃ G : Array Value, #[.slice us sizes.length cs, .int .i64 params, .int .i64 vars, .int .i64 slots, .slice ub blocks.length cb] = G := ⟨_, rfl⟩
      simp only [hG2, hm1] at hi hK ⊢
      have p4 := (cells_of hi.g0).1 4
      rw [← hG2] at p4
      simp at p4
      clear hm1 hG2 hlt1
      obtain ⟨C, hC⟩ : ∃ C, (codeAll blocks).flatMap met = C := ⟨_, rfl⟩
      have hCn : Hid (C.length ≤ 10000) := by
        rw [← hC]
        have h1 := grOk_steps HK.out
        have h2 := met_flat (codeAll blocks)
        show _ ≤ _
        simp only at h1
        omega
      have E : Hid (maxP ⟨sizes, params, vars, slots, blocks⟩ = topFrom (-1) (C ++ blocks.flatMap metJ)) := by
        show maxP _ = _
        unfold maxP
        rw [if_pos HK.out, ← hC]
        exact top_met usesP makesP blocks (jmp_of_ok HK.out)
      simp only [hC] at hi
      have HI := hideP hi
      have HD := hideP hK
      clear hi hK hC
      gi_wp2
      clear p4
      gi_loopw [27] (fun i wr => ∃ j : Nat, j ≤ blocks.length ∧ i = .int .i64 j ∧ Hid (MxAt w m G (-1 :: (C ++ (blocks.take j).flatMap metJ)) wr) ∧ Hid (wr.heap[m + 2]? = some (.deferred (some [])))) (fun i _ => blocks.length - (intOf i).toNat)
      case atStart => exact ⟨0, Nat.zero_le _, rfl, by show MxAt _ _ _ _ _; simpa using HI.out, HD.out⟩
      case round =>
        obtain ⟨j, hj, rfl, him, hdm⟩ := hrel
        by_cases hlt : j < blocks.length
        · obtain ⟨b, o, x0, x1, x2, x3, x4, ux, kx, rfl, _, hbb, hx, q0, q1, q2, q3, q4, hbX⟩ := Blk_get (HB.out.stays BlkKeeps him.out.bel) j hlt
          have TK : Hid (-1 :: (C ++ (blocks.take (j + 1)).flatMap metJ) = -1 :: (C ++ (blocks.take j).flatMap metJ) ++ metJ ⟨x0, x1, x2, x3, x4⟩) := by
            show _ = _
            rw [List.take_succ_eq_append_getElem hlt, hx]
            simp
          have hLn : Hid ((-1 :: (C ++ (blocks.take j).flatMap metJ)).length ≤ 20000) := by
            have h1 := hCn.out
            have h2 := metJ_flat (blocks.take j)
            have h3 : (blocks.take j).length ≤ j := List.length_take_le _ _
            show _ ≤ _
            rw [List.length_cons, List.length_append]
            omega
          obtain ⟨J, hJ⟩ : ∃ J, metJ ⟨x0, x1, x2, x3, x4⟩ = J := ⟨_, rfl⟩
          have hJn : Hid (J.length ≤ 1) := by rw [← hJ]; exact metJ_len _
          obtain ⟨LL, hLL⟩ : ∃ LL, -1 :: (C ++ (blocks.take j).flatMap metJ) = LL := ⟨_, rfl⟩
          have JU : Hid (∀ W', Below wr.heap.size wr W' → Calls Try.prog 35 #[.agg #[.slice ux x0.length kx, .int .i64 x1, .int .i64 x2, .int .i64 x3, .int .i64 x4]] W' fun en w' => ∃ v', en = .returned v' ∧ OwnI w' W'.heap.size v' J ∧ Below W'.heap.size W' w') := fun W' hW' => hJ ▸ jumpUses_any ⟨x0, x1, x2, x3, x4⟩ W' B _ (BlkKeeps.stays hbX hW')
          rw [hJ, hLL] at TK
          rw [hLL] at hLn him
          clear hJ hLL hx hbX
          gi_wp2
          have al := (Below.refl wr.heap.size wr).alloc (Nat.le_refl _) (.cells #[.slice ux x0.length kx, .int .i64 x1, .int .i64 x2, .int .i64 x3, .int .i64 x4] 42)
          have nb := newB wr (.cells #[.slice ux x0.length kx, .int .i64 x1, .int .i64 x2, .int .i64 x3, .int .i64 x4] 42)
          have hsz : (wr.alloc (.cells #[.slice ux x0.length kx, .int .i64 x1, .int .i64 x2, .int .i64 x3, .int .i64 x4] 42)).heap.size = wr.heap.size + 1 := by simp
          have hi := him.out.stays al
          have DA := hideP (box_keep hdm.out al)
          have hdl := (Array.getElem?_eq_some_iff.1 hdm.out).1
          obtain ⟨WA, hWA⟩ : ∃ WA, wr.alloc (.cells #[.slice ux x0.length kx, .int .i64 x1, .int .i64 x2, .int .i64 x3, .int .i64 x4] 42) = WA := ⟨_, rfl⟩
          rw [hWA] at al nb hsz hi DA ⊢
          clear hWA
          have BA := hideP al
          have hWs : m + 4 ≤ WA.heap.size := by omega
          have yy := (cells_of nb).1
          have y0 := yy 0
          have y1 := yy 1
          have y2 := yy 2
          have y3 := yy 3
          have y4 := yy 4
          simp at y0 y1 y2 y3 y4
          obtain ⟨v, hv, ho, _⟩ := hi.box
          obtain ⟨n1, g1, cap1, rfl⟩ := own_shape ho
          have c0 := (cells_of hv).1 0
          simp at c0
          have HV := hideP hv
          have HO := hideP ho
          have HI := hideP hi
          clear al nb hsz hi yy hv ho q0 q1 q2 q3 q4
          refine wpIn_region_any (by kernel_rfl) ?_
          change wpAnyIn _ _ _ _ _ _ _ _ _ (World.drew _)
      -- region 11 begins
          refine wpAnyIn_ready (rs := [0, 1]) (by kernel_rfl) (by simp) ?_
          refine AllReadyIn.cons rfl (fun K hK => ?_) ?_
          · go_simp
            refine hK _ _ ?_
            clear hK K
            refine wpAnyIn_ready (rs := [1]) (by kernel_rfl) (by simp) ?_
            refine AllReadyIn.cons rfl (fun K hK => ?_) ?_
            · go_simp
              refine hK _ _ ?_
              clear hK K
              refine wpAnyIn_ready (rs := [2]) (by kernel_rfl) (by simp) ?_
              refine AllReadyIn.cons rfl (fun K hK => ?_) ?_
              · go_simp
                refine ⟨trivial, ?_⟩
                refine (callsIn_wide.2 (JU.out _ BA.out.drew)).mono ?_
                rintro e1 w2 ⟨v2, rfl, o2, bel2⟩
                obtain ⟨g2, cap2, rfl, _⟩ := id o2
                have B2 := hideP ((Below.refl WA.heap.size WA).drew.trans (bel2.mono (Nat.le_refl _)))
                have V2 := hideP (box_keep HV.out B2.out)
                have O2 := hideP o2
                have c2 := (cells_of V2.out).1 0
                simp at c2
                clear bel2 o2
                refine hK _ _ ?_
                clear hK K
                refine wpAnyIn_ready (rs := [3]) (by kernel_rfl) (by simp) ?_
                refine AllReadyIn.cons rfl (fun K hK => ?_) ?_
                · refine step_appI_in _ rfl _ _ rfl m _ LL J g2 0 J.length cap2 rfl rfl rfl (HO.out.stays B2.out) O2.out.at (by have := hLn.out; have := hJn.out; omega) (by have := B2.out.size; omega) ?_
                  intro v4 w4 o4 gr4 loc4
                  obtain ⟨n4, g4, cap4, rfl⟩ := own_shape o4
                  have M4 := hideP (mx_step HI.out HV.out B2.out hWs o4 gr4 loc4)
                  have d4 := M4.out.2.2.1
                  have f4 := M4.out.2.2.2.1
                  clear o4 gr4 loc4
                  refine hK _ _ ?_
                  simp only [Act.put, List.setIfInBounds_toArray]
                  clear hK K
                  refine wpAnyIn_ready (rs := [4]) (by kernel_rfl) (by simp) ?_
                  refine AllReadyIn.cons rfl (fun K hK => ?_) ?_
                  · go_simp
                    refine hK _ _ ?_
                    clear hK K
                    refine wpAnyIn_done (by kernel_rfl) ?_ _
                    gi_wp2
                    go_roundw
                    case rel => exact ⟨j + 1, by omega, by go_num, by show MxAt _ _ _ _ _; rw [TK.out]; exact M4.out.1, (M4.out.2.1.same (m + 2) (Nat.le_refl _) (by omega)).trans DA.out⟩
                    case measure => simp [intOf]; omega
                  exact AllReadyIn.nil
                exact AllReadyIn.nil
              exact AllReadyIn.nil
            exact AllReadyIn.nil
          refine AllReadyIn.cons rfl (fun K hK => ?_) ?_
          · go_simp
            refine hK _ _ ?_
            clear hK K
            refine wpAnyIn_ready (rs := [0, 2]) (by kernel_rfl) (by simp) ?_
            refine AllReadyIn.cons rfl (fun K hK => ?_) ?_
            · go_simp
              refine hK _ _ ?_
              clear hK K
              refine wpAnyIn_ready (rs := [2]) (by kernel_rfl) (by simp) ?_
              refine AllReadyIn.cons rfl (fun K hK => ?_) ?_
              · go_simp
                refine ⟨trivial, ?_⟩
                refine (callsIn_wide.2 (JU.out _ BA.out.drew)).mono ?_
                rintro e1 w2 ⟨v2, rfl, o2, bel2⟩
                obtain ⟨g2, cap2, rfl, _⟩ := id o2
                have B2 := hideP ((Below.refl WA.heap.size WA).drew.trans (bel2.mono (Nat.le_refl _)))
                have V2 := hideP (box_keep HV.out B2.out)
                have O2 := hideP o2
                have c2 := (cells_of V2.out).1 0
                simp at c2
                clear bel2 o2
                refine hK _ _ ?_
                clear hK K
                refine wpAnyIn_ready (rs := [3]) (by kernel_rfl) (by simp) ?_
                refine AllReadyIn.cons rfl (fun K hK => ?_) ?_
                · refine step_appI_in _ rfl _ _ rfl m _ LL J g2 0 J.length cap2 rfl rfl rfl (HO.out.stays B2.out) O2.out.at (by have := hLn.out; have := hJn.out; omega) (by have := B2.out.size; omega) ?_
                  intro v4 w4 o4 gr4 loc4
                  obtain ⟨n4, g4, cap4, rfl⟩ := own_shape o4
                  have M4 := hideP (mx_step HI.out HV.out B2.out hWs o4 gr4 loc4)
                  have d4 := M4.out.2.2.1
                  have f4 := M4.out.2.2.2.1
                  clear o4 gr4 loc4
                  refine hK _ _ ?_
                  simp only [Act.put, List.setIfInBounds_toArray]
                  clear hK K
                  refine wpAnyIn_ready (rs := [4]) (by kernel_rfl) (by simp) ?_
                  refine AllReadyIn.cons rfl (fun K hK => ?_) ?_
                  · go_simp
                    refine hK _ _ ?_
                    clear hK K
                    refine wpAnyIn_done (by kernel_rfl) ?_ _
                    gi_wp2
                    go_roundw
                    case rel => exact ⟨j + 1, by omega, by go_num, by show MxAt _ _ _ _ _; rw [TK.out]; exact M4.out.1, (M4.out.2.1.same (m + 2) (Nat.le_refl _) (by omega)).trans DA.out⟩
                    case measure => simp [intOf]; omega
                  exact AllReadyIn.nil
                exact AllReadyIn.nil
              exact AllReadyIn.nil
            refine AllReadyIn.cons rfl (fun K hK => ?_) ?_
            · go_simp
              refine ⟨trivial, ?_⟩
              refine (callsIn_wide.2 (JU.out _ BA.out.drew)).mono ?_
              rintro e1 w2 ⟨v2, rfl, o2, bel2⟩
              obtain ⟨g2, cap2, rfl, _⟩ := id o2
              have B2 := hideP ((Below.refl WA.heap.size WA).drew.trans (bel2.mono (Nat.le_refl _)))
              have V2 := hideP (box_keep HV.out B2.out)
              have O2 := hideP o2
              have c2 := (cells_of V2.out).1 0
              simp at c2
              clear bel2 o2
              refine hK _ _ ?_
              clear hK K
              refine wpAnyIn_ready (rs := [0]) (by kernel_rfl) (by simp) ?_
              refine AllReadyIn.cons rfl (fun K hK => ?_) ?_
              · go_simp
                refine hK _ _ ?_
                clear hK K
                refine wpAnyIn_ready (rs := [3]) (by kernel_rfl) (by simp) ?_
                refine AllReadyIn.cons rfl (fun K hK => ?_) ?_
                · refine step_appI_in _ rfl _ _ rfl m _ LL J g2 0 J.length cap2 rfl rfl rfl (HO.out.stays B2.out) O2.out.at (by have := hLn.out; have := hJn.out; omega) (by have := B2.out.size; omega) ?_
                  intro v4 w4 o4 gr4 loc4
                  obtain ⟨n4, g4, cap4, rfl⟩ := own_shape o4
                  have M4 := hideP (mx_step HI.out HV.out B2.out hWs o4 gr4 loc4)
                  have d4 := M4.out.2.2.1
                  have f4 := M4.out.2.2.2.1
                  clear o4 gr4 loc4
                  refine hK _ _ ?_
                  simp only [Act.put, List.setIfInBounds_toArray]
                  clear hK K
                  refine wpAnyIn_ready (rs := [4]) (by kernel_rfl) (by simp) ?_
                  refine AllReadyIn.cons rfl (fun K hK => ?_) ?_
                  · go_simp
                    refine hK _ _ ?_
                    clear hK K
                    refine wpAnyIn_done (by kernel_rfl) ?_ _
                    gi_wp2
                    go_roundw
                    case rel => exact ⟨j + 1, by omega, by go_num, by show MxAt _ _ _ _ _; rw [TK.out]; exact M4.out.1, (M4.out.2.1.same (m + 2) (Nat.le_refl _) (by omega)).trans DA.out⟩
                    case measure => simp [intOf]; omega
                  exact AllReadyIn.nil
                exact AllReadyIn.nil
              exact AllReadyIn.nil
            exact AllReadyIn.nil
          exact AllReadyIn.nil
      -- region 11 ends
        · obtain rfl : j = blocks.length := by omega
          rw [List.take_length] at him
          obtain ⟨v, hv, ho, _⟩ := him.out.box
          have HV := hideP hv
          obtain ⟨XS, hXS⟩ : ∃ XS, C ++ blocks.flatMap metJ = XS := ⟨_, rfl⟩
          rw [hXS] at E ho
          obtain ⟨g9, cap9, rfl, _⟩ := id ho
          have MX := hideP (slicesMax_any (-1) XS wr g9 0 cap9 ho.is.2.sees)
          obtain ⟨n9, hn9⟩ : ∃ n9, ((-1 : Int) :: XS).length = n9 := ⟨_, rfl⟩
          rw [hn9] at MX hv
          have c0 := (cells_of hv).1 0
          simp at c0
          have HM := hideP him.out.bel
          have hdl := (Array.getElem?_eq_some_iff.1 hdm.out).1
          have hmw := him.out.pos
          clear hv ho hXS hn9 HV
          gi_wp2_with (refine ⟨trivial, ?_⟩; gi_at_call 36; refine (callsIn_wide.2 MX.out).mono ?_; rintro e1 w9 ⟨rfl, hw9⟩; have hw8 := hw9.symm; subst hw8; clear hw9)
          refine ⟨by simp, .inl ⟨_, _, rfl, run_takeDeferred hdm.out, ?_⟩⟩
          refine ⟨.int .i64 (topFrom (-1) XS), by simp [results, Try.results12, go_sem], by rw [E.out], HM.out.trans (put_below _ (by omega) HM.out.size)⟩
end Go.Proofs.Ytdkdimklacblaak
