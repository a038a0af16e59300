/- The contract of impl.GraphOk. -/
import Derived.Test.YtobpcfelgobedabRangeB
import Derived.Test.YtobpcfelgobedabJumpOkI
namespace Go.Proofs.Ytobpcfelgobedab
open Go.ChangeShapes Go.WideShapes Go.ChangeAt Go.RowKit Go.Shelf
attribute [local go_sem] Oper.semAt_some
theorem three_at (w : World) (o1 o2 o3 : Obj) : (((w.alloc o1).alloc o2).alloc o3).heap[w.heap.size]? = some o1 ∧ (((w.alloc o1).alloc o2).alloc o3).heap[w.heap.size + 1]? = some o2 ∧ (((w.alloc o1).alloc o2).alloc o3).heap[w.heap.size + 1 + 1]? = some o3 := by
  have h := three (w := w) (o1 := o1) (o2 := o2) (o3 := o3) (Below.refl _ _)
  exact ⟨h.1, h.2.1, h.2.2.1⟩
/-- Between two rounds: the boxes, and that all steps so far are right. -/
structure GoOn (w : World) (g : Gr) (G : Array Value) (pre : List Ins) (W : World) : Prop where
  g0 : W.heap[w.heap.size]? = some (.cells G 29 (0, 0))
  r0 : W.heap[w.heap.size + 1]? = some (.cells #[.bool false] 4 (0, 0))
  c0 : W.heap[w.heap.size + 1 + 1]? = some (.cells #[.int .i64 (pre.length : Nat)] 3 (0, 0))
  few : pre.length ≤ 1000
  all : pre.all (insOk (g.sizes.length : Nat) g.slots) = true
  bel : Below w.heap.size w W
/-- A round has returned: a step is wrong, or they are too many. -/
structure GoneOut (w : World) (g : Gr) (pre : List Ins) (W : World) : Prop where
  r0 : W.heap[w.heap.size + 1]? = some (.cells #[.bool false] 4 (0, 0))
  bad : 1000 < pre.length ∨ pre.all (insOk (g.sizes.length : Nat) g.slots) = false
  bel : Below w.heap.size w W
theorem GoOn.alloc {w : World} {g : Gr} {G : Array Value} {pre : List Ins} {W : World} (h : GoOn w g G pre W) (o : Obj) : GoOn w g G pre (W.alloc o) :=
  have al := (Below.refl W.heap.size W).alloc (Nat.le_refl _) o
  ⟨box_keep h.g0 al, box_keep h.r0 al, box_keep h.c0 al, h.few, h.all, h.bel.alloc h.bel.size _⟩
theorem GoOn.put {w : World} {g : Gr} {G : Array Value} {pre : List Ins} {W : World} (h : GoOn w g G pre W) (l : Nat) (hl : w.heap.size + 2 < l) (o : Obj) : GoOn w g G pre (W.putObj l o) :=
  ⟨(World.putObj_heap_other (by omega)).trans h.g0, (World.putObj_heap_other (by omega)).trans h.r0, (World.putObj_heap_other (by omega)).trans h.c0, h.few, h.all, h.bel.trans (put_below _ (by omega) h.bel.size)⟩
theorem GoneOut.put {w : World} {g : Gr} {pre : List Ins} {W : World} (h : GoneOut w g pre W) (l : Nat) (hl : w.heap.size + 2 < l) (o : Obj) : GoneOut w g pre (W.putObj l o) :=
  ⟨(World.putObj_heap_other (by omega)).trans h.r0, h.bad, h.bel.trans (put_below _ (by omega) h.bel.size)⟩
theorem bad_not {g : Gr} {pre : List Ins} (hp : pre <+: codeAll g.blocks) (h : 1000 < pre.length ∨ pre.all (insOk (g.sizes.length : Nat) g.slots) = false) : grOk g = false := by
  rcases h with h | h
  · have := hp.length_le
    have e : decide ((codeAll g.blocks).length ≤ 1000) = false := by simp; omega
    unfold grOk; rw [e]; simp
  · have e : (codeAll g.blocks).all (insOk (g.sizes.length : Nat) g.slots) = false := by
      rw [List.all_eq_false] at h ⊢
      obtain ⟨x, hx, hn⟩ := h
      exact ⟨x, hp.subset hx, hn⟩
    unfold grOk; rw [e]; simp
/-- Two boxes of one's own are written: the count, and the result. -/
theorem set2_kept (W : World) (m : Nat) (u v : Value) : Kept (m + 3) m W ((W.setCell ⟨m + 1 + 1, 0, none⟩ u).setCell ⟨m + 1, 0, none⟩ v) :=
  ⟨by simp, fun k hk _ => (Below.heap_setCell _ ⟨m + 1, 0, none⟩ _ _ (by show _ ≠ m + 1; omega)).trans (Below.heap_setCell _ ⟨m + 1 + 1, 0, none⟩ _ _ (by show _ ≠ m + 1 + 1; omega)),
   ((Below.refl m W).setCell (p := ⟨m + 1 + 1, 0, none⟩) (by show m ≤ m + 1 + 1; omega) _).setCell (p := ⟨m + 1, 0, none⟩) (by show m ≤ m + 1; omega) _⟩
/-- The count is written, then a call adds to memory. -/
theorem set1_after (W w1 : World) (m : Nat) {u rv cv : Value} {T1 T2 T3 : TypeId} {G : Array Value} (hr : W.heap[m + 1]? = some (.cells #[rv] T1 (0, 0))) (hc : W.heap[m + 1 + 1]? = some (.cells #[cv] T2 (0, 0))) (hg : W.heap[m]? = some (.cells G T3 (0, 0)))
    (bel : Below (W.setCell ⟨m + 1 + 1, 0, none⟩ u).heap.size (W.setCell ⟨m + 1 + 1, 0, none⟩ u) w1) :
    w1.heap[m + 1]? = some (.cells #[rv] T1 (0, 0)) ∧ w1.heap[m + 1 + 1]? = some (.cells #[u] T2 (0, 0)) ∧ w1.heap[m]? = some (.cells G T3 (0, 0)) ∧ Kept (m + 3) m W w1 := by
  have h1 := (Below.heap_setCell W ⟨m + 1 + 1, 0, none⟩ u (m + 1) (by show _ ≠ m + 1 + 1; omega)).trans hr
  have h2 := heap_setCell_same W (m + 1 + 1) 0 #[cv] T2 u hc
  have h3 := (Below.heap_setCell W ⟨m + 1 + 1, 0, none⟩ u m (by show _ ≠ m + 1 + 1; omega)).trans hg
  have hz : (W.setCell ⟨m + 1 + 1, 0, none⟩ u).heap.size = W.heap.size := size_set _ _ _
  have hmW := (Array.getElem?_eq_some_iff.1 hg).1
  refine ⟨box_keep h1 bel, by simpa using box_keep h2 bel, box_keep h3 bel, ⟨by have := bel.size; omega, fun k hk hkW => (bel.block k (by omega)).trans (Below.heap_setCell W ⟨m + 1 + 1, 0, none⟩ u k (by show _ ≠ m + 1 + 1; omega)), ?_⟩⟩
  exact ((Below.refl m W).setCell (p := ⟨m + 1 + 1, 0, none⟩) (by show m ≤ m + 1 + 1; omega) u).trans (bel.mono (by omega))
/-- The result is written and the marks are taken: what is left. -/
theorem leaveB {w X : World} {D : Nat} {T : TypeId} {u : Value} {v : Bool} (hr : X.heap[w.heap.size + 1]? = some (.cells #[u] T (0, 0))) (hk : X.heap[D]? = some (.deferred (some []))) (hD : w.heap.size + 1 < D) (hb : Below w.heap.size w X) :
    (X.setCell ⟨w.heap.size + 1, 0, none⟩ (.bool v)).heap[D]? = some (.deferred (some [])) ∧ ((X.setCell ⟨w.heap.size + 1, 0, none⟩ (.bool v)).putObj D (.deferred none)).cell? ⟨w.heap.size + 1, 0, none⟩ = some (.bool v) ∧ Below w.heap.size w ((X.setCell ⟨w.heap.size + 1, 0, none⟩ (.bool v)).putObj D (.deferred none)) := by
  have h1 := heap_setCell_same X (w.heap.size + 1) 0 #[u] T (.bool v) hr
  have h2 : ((X.setCell ⟨w.heap.size + 1, 0, none⟩ (.bool v)).putObj D (.deferred none)).heap[w.heap.size + 1]? = _ := (World.putObj_heap_other (by omega)).trans h1
  have h3 := (cells_of h2).1 0
  simp at h3
  have hb1 := hb.setCell (p := ⟨w.heap.size + 1, 0, none⟩) (by show w.heap.size ≤ w.heap.size + 1; omega) (.bool v)
  exact ⟨(Below.heap_setCell X ⟨w.heap.size + 1, 0, none⟩ _ D (by show D ≠ w.heap.size + 1; omega)).trans hk, h3, hb1.trans (put_below _ (by omega) hb1.size)⟩
set_option maxRecDepth 100000 in
set_option maxHeartbeats 16000000 in
theorem impl_graphOk (g : Gr) (w : World) (B : Nat) (v : Array Value) (h : GrIs w B v g) :
    Calls Try.prog 19 #[.agg v] w fun en w' => en = .returned (.bool (grOk g)) ∧ Below w.heap.size w w' := by
  have hG := hideP h
  obtain ⟨sizes, params, vars, slots, blocks⟩ := g
  obtain ⟨us, cs, ub, cb, rfl, ok, hz, hb⟩ := h
  simp only at *
  have hm := maxLen_lt
  have hl := hb.1
  have HZ := hideP hz
  have HB := hideP hb
  obtain ⟨r, hr⟩ : ∃ r, frOk sizes params vars = r := ⟨_, rfl⟩
  have FO : Hid (∀ W, Below w.heap.size w W → Calls Try.prog 36 #[.slice us sizes.length cs, .int .i64 params, .int .i64 vars] W fun e w' => e = .returned (.bool r) ∧ w' = W) := fun W hW => by rw [← hr]; exact frameOk_any sizes params vars W B us cs (HZ.out.stays hW)
  have HR := hideP hr
  clear hz hb ok hr
  refine (callsIn_wide (n := 4)).1 ?_
  refine callsIn_of_wp_marks Try.func19 rfl trivial ?_ rfl
  simp only [Try.ntmps19, List.size_toArray, List.length_cons, List.length_nil, Nat.reduceAdd, Nat.reduceSub, Array.replicate_succ, Array.replicate_zero, List.push_toArray, List.append_toArray, List.nil_append, List.cons_append]
  by_cases hbad : r = false ∨ ¬ (vars ≤ slots ∧ slots ≤ 1000) ∨ ¬ (1 ≤ blocks.length ∧ blocks.length ≤ 300)
  · have E : Hid (grOk ⟨sizes, params, vars, slots, blocks⟩ = false) := by
      show _ = _
      unfold grOk
      rcases hbad with hb | hb | hb
      · simp only; rw [HR.out, hb]; simp
      · simp only; rw [decide_eq_false hb]; simp
      · simp only; rw [decide_eq_false hb]; simp
    cases r
    · gi_wp2_with (refine ⟨trivial, ?_⟩; gi_at_call 36; refine (callsIn_wide.2 (FO.out _ (below2 w _ _))).mono ?_; rintro e1 w1 ⟨rfl, rfl⟩)
      refine ⟨.bool false, by simp [results, Try.results19, go_sem], ret_bool E.out.symm, below2 w _ _⟩
    · have hbad2 : ¬ (vars ≤ slots ∧ slots ≤ 1000 ∧ 1 ≤ blocks.length ∧ blocks.length ≤ 300) := by rcases hbad with h | h | h; exact absurd h (by decide); exact fun ⟨a, b, _⟩ => h ⟨a, b⟩; exact fun ⟨_, _, a, b⟩ => h ⟨a, b⟩
      clear hbad
      gi_wp2_with (refine ⟨trivial, ?_⟩; gi_at_call 36; refine (callsIn_wide.2 (FO.out _ (below2 w _ _))).mono ?_; rintro e1 w1 ⟨rfl, rfl⟩)
      all_goals first | (exact absurd ⟨by omega, by omega, by omega, by omega⟩ hbad2) | skip
      all_goals refine ⟨.bool false, by simp [results, Try.results19, go_sem], ret_bool E.out.symm, below2 w _ _⟩
  · obtain ⟨hr1, hs1, hs2, hb1, hb2⟩ : r = true ∧ vars ≤ slots ∧ slots ≤ 1000 ∧ 1 ≤ blocks.length ∧ blocks.length ≤ 300 := by
      cases r
      · exact absurd (Or.inl rfl) hbad
      · refine ⟨rfl, ?_⟩
        by_cases h1 : vars ≤ slots ∧ slots ≤ 1000
        · by_cases h2 : 1 ≤ blocks.length ∧ blocks.length ≤ 300
          · exact ⟨h1.1, h1.2, h2.1, h2.2⟩
          · exact absurd (Or.inr (Or.inr h2)) hbad
        · exact absurd (Or.inr (Or.inl h1)) hbad
    subst hr1
    clear hbad
    have n1 : ¬ slots < vars := by omega
    have n2 : ¬ (1000 : Int) < slots := by omega
    have n3 : ¬ (blocks.length : Int) < 1 := by omega
    have n4 : ¬ (300 : Int) < (blocks.length : Int) := by omega
    gi_wp2_with (refine ⟨trivial, ?_⟩; gi_at_call 36; refine (callsIn_wide.2 (FO.out _ (below2 w _ _))).mono ?_; rintro e1 w1 ⟨rfl, rfl⟩)
    obtain ⟨k0, k1, k2⟩ := three_at w (.cells #[.slice us sizes.length cs, .int .i64 params, .int .i64 vars, .int .i64 slots, .slice ub blocks.length cb] 29) (.cells #[.bool false] 4) (.cells #[.int .i64 0] 3)
    have bel3 := below3 w (.cells #[.slice us sizes.length cs, .int .i64 params, .int .i64 vars, .int .i64 slots, .slice ub blocks.length cb] 29) (.cells #[.bool false] 4) (.cells #[.int .i64 0] 3)
    have hz3 : (((w.alloc (.cells #[.slice us sizes.length cs, .int .i64 params, .int .i64 vars, .int .i64 slots, .slice ub blocks.length cb] 29)).alloc (.cells #[.bool false] 4)).alloc (.cells #[.int .i64 0] 3)).heap.size = w.heap.size + 3 := by simp
    refine range_steps rfl (by decide) (by decide) trivial w B blocks ub cb HB.out bel3 rfl
      (GoOn w (⟨sizes, params, vars, slots, blocks⟩ : Gr) #[.slice us sizes.length cs, .int .i64 params, .int .i64 vars, .int .i64 slots, .slice ub blocks.length cb]) (GoneOut w (⟨sizes, params, vars, slots, blocks⟩ : Gr)) (fun pre W o h => h.alloc o) (fun pre W o h => h.put _ (by rw [hz3]; omega) o) (fun pre W o h => h.put _ (by rw [hz3]; omega) o)
      ⟨k0, k1, k2, by simp, by simp, bel3⟩ 4 ?assign ?body ?done ?stop
    case assign =>
      intro l x W K hK
      simp only [insCells]
      gi_wp2
      simpa [axOf, insCells] using hK
    case body =>
      rintro l pre x bx W hbx hwf hsz hi hx hbel
      have g0 := (cells_of hi.g0).1
      have p0 := g0 0
      have p1 := g0 1
      have p2 := g0 2
      have p3 := g0 3
      have p4 := g0 4
      have c0 := (cells_of hi.c0).1 0
      have f0 := (cells_of hi.c0).2 0
      have s0 := (cells_of hi.r0).1 0
      have t0 := (cells_of hi.r0).2 0
      have xx := (cells_of hx).1
      simp only [insCells] at xx
      have x0 := xx 0
      have x1 := xx 1
      have x2 := xx 2
      have x3 := xx 3
      have x4 := xx 4
      have x5 := xx 5
      have x6 := xx 6
      simp at p0 p1 p2 p3 p4 c0 s0 x0 x1 x2 x3 x4 x5 x6
      rw [hz3] at hbx
      have few := hi.few
      have IO : Hid (∀ W', Below w.heap.size w W' → Calls Try.prog 38 #[.agg #[.slice us sizes.length cs, .int .i64 params, .int .i64 vars, .int .i64 slots, .slice ub blocks.length cb], .agg #[.int .i64 x.op, .int .i64 x.d, .int .i64 x.a, .int .i64 x.b, .int .i64 x.c, .int .i64 x.n, .string x.t]] W' fun en w' => en = .returned (.bool (insOk (sizes.length : Nat) slots x)) ∧ Below W'.heap.size W' w') := fun W' hW' => impl_instrOk (⟨sizes, params, vars, slots, blocks⟩ : Gr) x W' B 0 _ _ (GrKeeps.stays hG.out hW') ⟨rfl, hwf, hsz⟩
      have HI := hideP hi
      have setB : Hid (∀ u, Below w.heap.size w (W.setCell ⟨w.heap.size + 1 + 1, 0, none⟩ u)) := fun u => hi.bel.setCell (p := ⟨w.heap.size + 1 + 1, 0, none⟩) (by show w.heap.size ≤ w.heap.size + 1 + 1; omega) u
      have hne1 : ¬ w.heap.size + 1 + 1 = w.heap.size := by omega
      have hne2 : ¬ bx = w.heap.size + 1 + 1 := by omega
      clear g0 xx hi hx hbel hwf hsz k0 k1 k2 bel3
      simp only [axOf, insCells]
      have hD := hz3
      by_cases hc : pre.length = 1000
      · have hc1 : ((pre.length : Nat) : Int) = 1000 := by omega
        rw [hc1] at c0
        have hne3 : ¬ w.heap.size + 1 = w.heap.size + 1 + 1 := by omega
        gi_wp2
        refine ⟨trivial, ?_⟩
        gi_wp2
        rw [hD]
        have kp1 := set2_kept W w.heap.size (.int .i64 1001) (.bool false)
        refine ⟨kp1, ⟨?_, Or.inl (by simp; omega), HI.out.bel.trans kp1.bel⟩⟩
        exact heap_setCell_same _ _ _ _ _ _ ((Below.heap_setCell _ ⟨w.heap.size + 1 + 1, 0, none⟩ _ _ (by show _ ≠ w.heap.size + 1 + 1; omega)).trans HI.out.r0)
      · have hc2 : ¬ (1000 : Int) < (pre.length : Nat) + 1 := by omega
        obtain ⟨r, hr⟩ : ∃ r, insOk (sizes.length : Nat) slots x = r := ⟨_, rfl⟩
        rw [hr] at IO
        have HR2 := hideP hr
        clear hr
        gi_wp2_with (refine ⟨trivial, ?_⟩; gi_at_call 38; refine (CallsIn.inRound l (callsIn_wide.2 (IO.out _ (setB.out _)))).mono ?_; rintro e1 w1 ⟨rfl, bel1⟩; obtain ⟨y1, y2, y3, y4⟩ := set1_after W w1 w.heap.size HI.out.r0 HI.out.c0 HI.out.g0 bel1; have Y1 := hideP y1; have Y2 := hideP y2; have Y3 := hideP y3; have Y4 := hideP y4; have sr := (cells_of y1).1 0; have tr := (cells_of y1).2 0; simp at sr; clear y1 y2 y3 y4 bel1; cases r)
        all_goals first | (exfalso; omega) | skip
        · rw [hD]
          have kp1 := Y4.out
          refine ⟨⟨by simpa using kp1.size, fun k hk hkW => (Below.heap_setCell _ ⟨w.heap.size + 1, 0, none⟩ _ _ (by show _ ≠ w.heap.size + 1; omega)).trans (kp1.same k hk hkW), kp1.bel.setCell (p := ⟨w.heap.size + 1, 0, none⟩) (by show w.heap.size ≤ w.heap.size + 1; omega) _⟩, ⟨?_, Or.inr (by simp [HR2.out]), (HI.out.bel.trans kp1.bel).setCell (p := ⟨w.heap.size + 1, 0, none⟩) (by show w.heap.size ≤ w.heap.size + 1; omega) _⟩⟩
          exact heap_setCell_same _ _ _ _ _ _ Y1.out
        · rw [hD]
          refine ⟨Y4.out, ⟨Y3.out, Y1.out, by simpa using Y2.out, by simp; omega, by rw [List.all_append, HI.out.all]; simp [HR2.out], HI.out.bel.trans Y4.out.bel⟩⟩
    case done =>
      rintro D W hD hi hbel hK
      rw [hz3] at hD
      have E : Hid (grOk (⟨sizes, params, vars, slots, blocks⟩ : Gr) = blocks.all (jmpOk slots blocks.length)) := by
        show _ = _
        have e1 : frOk sizes params vars = true := HR.out
        have e2 := hi.few
        have e3 := hi.all
        unfold grOk
        simp only at e3 ⊢
        rw [e1, e3]
        simp [hs1, hs2, hb1, hb2, e2]
      have HI := hideP hi
      have HK := hideP hK
      have g0 := (cells_of hi.g0).1
      have p4 := g0 4
      simp at p4
      have hlW := (Array.getElem?_eq_some_iff.1 hi.c0).1
      clear hbel k0 k1 k2 bel3 n1 n2 n3 n4 FO hz3 g0 hK hi
      gi_wp2
      clear p4
      gi_loopw [54] (fun i wr => ∃ j : Nat, j ≤ blocks.length ∧ i = .int .i64 j ∧ Hid (Below W.heap.size W wr) ∧ Hid ((blocks.take j).all (jmpOk slots blocks.length) = true)) (fun i _ => blocks.length - (intOf i).toNat)
      case atStart => exact ⟨0, Nat.zero_le _, rfl, Below.refl _ _, show _ = _ by simp⟩
      case round =>
        obtain ⟨j, hj, rfl, hbr, hok⟩ := hrel
        have bw := HI.out.bel.trans (hbr.out.mono HI.out.bel.size)
        have r0 := box_keep HI.out.r0 hbr.out
        have sr := (cells_of r0).1 0
        have tr := (cells_of r0).2 0
        have k0 := box_keep HK.out hbr.out
        simp at sr
        by_cases hlt : j < blocks.length
        · obtain ⟨b, o, x0, x1, x2, x3, x4, ux, kx, rfl, _, hbb, hx, q0, q1, q2, q3, q4, hbX⟩ := Blk_get HB.out j hlt
          have tk := all_take (jmpOk slots blocks.length) blocks j hlt
          have no := all_no (jmpOk slots blocks.length) blocks j hlt
          rw [hx] at tk no
          rw [hok.out, Bool.true_and] at tk
          replace q0 := (bw.cell (p := ⟨b, _, none⟩) hbb).trans q0
          replace q1 := (bw.cell (p := ⟨b, _, none⟩) hbb).trans q1
          replace q2 := (bw.cell (p := ⟨b, _, none⟩) hbb).trans q2
          replace q3 := (bw.cell (p := ⟨b, _, none⟩) hbb).trans q3
          replace q4 := (bw.cell (p := ⟨b, _, none⟩) hbb).trans q4
          have gg := (cells_of (box_keep HI.out.g0 hbr.out)).1
          have p0 := gg 0
          have p1 := gg 1
          have p2 := gg 2
          have p3 := gg 3
          have p4 := gg 4
          simp at p0 p1 p2 p3 p4
          obtain ⟨r, hr⟩ : ∃ r, jmpOk slots blocks.length ⟨x0, x1, x2, x3, x4⟩ = r := ⟨_, rfl⟩
          rw [hr] at tk no
          have JO : Hid (∀ W', Below w.heap.size w W' → Calls Try.prog 39 #[.agg #[.slice us sizes.length cs, .int .i64 params, .int .i64 vars, .int .i64 slots, .slice (some ⟨b, o, none⟩) blocks.length cb], .agg #[.slice ux x0.length kx, .int .i64 x1, .int .i64 x2, .int .i64 x3, .int .i64 x4]] W' fun en w' => en = .returned (.bool r) ∧ Below W'.heap.size W' w') := fun W' hW' => by
            rw [← hr]; exact jumpOk_any (⟨sizes, params, vars, slots, blocks⟩ : Gr) ⟨x0, x1, x2, x3, x4⟩ W' B B _ _ (GrKeeps.stays hG.out hW') (BlkKeeps.stays hbX hW')
          have hw0 : w.heap.size < wr.heap.size := by have := hbr.out.size; omega
          have BWr := hideP (bw.alloc bw.size (.cells #[.slice ux x0.length kx, .int .i64 x1, .int .i64 x2, .int .i64 x3, .int .i64 x4] 40))
          have BWW := hideP bw
          have TK := hideP tk
          have NO := hideP no
          have R0 := hideP r0
          have K0 := hideP k0
          clear hr tk no gg hbX hx r0 k0 bw
          gi_wp2_with (refine ⟨trivial, ?_⟩; gi_at_call 39; refine (callsIn_wide.2 (JO.out _ BWr.out)).mono ?_; rintro e1 w1 ⟨rfl, bel1⟩; have b1 := below_new bel1; have z0 := box_keep R0.out b1; have Z0 := hideP z0; have zr := (cells_of z0).1 0; have zt := (cells_of z0).2 0; simp at zr; have B1 := hideP b1; clear bel1 z0 b1; cases r)
          · obtain ⟨hk2, hc2, hb2'⟩ := leaveB (v := false) Z0.out (box_keep K0.out B1.out) (by omega) (BWW.out.trans (B1.out.mono BWW.out.size))
            refine ⟨by simp, .inl ⟨_, _, rfl, run_takeDeferred hk2, ?_⟩⟩
            refine ⟨.bool false, by simp [results, Try.results19, go_sem, hc2], ret_bool (by rw [E.out]; exact (NO.out (by first | rfl | trivial)).symm), hb2'⟩
          · go_roundw
            case rel => exact ⟨j + 1, by omega, by go_num, hbr.out.trans (B1.out.mono hbr.out.size), TK.out⟩
            case measure => simp [intOf]; omega
        · obtain rfl : j = blocks.length := by omega
          have h1 := hok.out
          rw [List.take_length] at h1
          have E2 := hideP (E.out.trans h1)
          have R0 := hideP r0
          have K0 := hideP k0
          have BWW := hideP bw
          clear h1 hok r0 k0 bw
          gi_wp2
          obtain ⟨hk2, hc2, hb2'⟩ := leaveB (v := true) R0.out K0.out (by omega) BWW.out
          refine ⟨by simp, .inl ⟨_, _, rfl, run_takeDeferred hk2, ?_⟩⟩
          refine ⟨.bool true, by simp [results, Try.results19, go_sem, hc2], ret_bool E2.out.symm, hb2'⟩
    case stop =>
      rintro D pre W hD hpre hx hK
      gi_wp2
      refine ⟨by simp, .inl ⟨_, _, rfl, run_takeDeferred hK, ?_⟩⟩
      rw [hz3] at hD
      have hr2 : (W.putObj D (.deferred none)).heap[w.heap.size + 1]? = some (.cells #[.bool false] 4 (0, 0)) := (World.putObj_heap_other (by omega)).trans hx.r0
      have hc2 := (cells_of hr2).1 0
      simp at hc2
      refine ⟨.bool false, by simp [results, Try.results19, go_sem, hc2], ret_bool (bad_not hpre hx.bad).symm, hx.bel.trans (put_below _ (by omega) hx.bel.size)⟩
end Go.Proofs.Ytobpcfelgobedab
