/- The contract of impl.countOf. -/
import Derived.Test.YtljeahjcfbcbgaaRangeC
import Derived.Test.YtljeahjcfbcbgaaGrOkI
import Derived.Test.YtljeahjcfbcbgaaCntP
import Derived.Stop.RegionWithIn
namespace Go.Proofs.Ytljeahjcfbcbgaa
open Go.ChangeShapes Go.WideShapes Go.ChangeAt Go.RowKit Go.Shelf
attribute [local go_sem] Oper.semAt_some
/-- The Op that is asked for, and how many of it there were. -/
structure CtAt (w : World) (op : Int) (k : Nat) (W : World) : Prop where
  o0 : W.heap[w.heap.size + 1]? = some (.cells #[.int .i64 op] 3 (0, 0))
  c0 : W.heap[w.heap.size + 2]? = some (.cells #[.int .i64 (k : Int)] 3 (0, 0))
  bel : Below w.heap.size w W
theorem CtAt.alloc {w : World} {op : Int} {k : Nat} {W : World} (h : CtAt w op k W) (o : Obj) : CtAt w op k (W.alloc o) :=
  have al := (Below.refl W.heap.size W).alloc (Nat.le_refl _) o
  ⟨box_keep h.o0 al, box_keep h.c0 al, h.bel.alloc h.bel.size _⟩
theorem CtAt.put {w : World} {op : Int} {k : Nat} {W : World} (h : CtAt w op k W) (l : Nat) (hl : w.heap.size + 2 < l) (o : Obj) : CtAt w op k (W.putObj l o) :=
  ⟨(World.putObj_heap_other (by omega)).trans h.o0, (World.putObj_heap_other (by omega)).trans h.c0, h.bel.trans (put_below _ (by omega) h.bel.size)⟩
theorem CtAt.set {w : World} {op : Int} {k : Nat} {W : World} (h : CtAt w op k W) (k' : Nat) : CtAt w op k' (W.setCell ⟨w.heap.size + 1 + 1, 0, none⟩ (.int .i64 (k' : Int))) :=
  ⟨(Below.heap_setCell W ⟨w.heap.size + 1 + 1, 0, none⟩ _ _ (by show _ ≠ w.heap.size + 1 + 1; omega)).trans h.o0, by simpa using heap_setCell_same W (w.heap.size + 1 + 1) 0 _ _ (.int .i64 (k' : Int)) h.c0, h.bel.setCell (p := ⟨w.heap.size + 1 + 1, 0, none⟩) (by show w.heap.size ≤ w.heap.size + 1 + 1; omega) _⟩
theorem cset_kept (W : World) (m : Nat) (u : Value) : KeptC (m + 3) m W (W.setCell ⟨m + 1 + 1, 0, none⟩ u) :=
  ⟨by simp, fun k hk _ => Below.heap_setCell _ ⟨m + 1 + 1, 0, none⟩ _ _ (by show _ ≠ m + 1 + 1; omega), (Below.refl m W).setCell (p := ⟨m + 1 + 1, 0, none⟩) (by show m ≤ m + 1 + 1; omega) _⟩
theorem kept_reflC (W : World) (D m : Nat) : KeptC D m W W := ⟨Nat.le_refl _, fun _ _ _ => rfl, Below.refl _ _⟩
set_option maxRecDepth 100000 in
set_option maxHeartbeats 4000000 in
theorem countOf_any (op : Int) (g : Gr) (w : World) (B : Nat) (v : Array Value) (h : GrIs w B v g) (hn : (codeAll g.blocks).length ≤ 1048576) :
    Calls Try.prog 43 #[.agg v, .int .i64 op] w fun en w' => en = .returned (.int .i64 ((cntP op (codeAll g.blocks) : Nat) : Int)) ∧ Below w.heap.size w w' := by
  obtain ⟨sizes, params, vars, slots, blocks⟩ := g
  obtain ⟨us, cs, ub, cb, rfl, ok, hz, hb⟩ := h
  simp only at *
  have hm := maxLen_lt
  have hl := hb.1
  have HB := hideP hb
  clear hz hb ok
  refine (callsIn_wide (n := 4)).1 ?_
  refine callsIn_of_wp_marks Try.func43 rfl trivial ?_ rfl
  simp only [Try.ntmps43, List.size_toArray, List.length_cons, List.length_nil, Nat.reduceAdd, Nat.reduceSub, Array.replicate_succ, Array.replicate_zero, List.push_toArray, List.append_toArray, List.nil_append, List.cons_append]
  gi_wp2
  obtain ⟨k0, k1, k2⟩ := three_at w (.cells #[.slice us sizes.length cs, .int .i64 params, .int .i64 vars, .int .i64 slots, .slice ub blocks.length cb] 29) (.cells #[.int .i64 op] 3) (.cells #[.int .i64 0] 3)
  have bel3 := below3 w (.cells #[.slice us sizes.length cs, .int .i64 params, .int .i64 vars, .int .i64 slots, .slice ub blocks.length cb] 29) (.cells #[.int .i64 op] 3) (.cells #[.int .i64 0] 3)
  have hz3 : (((w.alloc (.cells #[.slice us sizes.length cs, .int .i64 params, .int .i64 vars, .int .i64 slots, .slice ub blocks.length cb] 29)).alloc (.cells #[.int .i64 op] 3)).alloc (.cells #[.int .i64 0] 3)).heap.size = w.heap.size + 3 := by simp
  refine range_stepsC rfl (by decide) (by decide) trivial w B blocks ub cb HB.out bel3 rfl
    (fun pre W => CtAt w op (cntP op pre) W) (fun _ _ => False) (fun pre W o h => h.alloc o) (fun pre W o h => h.put _ (by rw [hz3]; omega) o) (fun pre W o h => h)
    ⟨k1, k2, bel3⟩ 6 ?assign ?body ?done ?stop
  case assign =>
    intro l x W K hK
    simp only [insCells]
    gi_wp2
    simpa [axOf, insCells] using hK
  case stop =>
    rintro D pre W hD hpre hx hK
    exact hx.elim
  case body =>
    rintro l pre x bx W hbx hpx hwf hsz hi hx hbel
    rw [hz3] at hbx ⊢
    have c0 := (cells_of hi.c0).1 0
    have f0 := (cells_of hi.c0).2 0
    have s0 := (cells_of hi.o0).1 0
    have xx := (cells_of hx).1
    simp only [insCells] at xx
    have x0 := xx 0
    simp at c0 s0 x0
    have hlen : cntP op pre + 1 ≤ 1048576 := by have := hpx.length_le; simp at this; have := cntP_le op pre; omega
    have SN : Hid (cntP op (pre ++ [x]) = cntP op pre + (if x.op = op then 1 else 0)) := cntP_snoc op pre x
    obtain ⟨k, hk⟩ : ∃ k, cntP op pre = k := ⟨_, rfl⟩
    rw [hk] at hi c0 hlen SN
    have HI := hideP hi
    clear hk xx hi hx hbel hwf hsz k0 k1 k2 bel3 hpx
    simp only [axOf, insCells]
    by_cases hc : x.op = op
    · have E : Hid (cntP op (pre ++ [x]) = k + 1) := by show _ = _; rw [SN.out, if_pos hc]
      rw [hc] at x0
      gi_wp2
      refine ⟨cset_kept W w.heap.size _, ?_⟩
      show CtAt w op (cntP op (pre ++ [x])) _
      rw [E.out]
      have := HI.out.set (k + 1)
      simpa using this
    · have E : Hid (cntP op (pre ++ [x]) = k) := by show _ = _; rw [SN.out, if_neg hc]; rfl
      have hc2 : (x.op == op) = false := by simpa using hc
      gi_wp2
      exact ⟨kept_reflC _ _ _, by show CtAt w op (cntP op (pre ++ [x])) _; rw [E.out]; exact HI.out⟩
  case done =>
    rintro D W hD hi hbel hK
    rw [hz3] at hD
    have c0 := (cells_of hi.c0).1 0
    simp at c0
    have HI := hideP hi
    have HK := hideP hK
    clear hbel k0 k1 k2 bel3 hK hi hz3
    gi_wp2
    refine ⟨by simp, .inl ⟨_, _, rfl, run_takeDeferred HK.out, ?_⟩⟩
    refine ⟨.int .i64 ((cntP op (codeAll blocks) : Nat) : Int), by simp [results, Try.results43, go_sem], rfl, HI.out.bel.trans (put_below _ (by omega) HI.out.bel.size)⟩
theorem impl_loads (g : Gr) (w : World) (B : Nat) (v : Array Value) (h : GrIs w B v g) (hn : (codeAll g.blocks).length ≤ 1048576) :
    Calls Try.prog 17 #[.agg v] w fun en w' => en = .returned (.int .i64 ((cntP 3 (codeAll g.blocks) : Nat) : Int)) ∧ Below w.heap.size w w' := by
  have CT := hideP (fun W hW => countOf_any 3 g W B v (GrKeeps.stays h hW) hn)
  obtain ⟨R, hR⟩ : ∃ R, ((cntP 3 (codeAll g.blocks) : Nat) : Int) = R := ⟨_, rfl⟩
  rw [hR] at CT ⊢
  obtain ⟨us, cs, ub, cb, rfl, _⟩ := h
  clear hR
  have al := (Below.refl w.heap.size w).alloc (Nat.le_refl _) (.cells #[.slice us g.sizes.length cs, .int .i64 g.params, .int .i64 g.vars, .int .i64 g.slots, .slice ub g.blocks.length cb] 29)
  go_enter Try.func17, Try.ntmps17
  go_wp2_with fail
  refine (CT.out _ al).mono ?_
  rintro e1 w1 ⟨rfl, bel1⟩
  go_wp2
  go_ret
  exact ⟨rfl, below_trans al bel1⟩
theorem impl_stores (g : Gr) (w : World) (B : Nat) (v : Array Value) (h : GrIs w B v g) (hn : (codeAll g.blocks).length ≤ 1048576) :
    Calls Try.prog 19 #[.agg v] w fun en w' => en = .returned (.int .i64 ((cntP 4 (codeAll g.blocks) : Nat) : Int)) ∧ Below w.heap.size w w' := by
  have CT := hideP (fun W hW => countOf_any 4 g W B v (GrKeeps.stays h hW) hn)
  obtain ⟨R, hR⟩ : ∃ R, ((cntP 4 (codeAll g.blocks) : Nat) : Int) = R := ⟨_, rfl⟩
  rw [hR] at CT ⊢
  obtain ⟨us, cs, ub, cb, rfl, _⟩ := h
  clear hR
  have al := (Below.refl w.heap.size w).alloc (Nat.le_refl _) (.cells #[.slice us g.sizes.length cs, .int .i64 g.params, .int .i64 g.vars, .int .i64 g.slots, .slice ub g.blocks.length cb] 29)
  go_enter Try.func19, Try.ntmps19
  go_wp2_with fail
  refine (CT.out _ al).mono ?_
  rintro e1 w1 ⟨rfl, bel1⟩
  go_wp2
  go_ret
  exact ⟨rfl, below_trans al bel1⟩
end Go.Proofs.Ytljeahjcfbcbgaa
