/- The program's ledger: the contracts of place and step, for any step that is right. -/
import Derived.Test.YtgiboadcfnfooabLedPl
namespace Go.Proofs.Ytgiboadcfnfooab
open Go.ChangeShapes Go.WideShapes Go.ChangeAt Go.RowKit
theorem Led.get_at {l : Led} {n : Nat} (h : n < l.slots.length) : l.get (n : Int) = l.slots[n] := by
  unfold Led.get; rw [show ((n : Int).toNat) = n by omega, getElem!_pos l.slots n h]
theorem vOk_nat {V : Nat} {n : Int} (h : vOk V n = true) : ∃ k : Nat, n = (k : Int) ∧ k < V := by
  have h' : 0 ≤ n ∧ n < V := by simpa [vOk] using h
  exact ⟨n.toNat, by omega, by omega⟩
set_option maxRecDepth 100000 in
set_option maxHeartbeats 2000000 in
theorem place_no (w : World) (L : Nat) (x : Ins) (hop : ¬ (x.op = 3 ∨ x.op = 4)) :
    Calls Try.prog 55 #[.pointer (some ⟨L, 0, none⟩), .agg (insV x)] w fun e w' => e = .returned (.agg #[.int .i64 (-1), .int .i64 0, .int .i64 0, .int .i64 0]) ∧ Below w.heap.size w w' := by
  have TO : Hid (∀ W, Calls Try.prog 56 #[.agg (insV x)] W fun e w' => e = .returned (.bool false) ∧ Below W.heap.size W w') := fun W => by
    have := touches_any x W
    simpa [hop] using this
  obtain ⟨op, d, a, b, c, n, t⟩ := x
  simp only [insV] at *
  have BW := hideP (below2 w (.cells #[.int .i64 op, .int .i64 d, .int .i64 a, .int .i64 b, .int .i64 c, .int .i64 n, .string t] 66) (.cells #[.int .i64 0, .int .i64 0, .int .i64 0, .int .i64 0] 71))
  have Q1 := hideP (two (Below.refl ((w.alloc (.cells #[.int .i64 op, .int .i64 d, .int .i64 a, .int .i64 b, .int .i64 c, .int .i64 n, .string t] 66)).alloc (.cells #[.int .i64 0, .int .i64 0, .int .i64 0, .int .i64 0] 71)).heap.size _)).2.1
  clear hop
  go_enter Try.func55, Try.ntmps55
  go_wp2_with fail
  refine (TO.out _).mono ?_
  rintro e1 w1 ⟨rfl, bel1⟩
  replace BW := hideP (below_trans BW.out bel1)
  replace Q1 := hideP (keepB Q1.out bel1)
  clear bel1
  have q1 := cells_of Q1.out
  have g0 := q1.1 0
  have g1 := q1.1 1
  have g2 := q1.1 2
  have g3 := q1.1 3
  have f0 := q1.2 0
  have f1 := q1.2 1
  have f2 := q1.2 2
  have f3 := q1.2 3
  simp at g0 g1 g2 g3
  clear q1
  have hres : Try.f55.results = #[.cell 4 71] := by kernel_rfl
  go_wp2
  refine bodyPost_ret (results_cell_row hres _ _ (w.heap.size + 1) 71 _ (0, 0) _ rfl (set4_heap Q1.out) Try.underlying71 rfl (by kernel_rfl)) rfl ?_
  exact ⟨rfl, (((BW.out.setCell (Nat.le_succ _) _).setCell (Nat.le_succ _) _).setCell (Nat.le_succ _) _).setCell (Nat.le_succ _) _⟩
theorem place_any (w : World) (L S : Nat) (l : Led) (x : Ins) (R : Int) (h : LedIs w L S l) (hx : insOk R (l.slots.length : Nat) x = true) :
    Calls Try.prog 55 #[.pointer (some ⟨L, 0, none⟩), .agg (insV x)] w fun e w' => e = .returned (.agg (plaV (placeP l x))) ∧ Below w.heap.size w w' := by
  by_cases hop : x.op = 3 ∨ x.op = 4
  · obtain ⟨hb, ha⟩ : vOk (l.slots.length : Nat) x.b = true ∧ (x.a = -1 ∨ vOk (l.slots.length : Nat) x.a = true) := by
      rcases insOk_slots hx with ⟨e, _⟩ | ⟨e, _⟩ | ⟨e, _⟩ | ⟨_, _, hb, ha, _⟩ | ⟨_, hb, ha, _⟩ | ⟨e, _⟩ | e
      all_goals first | exact ⟨hb, ha⟩ | omega
    obtain ⟨op, d, a, b, c, n, t⟩ := x
    simp only at hop hb ha
    obtain ⟨nb, rfl, hnb⟩ := vOk_nat hb
    obtain ⟨⟨bb, ob⟩, eb⟩ : ∃ s, l.slots[nb] = s := ⟨_, rfl⟩
    have E : placeP l ⟨op, d, a, (nb : Int), c, n, t⟩ = ⟨n, min (l.oget a).base bb, max (l.oget a).base bb, wrap64 ((l.oget a).off + ob)⟩ := by
      unfold placeP; rw [if_pos hop]; simp only [Led.get_at hnb, eb]
    rw [E]
    simp only [insV, plaV]
    by_cases hn : a = -1
    · subst hn
      have e0 : l.oget (-1) = ⟨-1, 0⟩ := if_pos rfl
      rw [e0]
      by_cases kb : bb = -1
      · exact place_nf w L S l op d c n nb t bb ob hop h hnb eb kb
      · exact place_nd w L S l op d c n nb t bb ob hop h hnb eb kb
    · obtain ⟨na, rfl, hna⟩ := vOk_nat (ha.resolve_left hn)
      obtain ⟨⟨ba, oa⟩, ea⟩ : ∃ s, l.slots[na] = s := ⟨_, rfl⟩
      have e0 : l.oget (na : Int) = ⟨ba, oa⟩ := by unfold Led.oget; rw [if_neg hn, Led.get_at hna, ea]
      rw [e0]
      by_cases ka : ba = -1 <;> by_cases kb : bb = -1
      · exact place_ff w L S l op d c n nb t bb ob hop h hnb eb kb na ba oa hna ea ka
      · exact place_fd w L S l op d c n nb t bb ob hop h hnb eb kb na ba oa hna ea ka
      · exact place_df w L S l op d c n nb t bb ob hop h hnb eb kb na ba oa hna ea ka
      · exact place_dd w L S l op d c n nb t bb ob hop h hnb eb kb na ba oa hna ea ka
  · have E : placeP l x = ⟨-1, 0, 0, 0⟩ := if_neg hop
    rw [E]
    exact place_no w L x hop
theorem LedIs.put {w : World} {L S : Nat} {l : Led} (h : LedIs w L S l) (nd : Nat) (s : Sym) (hn : nd < l.slots.length) : LedIs (w.setCell ⟨S, nd, none⟩ (symV s)) L S (l.put (nd : Int) s) := by
  refine ⟨h.1, ?_, ?_⟩
  · rw [Below.heap_setCell w ⟨S, nd, none⟩ _ L h.1]
    simpa [Led.put] using h.2.1
  · have := h.2.2.set nd s hn
    simpa [Led.put] using this
theorem LedIs.putO {w w1 : World} {L S : Nat} {l : Led} (h : LedIs w L S l) (but : But L w w1) (o : Option Sym) (hl : w1.heap[L]? = some (.cells (ledHead S l.slots.length (l.next o)) 62 (0, 0))) (nd : Nat) (hn : nd < l.slots.length) : LedIs (w1.setCell ⟨S, nd, none⟩ (symV (l.made o))) L S (l.putO (nd : Int) o) := by
  have h1 : LedIs w1 L S ⟨l.slots, l.next o⟩ := ⟨h.1, hl, h.2.2.blk (but.block S h.lt.2 (fun e => h.1 e.symm))⟩
  have := h1.put nd (l.made o) hn
  rw [putO_eq]
  simpa [Led.put] using this
end Go.Proofs.Ytgiboadcfnfooab
