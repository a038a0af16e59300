/- The program's ledger: the contracts of parts, touches, place, step, newLedger. -/
import Derived.Test.YtgiboadcfnfooabLedI
namespace Go.Proofs.Ytgiboadcfnfooab
open Go.ChangeShapes Go.WideShapes Go.ChangeAt Go.RowKit
def insV (x : Ins) : Array Value := #[.int .i64 x.op, .int .i64 x.d, .int .i64 x.a, .int .i64 x.b, .int .i64 x.c, .int .i64 x.n, .string x.t]
def plaV (p : Pla) : Array Value := #[.int .i64 p.r, .int .i64 p.i, .int .i64 p.j, .int .i64 p.off]
set_option maxHeartbeats 1000000 in
theorem touches_any (x : Ins) (w : World) :
    Calls Try.prog 56 #[.agg (insV x)] w fun e w' => e = .returned (.bool (decide (x.op = 3 ∨ x.op = 4))) ∧ Below w.heap.size w w' := by
  obtain ⟨op, d, a, b, c, n, t⟩ := x
  simp only [insV]
  go_enter Try.func56, Try.ntmps56
  go_wp2
  all_goals go_ret
  all_goals refine ⟨ret_bool ?_, (Below.refl _ _).alloc (Nat.le_refl _) _⟩
  · simp [*]
  · rw [Bool.eq_iff_iff]; simp
theorem figParts_any (o : Int) (w : World) :
    Calls Try.prog 96 #[.int .i64 o] w fun e w' => e = .returned (.tuple #[.int .i64 (-1), .int .i64 o]) ∧ Below w.heap.size w w' := by
  go_enter Try.func96, Try.ntmps96
  go_wp2
  (try simp only [Exit.inBlock, Exit.then])
  refine bodyPost_ret (results_tmp2 rfl _ _ _) rfl ?_
  exact ⟨rfl, Below.refl _ _⟩
theorem distParts_any (b o : Int) (w : World) :
    Calls Try.prog 97 #[.agg #[.int .i64 b, .int .i64 o]] w fun e w' => e = .returned (.tuple #[.int .i64 b, .int .i64 o]) ∧ Below w.heap.size w w' := by
  go_enter Try.func97, Try.ntmps97
  go_wp2
  go_region
  go_wp2
  (try simp only [Exit.inBlock, Exit.then])
  refine bodyPost_ret (results_tmp2 rfl _ _ _) rfl ?_
  exact ⟨rfl, ((Below.refl _ _).alloc (Nat.le_refl _) _).drew⟩
theorem infoCo : (Try.prog.info? 88).map (fun i => (i.zero, i.size, i.bytes)) = some (some .nilIface, 1, 16) := by kernel_rfl
/-- The first j slots are filled. -/
def LedPart (wr : World) (L S V j : Nat) : Prop := L ≠ S ∧ wr.heap[L]? = some (.cells (ledHead S V 0) 62 (0, 0)) ∧ ∃ cur, wr.heap[S]? = some (.cells cur 88 (0, 0)) ∧ cur.size = V ∧ ∀ i, i < j → cur[i]? = some (symV ⟨(i : Int), 0⟩)
theorem LedPart.step {wr : World} {L S V j : Nat} (h : LedPart wr L S V j) (hj : j < V) : LedPart (wr.setCell ⟨S, j, none⟩ (symV ⟨(j : Int), 0⟩)) L S V (j + 1) := by
  obtain ⟨hne, h1, cur, h2, h3, h4⟩ := h
  refine ⟨hne, (Below.heap_setCell wr ⟨S, j, none⟩ _ L hne).trans h1, _, heap_setCell_same wr S j cur _ _ h2, by simp [h3], fun i hi => ?_⟩
  rw [Array.getElem?_setIfInBounds]
  by_cases e : j = i
  · subst e; simp [show j < cur.size by omega]
  · rw [if_neg e]; exact h4 i (by omega)
theorem LedPart.done {wr : World} {L S V : Nat} (h : LedPart wr L S V V) : LedIs wr L S (ledStart V) := by
  obtain ⟨hne, h1, cur, h2, h3, h4⟩ := h
  refine ⟨hne, by simpa [ledStart] using h1, cur, h2, by simp [ledStart, h3], fun i hi => ?_⟩
  have hi' : i < V := by simpa [ledStart] using hi
  rw [h4 i hi']; simp [ledStart]
set_option maxRecDepth 100000 in
set_option maxHeartbeats 2000000 in
theorem newLedger_any (V : Nat) (w : World) (hV : V ≤ 1000) :
    Calls Try.prog 50 #[.int .i64 (V : Int)] w fun e w' => ∃ L S, e = .returned (.pointer (some ⟨L, 0, none⟩)) ∧ LedIs w' L S (ledStart V) ∧ w.heap.size ≤ L ∧ w.heap.size ≤ S ∧ Below w.heap.size w w' := by
  have hmk := make_n (P := Try.prog) Try.underlying60 infoCo V (by omega) (by decide)
  have LP : Hid (LedPart ((w.alloc (.cells (madeCells #[Value.nilIface] V) 88)).alloc (.cells #[.slice (some ⟨w.heap.size, 0, none⟩) V V, .int .i64 0] 62)) (w.heap.size + 1) w.heap.size V 0) := by
    have h2 := two (Below.refl ((w.alloc (.cells (madeCells #[Value.nilIface] V) 88)).alloc (.cells #[.slice (some ⟨w.heap.size, 0, none⟩) V V, .int .i64 0] 62)).heap.size _)
    exact ⟨by omega, h2.2.1, _, h2.1, size_madeCells _ _, fun i hi => absurd hi (Nat.not_lt_zero _)⟩
  have BW := hideP (below2 w (.cells (madeCells #[Value.nilIface] V) 88) (.cells #[.slice (some ⟨w.heap.size, 0, none⟩) V V, .int .i64 0] 62))
  go_enter Try.func50, Try.ntmps50
  go_wp2
  clear hmk
  go_loopw [9] (fun i wr => ∃ j : Nat, j ≤ V ∧ i = .int .i64 j ∧ Hid (LedPart wr (w.heap.size + 1) w.heap.size V j) ∧ Hid (Below w.heap.size w wr)) (fun i _ => V - (intOf i).toNat)
  case atStart => exact ⟨0, Nat.zero_le _, rfl, LP.out, BW.out⟩
  case round =>
    obtain ⟨j, hj, rfl, hp, hb⟩ := hrel
    clear LP BW
    by_cases hlt : j < V
    · have p0 := (cells_of hp.out.2.1).1 0
      simp [ledHead] at p0
      obtain ⟨v, hv⟩ : ∃ v, wr.cell? ⟨w.heap.size, j, none⟩ = some v := by
        obtain ⟨_, _, cur, h2, h3, _⟩ := hp.out
        exact ⟨cur[j], by simp [World.cell?, h2, show j < cur.size by omega]⟩
      have hf : wr.frozen? ⟨w.heap.size, j, none⟩ = false := by
        obtain ⟨_, _, cur, h2, h3, _⟩ := hp.out
        simp [World.frozen?, h2]
      go_wp2
      go_roundw
      case rel => exact ⟨j + 1, by omega, by go_num, by have := hp.out.step hlt; rw [symV_dist (by omega)] at this; exact this, hb.out.setCell (p := ⟨w.heap.size, j, none⟩) (Nat.le_refl _) _⟩
      case measure => simp [intOf]; omega
    · have hjn : j = V := by omega
      subst hjn
      go_wp2
      go_ret
      exact ⟨w.heap.size + 1, w.heap.size, rfl, hp.out.done, by omega, by omega, hb.out⟩
end Go.Proofs.Ytgiboadcfnfooab
