/- Rows of truths in a block of their own. -/
import Derived.Test.YtobpcfelgobedaaRSl
namespace Go.Proofs.YtobpcfelgobedaaR
open Go.ChangeShapes Go.WideShapes Go.ChangeAt Go.RowKit
/-- Block g is a row of truths, the first n as f says. -/
def TruIs (w : World) (g n : Nat) (f : Nat → Bool) : Prop := ∃ cur : Array Value, w.heap[g]? = some (.cells cur 4 (0, 0)) ∧ n ≤ cur.size ∧ ∀ i, i < n → cur[i]? = some (.bool (f i))
section
variable {w w' : World} {g n : Nat} {f f' : Nat → Bool}
theorem TruIs.lt (h : TruIs w g n f) : g < w.heap.size := let ⟨_, h1, _⟩ := h; (Array.getElem?_eq_some_iff.1 h1).1
theorem TruIs.keep (h : TruIs w g n f) (hk : w'.heap[g]? = w.heap[g]?) : TruIs w' g n f := let ⟨c, h1, h2⟩ := h; ⟨c, hk.trans h1, h2⟩
theorem TruIs.stays (h : TruIs w g n f) (b : Below w.heap.size w w') : TruIs w' g n f := h.keep (b.block _ h.lt)
theorem TruIs.congr (h : TruIs w g n f) (e : ∀ i, i < n → f i = f' i) : TruIs w g n f' := let ⟨c, h1, h2, h3⟩ := h; ⟨c, h1, h2, fun i hi => by rw [← e i hi]; exact h3 i hi⟩
theorem TruIs.at (h : TruIs w g n f) {i : Nat} (hi : i < n) : w.cell? ⟨g, i, none⟩ = some (.bool (f i)) ∧ w.frozen? ⟨g, i, none⟩ = false := by
  obtain ⟨cur, hh, _, hc⟩ := h
  exact ⟨by simp [World.cell?, hh, hc i hi], by simp [World.frozen?, hh]⟩
theorem TruIs.set (h : TruIs w g n f) {i : Nat} (hi : i < n) {b : Bool} (e : ∀ j, j < n → f' j = if j = i then b else f j) : TruIs (w.setCell ⟨g, i, none⟩ (.bool b)) g n f' := by
  obtain ⟨cur, hh, hs, hc⟩ := h
  refine ⟨_, heap_setCell_same w g i cur _ _ hh, by simpa using hs, fun j hj => ?_⟩
  rw [Array.getElem?_setIfInBounds, e j hj]
  by_cases he : i = j
  · subst he; rw [if_pos rfl, if_pos (by omega), if_pos rfl]
  · rw [if_neg he, hc j hj, if_neg (fun e => he e.symm)]
end
theorem infoTr : (Try.prog.info? 4).map (fun i => (i.zero, i.size, i.bytes)) = some (some (.bool false), 1, 1) := by kernel_rfl
theorem make_tru (V : Nat) (hV : V ≤ 1000) (W : World) : (Instr.makeSlice 44 (.int .i64 (V : Int)) (.int .i64 (V : Int))).run Try.prog W = .ok (.slice (some ⟨W.heap.size, 0, none⟩) V V) (W.alloc (.cells (madeCells #[.bool false] V) 4)) := by
  have := make_n (P := Try.prog) Try.underlying44 infoTr V (by omega) (by omega) W
  rw [Nat.mul_one] at this
  exact this
theorem made_tru (w : World) (n : Nat) : TruIs (w.alloc (.cells (madeCells #[.bool false] n) 4)) w.heap.size n (fun _ => false) :=
  ⟨_, by show (w.heap.push _)[w.heap.size]? = _; exact Array.getElem?_push_size, by rw [size_madeCells]; exact Nat.le_refl _, fun s hs => by simp [madeCells, hs, Nat.mod_one]⟩
end Go.Proofs.YtobpcfelgobedaaR
