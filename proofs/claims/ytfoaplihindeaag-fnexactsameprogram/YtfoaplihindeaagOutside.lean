/- The contracts of impl.part.outside and of the function that sameParts hands to slices.EqualFunc. -/
import Derived.Test.YtfoaplihindeaagNdOf
import Derived.BigRegion
namespace Go.Proofs.Ytfoaplihindeaag
open Go.ChangeShapes Go.WideShapes Go.ChangeAt Go.RowKit

/-- What outside tells of a label, as cells. -/
def Lab.out : Lab → Array Value
  | .ex k n b t m => #[.int .i64 k, .int .i64 n, .int .i64 b, .string t, .int .i64 0, .int .i64 0, .int .i64 0, .int .i64 (m : Nat)]
  | .st k n b e x y => #[.int .i64 k, .int .i64 n, .int .i64 b, .string ⟨#[]⟩, .int .i64 (e : Nat), .int .i64 (x : Nat), .int .i64 (y : Nat), .int .i64 0]
set_option maxHeartbeats 4000000 in
theorem outside_ex (w : World) (b o : Nat) (k n bs : Int) (t : ByteArray) (m : Nat) (hb : b < w.heap.size) (h : LabAt w (.ex b o) (.ex k n bs t m)) :
    Calls Try.prog 52 #[(Pt.ex b o).val] w fun e w' => e = .returned (.agg (Lab.ex k n bs t m).out) ∧ Below w.heap.size w w' := by
  obtain ⟨c0, c1, c2, c3, ht, a, c, c4⟩ := h
  obtain ⟨W, hW⟩ : ∃ W, (w.alloc (.cells #[.pointer none, .pointer (some ⟨b, o, none⟩)] 84)).alloc (.cells #[.int .i64 0, .int .i64 0, .int .i64 0, .string ⟨#[]⟩, .int .i64 0, .int .i64 0, .int .i64 0, .int .i64 0] 86) = W := ⟨_, rfl⟩
  have al : Below w.heap.size w W := by rw [← hW]; exact below2' w _ _
  have hWs : W.heap.size = w.heap.size + 2 := by rw [← hW]; simp
  have bx : W.heap[w.heap.size + 1]? = some (.cells #[.int .i64 0, .int .i64 0, .int .i64 0, .string ⟨#[]⟩, .int .i64 0, .int .i64 0, .int .i64 0, .int .i64 0] 86 (0, 0)) := by
    rw [← hW]
    have e := blk_new' (w.alloc (.cells #[.pointer none, .pointer (some ⟨b, o, none⟩)] 84)) (.cells #[.int .i64 0, .int .i64 0, .int .i64 0, .string ⟨#[]⟩, .int .i64 0, .int .i64 0, .int .i64 0, .int .i64 0] 86)
    simpa using e
  have q0 := (al.cell (p := ⟨b, _, none⟩) hb).trans c0
  have q1 := (al.cell (p := ⟨b, _, none⟩) hb).trans c1
  have q2 := (al.cell (p := ⟨b, _, none⟩) hb).trans c2
  have q3 := (al.cell (p := ⟨b, _, none⟩) hb).trans c3
  have q4 := (al.cell (p := ⟨b, _, none⟩) hb).trans c4
  have r0 : W.cell? ⟨w.heap.size + 1, 0, none⟩ = some (.int .i64 0) := by simp [World.cell?, bx]
  have r1 : W.cell? ⟨w.heap.size + 1, 1, none⟩ = some (.int .i64 0) := by simp [World.cell?, bx]
  have r2 : W.cell? ⟨w.heap.size + 1, 2, none⟩ = some (.int .i64 0) := by simp [World.cell?, bx]
  have r3 : W.cell? ⟨w.heap.size + 1, 3, none⟩ = some (.string ⟨#[]⟩) := by simp [World.cell?, bx]
  have r4 : W.cell? ⟨w.heap.size + 1, 4, none⟩ = some (.int .i64 0) := by simp [World.cell?, bx]
  have r5 : W.cell? ⟨w.heap.size + 1, 5, none⟩ = some (.int .i64 0) := by simp [World.cell?, bx]
  have r6 : W.cell? ⟨w.heap.size + 1, 6, none⟩ = some (.int .i64 0) := by simp [World.cell?, bx]
  have r7 : W.cell? ⟨w.heap.size + 1, 7, none⟩ = some (.int .i64 0) := by simp [World.cell?, bx]
  have fz : ∀ i, W.frozen? ⟨w.heap.size + 1, i, none⟩ = false := fun i => by simp [World.frozen?, bx]
  have AL := hideP al
  have HWe := hideP hW
  have HWS := hideP hWs
  clear hW al bx c0 c1 c2 c3 c4 hWs
  unfold Pt.val Pt.c0 Pt.c1
  go_enter Try.func52, Try.ntmps52
  go_upto_region 5 with fail
  rw [HWe.out]
  clear HWe
  go_region
  go_wp2
  try simp only [Exit.inBlock, Exit.then]
  refine bodyPost_ret (v := .agg (Lab.ex k n bs t m).out) (by simp [results, Try.results52, go_sem, Lab.out, r0, r1, r2, r3, r4, r5, r6, r7]) rfl ⟨rfl, ?_⟩
  have hle : w.heap.size ≤ w.heap.size + 1 := Nat.le_succ _
  exact ((((((((AL.out.setCell hle _).setCell hle _).setCell hle _).setCell hle _).setCell hle _).setCell hle _).setCell hle _).setCell hle _).drew
set_option maxHeartbeats 4000000 in
theorem outside_st (w : World) (b o : Nat) (k n bs : Int) (e x y : Nat) (hb : b < w.heap.size) (h : LabAt w (.st b o) (.st k n bs e x y)) :
    Calls Try.prog 52 #[(Pt.st b o).val] w fun en w' => en = .returned (.agg (Lab.st k n bs e x y).out) ∧ Below w.heap.size w w' := by
  obtain ⟨c0, c1, c2, ⟨a3, d3, c3⟩, ⟨a4, d4, c4⟩, a5, d5, c5⟩ := h
  obtain ⟨W, hW⟩ : ∃ W, (w.alloc (.cells #[.pointer (some ⟨b, o, none⟩), .pointer none] 84)).alloc (.cells #[.int .i64 0, .int .i64 0, .int .i64 0, .string ⟨#[]⟩, .int .i64 0, .int .i64 0, .int .i64 0, .int .i64 0] 86) = W := ⟨_, rfl⟩
  have al : Below w.heap.size w W := by rw [← hW]; exact below2' w _ _
  have hWs : W.heap.size = w.heap.size + 2 := by rw [← hW]; simp
  have bx : W.heap[w.heap.size + 1]? = some (.cells #[.int .i64 0, .int .i64 0, .int .i64 0, .string ⟨#[]⟩, .int .i64 0, .int .i64 0, .int .i64 0, .int .i64 0] 86 (0, 0)) := by
    rw [← hW]
    have e := blk_new' (w.alloc (.cells #[.pointer (some ⟨b, o, none⟩), .pointer none] 84)) (.cells #[.int .i64 0, .int .i64 0, .int .i64 0, .string ⟨#[]⟩, .int .i64 0, .int .i64 0, .int .i64 0, .int .i64 0] 86)
    simpa using e
  have q0 := (al.cell (p := ⟨b, _, none⟩) hb).trans c0
  have q1 := (al.cell (p := ⟨b, _, none⟩) hb).trans c1
  have q2 := (al.cell (p := ⟨b, _, none⟩) hb).trans c2
  have q3 := (al.cell (p := ⟨b, _, none⟩) hb).trans c3
  have q4 := (al.cell (p := ⟨b, _, none⟩) hb).trans c4
  have q5 := (al.cell (p := ⟨b, _, none⟩) hb).trans c5
  have r0 : W.cell? ⟨w.heap.size + 1, 0, none⟩ = some (.int .i64 0) := by simp [World.cell?, bx]
  have r1 : W.cell? ⟨w.heap.size + 1, 1, none⟩ = some (.int .i64 0) := by simp [World.cell?, bx]
  have r2 : W.cell? ⟨w.heap.size + 1, 2, none⟩ = some (.int .i64 0) := by simp [World.cell?, bx]
  have r3 : W.cell? ⟨w.heap.size + 1, 3, none⟩ = some (.string ⟨#[]⟩) := by simp [World.cell?, bx]
  have r4 : W.cell? ⟨w.heap.size + 1, 4, none⟩ = some (.int .i64 0) := by simp [World.cell?, bx]
  have r5 : W.cell? ⟨w.heap.size + 1, 5, none⟩ = some (.int .i64 0) := by simp [World.cell?, bx]
  have r6 : W.cell? ⟨w.heap.size + 1, 6, none⟩ = some (.int .i64 0) := by simp [World.cell?, bx]
  have r7 : W.cell? ⟨w.heap.size + 1, 7, none⟩ = some (.int .i64 0) := by simp [World.cell?, bx]
  have fz : ∀ i, W.frozen? ⟨w.heap.size + 1, i, none⟩ = false := fun i => by simp [World.frozen?, bx]
  have AL := hideP al
  have HWe := hideP hW
  have HWS := hideP hWs
  clear hW al bx c0 c1 c2 c3 c4 c5 hWs
  unfold Pt.val Pt.c0 Pt.c1
  go_enter Try.func52, Try.ntmps52
  go_upto_region 3 with fail
  rw [HWe.out]
  clear HWe
  go_region
  go_wp2
  try simp only [Exit.inBlock, Exit.then]
  refine bodyPost_ret (v := .agg (Lab.st k n bs e x y).out) (by simp [results, Try.results52, go_sem, Lab.out, r0, r1, r2, r3, r4, r5, r6, r7]) rfl ⟨rfl, ?_⟩
  have hle : w.heap.size ≤ w.heap.size + 1 := Nat.le_succ _
  exact ((((((((AL.out.setCell hle _).setCell hle _).setCell hle _).setCell hle _).setCell hle _).setCell hle _).setCell hle _).setCell hle _).drew
end Go.Proofs.Ytfoaplihindeaag
