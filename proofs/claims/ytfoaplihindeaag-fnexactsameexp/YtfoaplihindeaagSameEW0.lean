/- The contract of spec.SameExp. -/
import Derived.Test.YtfoaplihindeaagSameEI
namespace Go.Proofs.Ytfoaplihindeaag
open Go.ChangeShapes Go.WideShapes Go.ChangeAt Go.RowKit

theorem spec_lit2 (w W X : World) (a b : Ex) (B1 B2 : Nat) (ca cb : Array Value) (T : TypeId) (blkA blkB : Nat) (r : Bool) (hr : r = true ↔ a = b)
    (hw : Below w.heap.size w W) (hWX : Below W.heap.size W X) (ha : ExIs w B1 ca a) (hb : ExIs w B2 cb b)
    (kA : X.heap[blkA]? = some (.cells ca T (0, 0))) (kB : X.heap[blkB]? = some (.cells cb T (0, 0))) :
    Calls Try.prog 42 #[.slice (some ⟨blkA, 0, none⟩) 1 1, .slice (some ⟨blkB, 0, none⟩) 1 1] X fun e w' => e = .returned (.bool r) ∧ Below W.heap.size W w' := by
  have bX : Below w.heap.size w X := hw.trans (hWX.mono hw.size)
  refine (l02SameExps_any [a] [b] r X 0 0 _ _ 1 1 (by rw [hr]; simp) (lit_exs kA (ha.stays bX)) (lit_exs kB (hb.stays bX))).mono ?_
  rintro e w' ⟨rfl, q, rfl⟩
  exact ⟨rfl, hWX.trans ((drewN_below X q).mono hWX.size)⟩
theorem spec_lit (w W : World) (a b : Ex) (B1 B2 : Nat) (ca cb : Array Value) (T : TypeId) (r : Bool) (hr : r = true ↔ a = b)
    (hw : Below w.heap.size w W) (hz : W.heap.size = w.heap.size + 2) (ha : ExIs w B1 ca a) (hb : ExIs w B2 cb b) :
    Calls Try.prog 42 #[.slice (some ⟨w.heap.size + 2, 0, none⟩) 1 1, .slice (some ⟨w.heap.size + 2 + 1, 0, none⟩) 1 1] ((W.alloc (.cells ca T)).alloc (.cells cb T)) fun e w' => e = .returned (.bool r) ∧ Below W.heap.size W w' := by
  rw [← hz]
  obtain ⟨e0, e1, _⟩ := two_blk W (.cells ca T) (.cells cb T)
  exact spec_lit2 w W _ a b B1 B2 ca cb T _ _ r hr hw (((Below.refl W.heap.size W).alloc (Nat.le_refl _) _).alloc (by simp) _) ha hb (e0.trans (blk_new' _ _)) (e1.trans (blk_new' _ _))
set_option maxHeartbeats 4000000 in
theorem spec_sameExp (a b : Ex) (w : World) (B1 B2 : Nat) (v1 v2 : Array Value) (r : Bool) (hr : r = true ↔ a = b) (h1 : ExIs w B1 v1 a) (h2 : ExIs w B2 v2 b) :
    Calls Try.prog 19 #[.agg v1, .agg v2] w fun e w' => e = .returned (.bool r) ∧ Below w.heap.size w w' := by
  obtain ⟨k, n, bs, t, kids⟩ := a
  obtain ⟨k', n', bs', t', kids'⟩ := b
  obtain ⟨a1, c1, rfl, _, _⟩ := h1.out
  obtain ⟨a2, c2, rfl, _, _⟩ := h2.out
  obtain ⟨W, hW⟩ : ∃ W, (w.alloc (.cells #[.int .i64 k, .int .i64 n, .int .i64 bs, .string t, .slice a1 kids.length c1] 42)).alloc (.cells #[.int .i64 k', .int .i64 n', .int .i64 bs', .string t', .slice a2 kids'.length c2] 42) = W := ⟨_, rfl⟩
  have al : Below w.heap.size w W := by rw [← hW]; exact below2' w _ _
  have hWs : W.heap.size = w.heap.size + 2 := by rw [← hW]; simp
  have b1 : W.heap[w.heap.size + 1]? = some (.cells #[.int .i64 k', .int .i64 n', .int .i64 bs', .string t', .slice a2 kids'.length c2] 42 (0, 0)) := by
    rw [← hW]
    have e := blk_new' (w.alloc (.cells #[.int .i64 k, .int .i64 n, .int .i64 bs, .string t, .slice a1 kids.length c1] 42)) (.cells #[.int .i64 k', .int .i64 n', .int .i64 bs', .string t', .slice a2 kids'.length c2] 42)
    simpa using e
  have b0 : W.heap[w.heap.size]? = some (.cells #[.int .i64 k, .int .i64 n, .int .i64 bs, .string t, .slice a1 kids.length c1] 42 (0, 0)) := by
    rw [← hW]
    exact (((Below.refl _ _).alloc (Nat.le_refl _) _).block w.heap.size (by simp)).trans (blk_new' w _)
  have SK : Hid (∀ W', Below W.heap.size W W' → W'.cell? ⟨w.heap.size, 0, none⟩ = some (.int .i64 k) ∧ W'.cell? ⟨w.heap.size, 1, none⟩ = some (.int .i64 n) ∧ W'.cell? ⟨w.heap.size, 2, none⟩ = some (.int .i64 bs) ∧ W'.cell? ⟨w.heap.size, 3, none⟩ = some (.string t) ∧ W'.cell? ⟨w.heap.size, 4, none⟩ = some (.slice a1 kids.length c1) ∧ W'.cell? ⟨w.heap.size + 1, 0, none⟩ = some (.int .i64 k') ∧ W'.cell? ⟨w.heap.size + 1, 1, none⟩ = some (.int .i64 n') ∧ W'.cell? ⟨w.heap.size + 1, 2, none⟩ = some (.int .i64 bs') ∧ W'.cell? ⟨w.heap.size + 1, 3, none⟩ = some (.string t') ∧ W'.cell? ⟨w.heap.size + 1, 4, none⟩ = some (.slice a2 kids'.length c2)) := fun W' h => by
    have e0 := cellsAt ((h.block w.heap.size (by omega)).trans b0)
    have e1 := cellsAt ((h.block (w.heap.size + 1) (by omega)).trans b1)
    exact ⟨e0 0, e0 1, e0 2, e0 3, e0 4, e1 0, e1 1, e1 2, e1 3, e1 4⟩
  have AL := hideP al
  have HWe := hideP hW
  have HWS := hideP hWs
  clear hW al hWs b0 b1
  go_enter Try.func19, Try.ntmps19
  go_upto_region 1 with fail
  rw [HWe.out]
  clear HWe
  obtain ⟨z0, z1, z2, z3, z4, y0, y1, y2, y3, y4⟩ := SK.out W (Below.refl _ _)
  have hz := HWS.out
  go_wp2_with fail
  refine (spec_lit w W _ _ B1 B2 _ _ 42 r hr AL.out HWS.out h1 h2).mono ?_
  rintro e3 w3 ⟨rfl, bel3⟩
  go_wp2
  go_ret
  exact ⟨rfl, AL.out.trans (bel3.mono AL.out.size)⟩
end Go.Proofs.Ytfoaplihindeaag
