/- The contract of byteReader.word. -/
import Derived.Test.YtehccknppnmbkaaDoorRdI
import Derived.Test.YtehccknppnmbkaaDoorWordD
import Derived.Laws.Rows
namespace Go.Proofs.YtehccknppnmbkaaDoor
open Go.ChangeShapes Go.WideShapes Go.ChangeAt Go.RowKit
theorem newR (w : World) (o : Obj) : (w.alloc o).heap[w.heap.size]? = some o := by show (w.heap.push o)[w.heap.size]? = _; exact Array.getElem?_push_size
theorem keepR {W W' : World} {b : Nat} {o : Obj} (h : W.heap[b]? = some o) (bel : Below W.heap.size W W') : W'.heap[b]? = some o := (bel.block b (Array.getElem?_eq_some_iff.1 h).1).trans h
theorem keepB {W W' : World} {b c : Nat} {o : Obj} (h : W.heap[c]? = some o) (k : But b W W') (hne : c ≠ b) : W'.heap[c]? = some o := (k.block c (Array.getElem?_eq_some_iff.1 h).1 hne).trans h
def put5 (w : World) (g : Nat) (a0 a1 a2 a3 a4 : Value) : World := ((((w.setCell ⟨g, 0, none⟩ a0).setCell ⟨g, 1, none⟩ a1).setCell ⟨g, 2, none⟩ a2).setCell ⟨g, 3, none⟩ a3).setCell ⟨g, 4, none⟩ a4
theorem put5_but (w : World) (g : Nat) (a0 a1 a2 a3 a4 : Value) : But g w (put5 w g a0 a1 a2 a3 a4) := (((((But.refl g w).set 0 a0).set 1 a1).set 2 a2).set 3 a3).set 4 a4
theorem put5_box {w : World} {g : Nat} {x0 x1 x2 x3 x4 : Value} {T : TypeId} (h : w.heap[g]? = some (.cells #[x0, x1, x2, x3, x4] T (0, 0))) (a0 a1 a2 a3 a4 : Value) : (put5 w g a0 a1 a2 a3 a4).heap[g]? = some (.cells #[a0, a1, a2, a3, a4] T (0, 0)) := by
  have h1 := heap_setCell_same w g 0 _ T a0 h
  have h2 := heap_setCell_same _ g 1 _ T a1 h1
  have h3 := heap_setCell_same _ g 2 _ T a2 h2
  have h4 := heap_setCell_same _ g 3 _ T a3 h3
  have h5 := heap_setCell_same _ g 4 _ T a4 h4
  exact h5.trans rfl
def csAt (s : ByteArray) (i j : Nat) : Array Value := #[.int .i64 (if 0 < j then valI s i else 0), .int .i64 (if 1 < j then valI s (i + 1) else 0), .int .i64 (if 2 < j then valI s (i + 2) else 0), .int .i64 (if 3 < j then valI s (i + 3) else 0), .int .i64 (if 4 < j then valI s (i + 4) else 0)]
def ptA (n : Nat) : Array Value := #[.pointer (some ⟨n, 0, none⟩), .pointer (some ⟨n, 1, none⟩), .pointer (some ⟨n, 2, none⟩), .pointer (some ⟨n, 3, none⟩), .pointer (some ⟨n, 4, none⟩)]
theorem ptA_at (n : Nat) : ∀ j, j < 5 → (ptA n)[j]? = some (.pointer (some ⟨n, j, none⟩))
  | 0, _ => rfl
  | 1, _ => rfl
  | 2, _ => rfl
  | 3, _ => rfl
  | 4, _ => rfl
  | j + 5, h => by omega
theorem csAt_old (s : ByteArray) (i : Nat) : ∀ j, j < 5 → (csAt s i j)[j]? = some (.int .i64 0)
  | 0, _ => by simp [csAt]
  | 1, _ => by simp [csAt]
  | 2, _ => by simp [csAt]
  | 3, _ => by simp [csAt]
  | 4, _ => by simp [csAt]
  | j + 5, h => by omega
theorem csAt_set (s : ByteArray) (i : Nat) : ∀ j, j < 5 → (csAt s i j).setIfInBounds j (.int .i64 (valI s (i + j))) = csAt s i (j + 1)
  | 0, _ => by simp [csAt]
  | 1, _ => by simp [csAt]
  | 2, _ => by simp [csAt]
  | 3, _ => by simp [csAt]
  | 4, _ => by simp [csAt]
  | j + 5, h => by omega
set_option maxHeartbeats 8000000 in
theorem word_any (s : ByteArray) (i b : Nat) (w : World) (hb : w.heap[b]? = some (.cells #[.string (restAt s i)] 102 (0, 0))) :
    Calls Tryd.prog 57 #[.pointer (some ⟨b, 0, none⟩)] w fun e w' => e = .returned (.agg #[.int .i64 (valI s i), .int .i64 (valI s (i + 1)), .int .i64 (valI s (i + 2)), .int .i64 (valI s (i + 3)), .int .i64 (valI s (i + 4))]) ∧ But b w w' ∧ w'.heap[b]? = some (.cells #[.string (restAt s (i + 5))] 102 (0, 0)) := by
  have hlt : b < w.heap.size := (Array.getElem?_eq_some_iff.1 hb).1
  obtain ⟨n, hn⟩ : ∃ n, w.heap.size = n := ⟨_, rfl⟩
  go_enter Tryd.func57, Tryd.ntmps57
  go_wp2
  have a1 := (Below.refl w.heap.size w).alloc (Nat.le_refl _) (.cells #[.int .i64 0, .int .i64 0, .int .i64 0, .int .i64 0, .int .i64 0] 69)
  have a2 := (Below.refl _ (w.alloc (.cells #[.int .i64 0, .int .i64 0, .int .i64 0, .int .i64 0, .int .i64 0] 69))).alloc (Nat.le_refl _) (.cells #[.int .i64 0, .int .i64 0, .int .i64 0, .int .i64 0, .int .i64 0] 69)
  have a3 := (Below.refl _ ((w.alloc (.cells #[.int .i64 0, .int .i64 0, .int .i64 0, .int .i64 0, .int .i64 0] 69)).alloc (.cells #[.int .i64 0, .int .i64 0, .int .i64 0, .int .i64 0, .int .i64 0] 69))).alloc (Nat.le_refl _) (.cells (ptA (n + 1)) 130)
  have Z1 := hideP (keepR (keepR (newR w (.cells #[.int .i64 0, .int .i64 0, .int .i64 0, .int .i64 0, .int .i64 0] 69)) a2) a3)
  have Z2 := hideP (keepR (newR (w.alloc (.cells #[.int .i64 0, .int .i64 0, .int .i64 0, .int .i64 0, .int .i64 0] 69)) (.cells #[.int .i64 0, .int .i64 0, .int .i64 0, .int .i64 0, .int .i64 0] 69)) a3)
  have Z3 := hideP (newR ((w.alloc (.cells #[.int .i64 0, .int .i64 0, .int .i64 0, .int .i64 0, .int .i64 0] 69)).alloc (.cells #[.int .i64 0, .int .i64 0, .int .i64 0, .int .i64 0, .int .i64 0] 69)) (.cells (ptA (n + 1)) 130))
  have ZB := hideP (keepR (keepR (keepR hb a1) a2) a3)
  have BW : Hid (But b w (((w.alloc (.cells #[.int .i64 0, .int .i64 0, .int .i64 0, .int .i64 0, .int .i64 0] 69)).alloc (.cells #[.int .i64 0, .int .i64 0, .int .i64 0, .int .i64 0, .int .i64 0] 69)).alloc (.cells (ptA (n + 1)) 130))) := (((But.refl b w).on a1).on a2).on a3
  simp only [World.size_alloc, hn] at Z1 Z2 Z3
  have E0 : (((w.alloc (.cells #[.int .i64 0, .int .i64 0, .int .i64 0, .int .i64 0, .int .i64 0] 69)).alloc (.cells #[.int .i64 0, .int .i64 0, .int .i64 0, .int .i64 0, .int .i64 0] 69)).alloc (.cells #[.pointer (some ⟨n + 1, 0, none⟩), .pointer (some ⟨n + 1, 1, none⟩), .pointer (some ⟨n + 1, 2, none⟩), .pointer (some ⟨n + 1, 3, none⟩), .pointer (some ⟨n + 1, 4, none⟩)] 130)) = ((w.alloc (.cells #[.int .i64 0, .int .i64 0, .int .i64 0, .int .i64 0, .int .i64 0] 69)).alloc (.cells #[.int .i64 0, .int .i64 0, .int .i64 0, .int .i64 0, .int .i64 0] 69)).alloc (.cells (ptA (n + 1)) 130) := rfl
  rw [E0]
  obtain ⟨W0, hW0⟩ : ∃ W, ((w.alloc (.cells #[.int .i64 0, .int .i64 0, .int .i64 0, .int .i64 0, .int .i64 0] 69)).alloc (.cells #[.int .i64 0, .int .i64 0, .int .i64 0, .int .i64 0, .int .i64 0] 69)).alloc (.cells (ptA (n + 1)) 130) = W := ⟨_, rfl⟩
  rw [hW0] at Z1 Z2 Z3 ZB BW ⊢
  clear hW0 E0 a1 a2 a3 hb
  go_loopg [5, 14] 5 (fun gk x q wr => ∃ (j : Nat), gk + j = 5 ∧ q = .int .i64 j ∧ Hid (wr.heap[b]? = some (.cells #[.string (restAt s (i + j))] 102 (0, 0))) ∧ Hid (wr.heap[n]? = some (.cells #[.int .i64 0, .int .i64 0, .int .i64 0, .int .i64 0, .int .i64 0] 69 (0, 0))) ∧ Hid (wr.heap[n + 1]? = some (.cells (csAt s i j) 69 (0, 0))) ∧ Hid (wr.heap[n + 1 + 1]? = some (.cells (ptA (n + 1)) 130 (0, 0))) ∧ Hid (But b w wr))
  case atStart => exact ⟨0, rfl, rfl, ZB.out, Z1.out, by show W0.heap[n + 1]? = _; rw [show csAt s i 0 = #[.int .i64 0, .int .i64 0, .int .i64 0, .int .i64 0, .int .i64 0] by simp [csAt]]; exact Z2.out, Z3.out, BW.out⟩
  case round =>
    obtain ⟨j, hj, rfl, zb, z1, z2, z3, bw⟩ := hrel
    clear ZB Z1 Z2 Z3 BW
    by_cases hlj : j < 5
    · have c3 := (cells_of z3.out).1 j
      rw [ptA_at (n + 1) j hlj] at c3
      have l3 : n + 1 + 1 < wr.heap.size := (Array.getElem?_eq_some_iff.1 z3.out).1
      go_wp2_with fail
      refine (number_any s (i + j) b wr zb.out).mono ?_
      rintro e3 w3 ⟨rfl, b3, zb3⟩
      have y1 := hideP (keepB z1.out b3 (by omega))
      have y2 := hideP (keepB z2.out b3 (by omega))
      have y3 := hideP (keepB z3.out b3 (by omega))
      have bw3 : Hid (But b w w3) := hideP ⟨b3.os.trans bw.out.os, b3.tape.trans bw.out.tape, b3.output.trans bw.out.output, Nat.le_trans bw.out.size b3.size, fun k hk hne => (b3.block k (Nat.lt_of_lt_of_le hk bw.out.size) hne).trans (bw.out.block k hk hne)⟩
      have f2 := (cells_of y2.out).2 j
      have d2 := (cells_of y2.out).1 j
      rw [csAt_old s i j hlj] at d2
      have y2' : Hid ((w3.setCell ⟨n + 1, j, none⟩ (.int .i64 (valI s (i + j)))).heap[n + 1]? = some (.cells (csAt s i (j + 1)) 69 (0, 0))) := by
        show _ = _
        rw [heap_setCell_same w3 (n + 1) j _ _ _ y2.out, csAt_set s i j hlj]
      have bs := (But.refl (n + 1) w3).set j (.int .i64 (valI s (i + j)))
      have y1' := hideP (keepB y1.out bs (by omega))
      have y3' := hideP (keepB y3.out bs (by omega))
      have yb' := hideP (keepB zb3 bs (by omega))
      have bw' : Hid (But b w (w3.setCell ⟨n + 1, j, none⟩ (.int .i64 (valI s (i + j))))) := hideP ⟨bw3.out.os, bw3.out.tape, bw3.out.output, Nat.le_trans bw3.out.size bs.size, fun k hk hne => (bs.block k (Nat.lt_of_lt_of_le hk bw3.out.size) (by omega)).trans (bw3.out.block k hk hne)⟩
      obtain ⟨V, hV⟩ : ∃ V, valI s (i + j) = V := ⟨_, rfl⟩
      rw [hV] at y2' y1' y3' yb' bw' ⊢
      clear hV bs y1 y2 y3 bw3 zb3 b3 zb z1 z2 z3 bw
      go_wp2
      go_roundg (5 - (j + 1))
      case rel => exact ⟨j + 1, by omega, by go_num, yb'.out, y1'.out, y2'.out, y3'.out, bw'.out⟩
      case measure => omega
    · have hj5 : j = 5 := by omega
      subst hj5
      have c0 := (cells_of z2.out).1 0
      have c1 := (cells_of z2.out).1 1
      have c2 := (cells_of z2.out).1 2
      have c3 := (cells_of z2.out).1 3
      have c4 := (cells_of z2.out).1 4
      simp [csAt] at c0 c1 c2 c3 c4
      have d0 := (cells_of z1.out).1 0
      have d1 := (cells_of z1.out).1 1
      have d2 := (cells_of z1.out).1 2
      have d3 := (cells_of z1.out).1 3
      have d4 := (cells_of z1.out).1 4
      simp at d0 d1 d2 d3 d4
      have f1 := (cells_of z1.out).2
      obtain ⟨v0, h0⟩ : ∃ V, valI s i = V := ⟨_, rfl⟩
      obtain ⟨v1, h1⟩ : ∃ V, valI s (i + 1) = V := ⟨_, rfl⟩
      obtain ⟨v2, h2⟩ : ∃ V, valI s (i + 2) = V := ⟨_, rfl⟩
      obtain ⟨v3, h3⟩ : ∃ V, valI s (i + 3) = V := ⟨_, rfl⟩
      obtain ⟨v4, h4⟩ : ∃ V, valI s (i + 4) = V := ⟨_, rfl⟩
      rw [h0] at c0
      have H0 := hideP h0
      rw [h1] at c1
      have H1 := hideP h1
      rw [h2] at c2
      have H2 := hideP h2
      rw [h3] at c3
      have H3 := hideP h3
      rw [h4] at c4
      have H4 := hideP h4
      have P2 := hideP (put5_box z1.out (.int .i64 v0) (.int .i64 v1) (.int .i64 v2) (.int .i64 v3) (.int .i64 v4))
      have pb := put5_but wr n (.int .i64 v0) (.int .i64 v1) (.int .i64 v2) (.int .i64 v3) (.int .i64 v4)
      have PB := hideP (keepB zb.out pb (by omega))
      have BE : Hid (But b w (put5 wr n (.int .i64 v0) (.int .i64 v1) (.int .i64 v2) (.int .i64 v3) (.int .i64 v4))) := hideP ⟨bw.out.os, bw.out.tape, bw.out.output, Nat.le_trans bw.out.size pb.size, fun k hk hne => (pb.block k (Nat.lt_of_lt_of_le hk bw.out.size) (by omega)).trans (bw.out.block k hk hne)⟩
      clear pb h0 h1 h2 h3 h4 zb z1 z2 z3 bw
      go_wp2
      refine bodyPost_ret (results_cell_row rfl _ _ n 69 #[.int .i64 v0, .int .i64 v1, .int .i64 v2, .int .i64 v3, .int .i64 v4] (0, 0) _ rfl P2.out Tryd.underlying69 rfl (by kernel_rfl)) rfl ?_
      exact ⟨by rw [H0.out, H1.out, H2.out, H3.out, H4.out], BE.out, PB.out⟩
end Go.Proofs.YtehccknppnmbkaaDoor
