/- The contracts of the laws' eqPlaceS, markPlaceS and heldPlaceS over a list of places that a call owns. -/
import Derived.Test.YtgiboadcfnfooaaOwnPl
import Derived.Test.YtgiboadcfnfooaaMkAll
import Derived.Deep.RegionHeld3
import Derived.Deep.CutRange
namespace Go.Proofs.Ytgiboadcfnfooaa
open Go.ChangeShapes Go.WideShapes Go.ChangeAt Go.RowKit
theorem OwnE.over {α : Type} {E : Elem α} {w w' : World} {A B T : Nat} {v : Value} {l : List α} (h : OwnE E w A v l) (ho : Over B T w w') (hne : ∀ g, v.ownBlock = some g → g < B ∨ T ≤ g) : OwnE E w' A v l :=
  h.blk (fun g hg hlt => ho.out g hlt (hne g hg))
/-- The first N cells of the list's block hold the numbers from k on. -/
def MkdE (w : World) (v : Value) (T : TypeId) (n k N : Nat) : Prop := ∃ g cap cu, v = .slice (some ⟨g, 0, none⟩) n cap ∧ w.heap[g]? = some (.cells cu T (0, 0)) ∧ ∀ r, r < N → cu[r]? = some (.int .i64 ((k + r : Nat) : Int))
theorem MkdE.stays {w w' : World} {v : Value} {T : TypeId} {n k N : Nat} (h : MkdE w v T n k N) (bel : Below w.heap.size w w') : MkdE w' v T n k N := by
  obtain ⟨g, cap, cu, hv, hh, hx⟩ := h
  exact ⟨g, cap, cu, hv, (bel.block g (Array.getElem?_eq_some_iff.1 hh).1).trans hh, hx⟩
theorem pl_at {w : World} {B g n cap : Nat} {l : List Pla} (h : OwnE PlE w B (.slice (some ⟨g, 0, none⟩) n cap) l) (j : Nat) (hj : j < l.length) :
    w.cell? ⟨g, j * 4, none⟩ = some (.int .i64 l[j].r) ∧ w.cell? ⟨g, j * 4 + 1, none⟩ = some (.int .i64 l[j].i) ∧ w.cell? ⟨g, j * 4 + 2, none⟩ = some (.int .i64 l[j].j) ∧ w.cell? ⟨g, j * 4 + 3, none⟩ = some (.int .i64 l[j].off) := by
  have h0 := h.at PlOk j hj 0 (by decide)
  have h1 := h.at PlOk j hj 1 (by decide)
  have h2 := h.at PlOk j hj 2 (by decide)
  have h3 := h.at PlOk j hj 3 (by decide)
  simp [PlE] at h0 h1 h2 h3
  exact ⟨h0, h1, h2, h3⟩
theorem eqPl_same (a b c d : Int) (w : World) :
    Calls Try.prog 40 #[.agg #[.int .i64 a, .int .i64 b, .int .i64 c, .int .i64 d], .agg #[.int .i64 a, .int .i64 b, .int .i64 c, .int .i64 d]] w fun en w' => en = .returned (.bool true) ∧ Below w.heap.size w w' := by
  go_enter Try.func40, Try.ntmps40
  go_wp2
  go_ret
  exact ⟨rfl, below2 w _ _⟩
set_option maxHeartbeats 2000000 in
theorem eqPlS_same (es : List Pla) (w : World) (B1 B2 : Nat) (v1 v2 : Value) (h1 : OwnE PlE w B1 v1 es) (h2 : OwnE PlE w B2 v2 es) :
    Calls Try.prog 17 #[v1, v2] w fun en w' => en = .returned (.bool true) ∧ Below w.heap.size w w' := by
  have hm := maxLen_lt
  have hl : es.length ≤ maxLen := by obtain ⟨_, _, _, _, _, _, h3, h4, _⟩ := h1.parts PlOk; omega
  obtain ⟨g1, c1, rfl, _⟩ := id h1
  obtain ⟨g2, c2, rfl, _⟩ := id h2
  have H1 := hideP h1
  have H2 := hideP h2
  clear h1 h2
  go_enter Try.func17, Try.ntmps17
  go_wp2
  go_loopw [5] (fun i wr => ∃ j : Nat, j ≤ es.length ∧ i = .int .i64 j ∧ Hid (Below w.heap.size w wr)) (fun i _ => es.length - (intOf i).toNat)
  case atStart => exact ⟨0, Nat.zero_le _, rfl, Below.refl _ _⟩
  case round =>
    obtain ⟨j, hj, rfl, bel⟩ := hrel
    by_cases hlt : j < es.length
    · obtain ⟨k0, k1, k2, k3⟩ := pl_at (H1.out.stays bel.out) j hlt
      obtain ⟨m0, m1, m2, m3⟩ := pl_at (H2.out.stays bel.out) j hlt
      have lt1 := ((H1.out.stays bel.out).low g1 rfl).2
      have lt2 := ((H2.out.stays bel.out).low g2 rfl).2
      obtain ⟨⟨a, b, c, d⟩, he⟩ : ∃ x, es[j] = x := ⟨_, rfl⟩
      rw [he] at k0 k1 k2 k3 m0 m1 m2 m3
      simp only at k0 k1 k2 k3 m0 m1 m2 m3
      have SK : Hid (∀ W', Below wr.heap.size wr W' → W'.cell? ⟨g1, j * 4, none⟩ = some (.int .i64 a) ∧ W'.cell? ⟨g1, j * 4 + 1, none⟩ = some (.int .i64 b) ∧ W'.cell? ⟨g1, j * 4 + 2, none⟩ = some (.int .i64 c) ∧ W'.cell? ⟨g1, j * 4 + 3, none⟩ = some (.int .i64 d) ∧ W'.cell? ⟨g2, j * 4, none⟩ = some (.int .i64 a) ∧ W'.cell? ⟨g2, j * 4 + 1, none⟩ = some (.int .i64 b) ∧ W'.cell? ⟨g2, j * 4 + 2, none⟩ = some (.int .i64 c) ∧ W'.cell? ⟨g2, j * 4 + 3, none⟩ = some (.int .i64 d)) := fun W' h =>
        ⟨(h.cell (p := ⟨g1, j * 4, none⟩) lt1).trans k0, (h.cell (p := ⟨g1, j * 4 + 1, none⟩) lt1).trans k1, (h.cell (p := ⟨g1, j * 4 + 2, none⟩) lt1).trans k2, (h.cell (p := ⟨g1, j * 4 + 3, none⟩) lt1).trans k3, (h.cell (p := ⟨g2, j * 4, none⟩) lt2).trans m0, (h.cell (p := ⟨g2, j * 4 + 1, none⟩) lt2).trans m1, (h.cell (p := ⟨g2, j * 4 + 2, none⟩) lt2).trans m2, (h.cell (p := ⟨g2, j * 4 + 3, none⟩) lt2).trans m3⟩
      clear k0 k1 k2 k3 m0 m1 m2 m3 lt1 lt2 he
      go_upto_region 6 with fail
      go_region_held3 (fun W' => W'.cell? ⟨g1, j * 4, none⟩ = some (.int .i64 a) ∧ W'.cell? ⟨g1, j * 4 + 1, none⟩ = some (.int .i64 b) ∧ W'.cell? ⟨g1, j * 4 + 2, none⟩ = some (.int .i64 c) ∧ W'.cell? ⟨g1, j * 4 + 3, none⟩ = some (.int .i64 d) ∧ W'.cell? ⟨g2, j * 4, none⟩ = some (.int .i64 a) ∧ W'.cell? ⟨g2, j * 4 + 1, none⟩ = some (.int .i64 b) ∧ W'.cell? ⟨g2, j * 4 + 2, none⟩ = some (.int .i64 c) ∧ W'.cell? ⟨g2, j * 4 + 3, none⟩ = some (.int .i64 d)) (first | exact SK.out _ (Below.refl _ _).drew | exact SK.out _ HBa.out) (first
        | (go_at_call 40; refine (eqPl_same a b c d _).mono ?_; rintro e1 w1 ⟨rfl, bel1⟩; have HBa := hideP ((Below.refl wr.heap.size wr).drew.trans (bel1.mono (Nat.le_refl _))); clear bel1))
      all_goals
        have HB := hideP (below_trans bel.out HBa.out)
        clear HBa SK
        go_wp2
        go_roundw
        case rel => exact ⟨j + 1, by omega, by go_num, HB.out⟩
        case measure => simp [intOf]; omega
    · have hjn : j = es.length := by omega
      subst hjn
      go_wp2
      go_ret
      exact ⟨rfl, bel.out⟩
/-- One mark more. -/
def MkC (wr : World) (g : Nat) (T : TypeId) (S k n : Nat) : Prop := ∃ cu : Array Value, wr.heap[g]? = some (.cells cu T (0, 0)) ∧ cu.size = S ∧ ∀ r, r < n → cu[r]? = some (.int .i64 ((k + r : Nat) : Int))
theorem MkC.more {wr : World} {g : Nat} {T : TypeId} {S k n : Nat} (h : MkC wr g T S k n) (hn : n < S) {x : Int} (hx : x = ((k + n : Nat) : Int)) : MkC (wr.setCell ⟨g, n, none⟩ (.int .i64 x)) g T S k (n + 1) := by
  obtain ⟨cu, h1, h2, h3⟩ := h
  subst hx
  refine ⟨_, heap_setCell_same _ g n _ _ _ h1, by simpa using h2, fun r hr => ?_⟩
  rw [Array.getElem?_setIfInBounds]
  by_cases he : n = r
  · subst he; rw [if_pos rfl, if_pos (by omega)]
  · rw [if_neg he]; exact h3 r (by omega)
theorem MkC.cell {wr : World} {g : Nat} {T : TypeId} {S k n : Nat} (h : MkC wr g T S k n) (i : Nat) (hi : i < S) : (∃ u, wr.cell? ⟨g, i, none⟩ = some u) ∧ wr.frozen? ⟨g, i, none⟩ = false := by
  obtain ⟨cu, h1, h2, _⟩ := h
  exact ⟨⟨cu[i]'(by omega), by simp [World.cell?, h1, show i < cu.size by omega]⟩, by simp [World.frozen?, h1]⟩
theorem MkC.read {wr : World} {g : Nat} {T : TypeId} {S k n : Nat} (h : MkC wr g T S k n) (i : Nat) (hi : i < n) : wr.cell? ⟨g, i, none⟩ = some (.int .i64 ((k + i : Nat) : Int)) := by
  obtain ⟨cu, h1, _, h3⟩ := h
  simp only [World.cell?, h1]; exact h3 i hi
set_option maxRecDepth 100000 in
set_option maxHeartbeats 4000000 in
theorem markPlS_any (l : List Pla) (w : World) (B k : Nat) (v : Value) (h : OwnE PlE w B v l) (hk : k ≤ 1000000000) (hl : l.length ≤ 10000000) :
    Calls Try.prog 18 #[v, .int .i64 k] w fun en w' => en = .returned (.int .i64 ((k + l.length * 4 : Nat) : Int)) ∧ MkdE w' v 44 l.length k (l.length * 4) ∧ ∃ g, v.ownBlock = some g ∧ But g w w' := by
  obtain ⟨g, cap, cur, rfl, hB, hh, hc, hm, hs, hx⟩ := h.parts PlOk
  have hM := maxLen_lt
  clear h hx
  replace hh : w.heap[g]? = some (.cells cur 44 (0, 0)) := hh
  replace hs : cur.size = cap * 4 := hs
  obtain ⟨N, hN⟩ : ∃ N, l.length = N := ⟨_, rfl⟩
  rw [hN] at hc hl ⊢
  clear hN
  go_enter Try.func18, Try.ntmps18
  go_wp2
  go_loopw [1, 5] (fun q i wr => ∃ j : Nat, j ≤ N ∧ i = .int .i64 j ∧ q = .int .i64 ((k + j * 4 : Nat) : Int) ∧ Hid (But g w wr) ∧ Hid (MkC wr g 44 (cap * 4) k (j * 4))) (fun _ i _ => N - (intOf i).toNat)
  case atStart => exact ⟨0, Nat.zero_le _, rfl, by simp, But.refl _ _, cur, hh, hs, fun r hr => absurd hr (by omega)⟩
  case round =>
    obtain ⟨j, hj, rfl, rfl, hb, C⟩ := hrel
    by_cases hlt : j < N
    · obtain ⟨⟨u0, hu0⟩, hf0⟩ := C.out.cell (j * 4) (by omega)
      obtain ⟨⟨u1, hu1⟩, hf1⟩ := C.out.cell (j * 4 + 1) (by omega)
      obtain ⟨⟨u2, hu2⟩, hf2⟩ := C.out.cell (j * 4 + 2) (by omega)
      obtain ⟨⟨u3, hu3⟩, hf3⟩ := C.out.cell (j * 4 + 3) (by omega)
      clear hh hs
      go_wp2
      go_roundw
      case rel => exact ⟨j + 1, by omega, by go_num, by go_num, (((hb.out.set _ _).set _ _).set _ _).set _ _, by
        have := (((C.out.more (by omega) (x := (k : Int) + (j : Int) * 4) (by omega)).more (by omega) (x := (k : Int) + (j : Int) * 4 + 1) (by omega)).more (by omega) (x := (k : Int) + (j : Int) * 4 + 1 + 1) (by omega)).more (by omega) (x := (k : Int) + (j : Int) * 4 + 1 + 1 + 1) (by omega)
        show MkC _ _ _ _ _ _
        rw [show (j + 1) * 4 = j * 4 + 1 + 1 + 1 + 1 by omega]; exact this⟩
      case measure => simp [intOf]; omega
    · have hjn : j = N := by omega
      subst hjn
      go_wp2
      go_ret
      obtain ⟨cu, c1, c2, c3⟩ := C.out
      exact ⟨rfl, ⟨g, cap, cu, rfl, c1, c3⟩, g, rfl, hb.out⟩
set_option maxRecDepth 100000 in
set_option maxHeartbeats 4000000 in
theorem heldPlS_any (N : Nat) (w : World) (k : Nat) (v : Value) (h : MkdE w v 44 N k (N * 4)) (hk : k ≤ 1000000000) (hl : N ≤ 10000000) :
    Calls Try.prog 19 #[v, .int .i64 k] w fun en w' => en = .returned (.int .i64 ((k + N * 4 : Nat) : Int)) ∧ w' = w := by
  obtain ⟨g, cap, cu, rfl, hh, hx⟩ := h
  have C : Hid (MkC w g 44 cu.size k (N * 4)) := ⟨cu, hh, rfl, hx⟩
  clear hh hx
  go_enter Try.func19, Try.ntmps19
  go_wp2
  go_loop [1, 5] (fun q i => ∃ j : Nat, j ≤ N ∧ i = .int .i64 j ∧ q = .int .i64 ((k + j * 4 : Nat) : Int)) (fun _ i => N - (intOf i).toNat)
  case atStart => exact ⟨0, Nat.zero_le _, rfl, by simp⟩
  case round =>
    obtain ⟨j, hj, rfl, rfl⟩ := hrel
    by_cases hlt : j < N
    · have hu0 := C.out.read (j * 4) (by omega)
      have hu1 := C.out.read (j * 4 + 1) (by omega)
      have hu2 := C.out.read (j * 4 + 2) (by omega)
      have hu3 := C.out.read (j * 4 + 3) (by omega)
      rw [show ((k + j * 4 : Nat) : Int) = (k : Int) + (j : Int) * 4 by omega] at hu0
      rw [show ((k + (j * 4 + 1) : Nat) : Int) = (k : Int) + (j : Int) * 4 + 1 by omega] at hu1
      rw [show ((k + (j * 4 + 2) : Nat) : Int) = (k : Int) + (j : Int) * 4 + 1 + 1 by omega] at hu2
      rw [show ((k + (j * 4 + 3) : Nat) : Int) = (k : Int) + (j : Int) * 4 + 1 + 1 + 1 by omega] at hu3
      go_wp2
      go_round
      case rel => exact ⟨j + 1, by omega, by go_num, by go_num⟩
      case measure => simp [intOf]; omega
    · have hjn : j = N := by omega
      subst hjn
      go_wp2
      go_ret
      exact ⟨rfl, rfl⟩
end Go.Proofs.Ytgiboadcfnfooaa
