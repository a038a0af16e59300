/- The contracts of the laws' eqIntA2S, markIntA2S and heldIntA2S over a list of pairs that a call owns. -/
import Derived.Test.YtooaoankloocmaaA2G
import Derived.Test.YtooaoankloocmaaMkPl2
namespace Go.Proofs.Ytooaoankloocmaa
open Go.ChangeShapes Go.WideShapes Go.ChangeAt Go.RowKit
theorem a2_at {w : World} {B g n cap : Nat} {l : List (Nat × Nat)} (h : OwnE A2E w B (.slice (some ⟨g, 0, none⟩) n cap) l) (j : Nat) (hj : j < l.length) :
    w.cell? ⟨g, j * 2, none⟩ = some (.int .i64 (l[j].1 : Int)) ∧ w.cell? ⟨g, j * 2 + 1, none⟩ = some (.int .i64 (l[j].2 : Int)) := by
  have h0 := h.at A2Ok j hj 0 (by decide)
  have h1 := h.at A2Ok j hj 1 (by decide)
  simp [A2E] at h0 h1
  exact ⟨h0, h1⟩
set_option maxRecDepth 100000 in
set_option maxHeartbeats 4000000 in
theorem eqA2_same (a b : Int) (w : World) :
    Calls Try.prog 55 #[.agg #[.int .i64 a, .int .i64 b], .agg #[.int .i64 a, .int .i64 b]] w fun en w' => en = .returned (.bool true) ∧ Below w.heap.size w w' := by
  have BW := hideP (below2 w (.cells #[.int .i64 a, .int .i64 b] 76) (.cells #[.int .i64 a, .int .i64 b] 76))
  have h2 := two (Below.refl ((w.alloc (.cells #[.int .i64 a, .int .i64 b] 76)).alloc (.cells #[.int .i64 a, .int .i64 b] 76)).heap.size _)
  have Q0 := hideP h2.1
  have Q1 := hideP h2.2.1
  clear h2
  go_enter Try.func55, Try.ntmps55
  go_wp2
  go_loopg [5] 2 (fun gk i wr => ∃ j : Nat, gk + j = 2 ∧ i = .int .i64 j ∧ Hid (Below ((w.alloc (.cells #[.int .i64 a, .int .i64 b] 76)).alloc (.cells #[.int .i64 a, .int .i64 b] 76)).heap.size ((w.alloc (.cells #[.int .i64 a, .int .i64 b] 76)).alloc (.cells #[.int .i64 a, .int .i64 b] 76)) wr))
  case atStart => exact ⟨0, rfl, rfl, Below.refl _ _⟩
  case round =>
    obtain ⟨j, hj, rfl, hb⟩ := hrel
    by_cases hlt : j < 2
    · have p0 := (cells_of (keepB2 Q0.out hb.out)).1
      have p1 := (cells_of (keepB2 Q1.out hb.out)).1
      rcases (by omega : j = 0 ∨ j = 1) with rfl | rfl
      · have x0 := p0 0
        have x1 := p1 0
        simp at x0 x1
        clear p0 p1
        go_wp2
        go_region
        all_goals
          go_wp2
          go_roundg 1
          case rel => exact ⟨1, by omega, by go_num, hb.out.drew⟩
          case measure => omega
      · have x0 := p0 1
        have x1 := p1 1
        simp at x0 x1
        clear p0 p1
        go_wp2
        go_region
        all_goals
          go_wp2
          go_roundg 0
          case rel => exact ⟨2, by omega, by go_num, hb.out.drew⟩
          case measure => omega
    · obtain rfl : j = 2 := by omega
      go_wp2
      go_ret
      exact ⟨rfl, below_trans BW.out hb.out⟩
set_option maxRecDepth 100000 in
set_option maxHeartbeats 2000000 in
theorem eqA2S_same (es : List (Nat × Nat)) (w : World) (B1 B2 : Nat) (v1 v2 : Value) (h1 : OwnE A2E w B1 v1 es) (h2 : OwnE A2E w B2 v2 es) :
    Calls Try.prog 29 #[v1, v2] w fun en w' => en = .returned (.bool true) ∧ Below w.heap.size w w' := by
  have hm := maxLen_lt
  have hl : es.length ≤ maxLen := by obtain ⟨_, _, _, _, _, _, h3, h4, _⟩ := h1.parts A2Ok; omega
  obtain ⟨g1, c1, rfl, _⟩ := id h1
  obtain ⟨g2, c2, rfl, _⟩ := id h2
  have H1 := hideP h1
  have H2 := hideP h2
  clear h1 h2
  go_enter Try.func29, Try.ntmps29
  go_wp2
  go_loopw [5] (fun i wr => ∃ j : Nat, j ≤ es.length ∧ i = .int .i64 j ∧ Hid (Below w.heap.size w wr)) (fun i _ => es.length - (intOf i).toNat)
  case atStart => exact ⟨0, Nat.zero_le _, rfl, Below.refl _ _⟩
  case round =>
    obtain ⟨j, hj, rfl, bel⟩ := hrel
    by_cases hlt : j < es.length
    · obtain ⟨k0, k1⟩ := a2_at (H1.out.stays bel.out) j hlt
      obtain ⟨m0, m1⟩ := a2_at (H2.out.stays bel.out) j hlt
      have lt1 := ((H1.out.stays bel.out).low g1 rfl).2
      have lt2 := ((H2.out.stays bel.out).low g2 rfl).2
      obtain ⟨⟨a0, b0⟩, he⟩ : ∃ x, es[j] = x := ⟨_, rfl⟩
      rw [he] at k0 k1 m0 m1
      simp only at k0 k1 m0 m1
      obtain ⟨a, ha⟩ : ∃ a : Int, (a0 : Int) = a := ⟨_, rfl⟩
      obtain ⟨b, hb⟩ : ∃ b : Int, (b0 : Int) = b := ⟨_, rfl⟩
      rw [ha] at k0 m0
      rw [hb] at k1 m1
      have SK : Hid (∀ W', Below wr.heap.size wr W' → W'.cell? ⟨g1, j * 2, none⟩ = some (.int .i64 a) ∧ W'.cell? ⟨g1, j * 2 + 1, none⟩ = some (.int .i64 b) ∧ W'.cell? ⟨g2, j * 2, none⟩ = some (.int .i64 a) ∧ W'.cell? ⟨g2, j * 2 + 1, none⟩ = some (.int .i64 b)) := fun W' h =>
        ⟨(h.cell (p := ⟨g1, j * 2, none⟩) lt1).trans k0, (h.cell (p := ⟨g1, j * 2 + 1, none⟩) lt1).trans k1, (h.cell (p := ⟨g2, j * 2, none⟩) lt2).trans m0, (h.cell (p := ⟨g2, j * 2 + 1, none⟩) lt2).trans m1⟩
      clear k0 k1 m0 m1 lt1 lt2 he ha hb
      go_upto_region 6 with fail
      go_region_held3 (fun W' => W'.cell? ⟨g1, j * 2, none⟩ = some (.int .i64 a) ∧ W'.cell? ⟨g1, j * 2 + 1, none⟩ = some (.int .i64 b) ∧ W'.cell? ⟨g2, j * 2, none⟩ = some (.int .i64 a) ∧ W'.cell? ⟨g2, j * 2 + 1, none⟩ = some (.int .i64 b)) (first | exact SK.out _ (Below.refl _ _).drew | exact SK.out _ HBa.out) (first
        | (go_at_call 55; refine (eqA2_same a b _).mono ?_; rintro e1 w1 ⟨rfl, bel1⟩; have HBa := hideP ((Below.refl wr.heap.size wr).drew.trans (bel1.mono (Nat.le_refl _))); clear bel1))
      all_goals
        have HB := hideP (below_trans bel.out HBa.out)
        clear HBa SK
        go_wp2
        go_roundw
        case rel => exact ⟨j + 1, by omega, by go_num, HB.out⟩
        case measure => simp [intOf]; omega
    · have hjn : j = es.length := by omega
      subst hjn
      go_wp2
      go_ret
      exact ⟨rfl, bel.out⟩
set_option maxRecDepth 100000 in
set_option maxHeartbeats 4000000 in
theorem markA2S_any (l : List (Nat × Nat)) (w : World) (B k : Nat) (v : Value) (h : OwnE A2E w B v l) (hk : k ≤ 1000000000) (hl : l.length ≤ 10000000) :
    Calls Try.prog 30 #[v, .int .i64 k] w fun en w' => en = .returned (.int .i64 ((k + l.length * 2 : Nat) : Int)) ∧ MkdE w' v 76 l.length k (l.length * 2) ∧ ∃ g, v.ownBlock = some g ∧ But g w w' := by
  obtain ⟨g, cap, cur, rfl, hB, hh, hc, hm, hs, hx⟩ := h.parts A2Ok
  have hM := maxLen_lt
  clear h hx
  replace hh : w.heap[g]? = some (.cells cur 76 (0, 0)) := hh
  replace hs : cur.size = cap * 2 := hs
  obtain ⟨N, hN⟩ : ∃ N, l.length = N := ⟨_, rfl⟩
  rw [hN] at hc hl ⊢
  clear hN
  go_enter Try.func30, Try.ntmps30
  go_wp2
  go_loopg [1, 5] N (fun gk q i wr => ∃ j : Nat, gk + j = N ∧ i = .int .i64 j ∧ q = .int .i64 ((k + j * 2 : Nat) : Int) ∧ Hid (But g w wr) ∧ Hid (MkC wr g 76 (cap * 2) k (j * 2)))
  case atStart => exact ⟨0, rfl, rfl, by simp, But.refl _ _, cur, hh, hs, fun r hr => absurd hr (by omega)⟩
  case round =>
    obtain ⟨j, hj, rfl, rfl, hb, C⟩ := hrel
    by_cases hlt : j < N
    · clear hh hs
      go_wp2
      go_loopg [1, 6] 2 (fun hk2 q i2 wr2 => ∃ m : Nat, hk2 + m = 2 ∧ i2 = .int .i64 m ∧ q = .int .i64 ((k + j * 2 + m : Nat) : Int) ∧ Hid (But g w wr2) ∧ Hid (MkC wr2 g 76 (cap * 2) k (j * 2 + m)))
      case atStart => exact ⟨0, rfl, rfl, by simp, hb.out, C.out⟩
      case round =>
        obtain ⟨m, hm2, rfl, rfl, hb2, C2⟩ := hrel
        by_cases hml : m < 2
        · obtain ⟨⟨u0, hu0⟩, hf0⟩ := C2.out.cell (j * 2 + m) (by omega)
          rcases (by omega : m = 0 ∨ m = 1) with rfl | rfl
          · simp only [Nat.add_zero] at hu0 hf0
            have IV : Hid (MkC (wr.setCell ⟨g, j * 2, none⟩ (.int .i64 ((k : Int) + (j : Int) * 2))) g 76 (cap * 2) k (j * 2 + 1)) := C2.out.more (by omega) (by omega)
            go_wp2
            go_roundg 1
            case rel => exact ⟨1, by omega, by go_num, by go_num, hb2.out.set _ _, IV.out⟩
            case measure => omega
          · have IV : Hid (MkC (wr.setCell ⟨g, j * 2 + 1, none⟩ (.int .i64 ((k : Int) + (j : Int) * 2 + 1))) g 76 (cap * 2) k (j * 2 + 2)) := C2.out.more (by omega) (by omega)
            go_wp2
            go_roundg 0
            case rel => exact ⟨2, by omega, by go_num, by go_num, hb2.out.set _ _, IV.out⟩
            case measure => omega
        · obtain rfl : m = 2 := by omega
          go_wp2
          go_roundg (N - (j + 1))
          case rel => exact ⟨j + 1, by omega, by go_num, by go_num, hb2.out, by have := C2.out; show MkC _ _ _ _ _ _; rw [show (j + 1) * 2 = j * 2 + 2 by omega]; exact this⟩
          case measure => omega
    · have hjn : j = N := by omega
      subst hjn
      go_wp2
      go_ret
      obtain ⟨cu, c1, c2, c3⟩ := C.out
      exact ⟨rfl, ⟨g, cap, cu, rfl, c1, c3⟩, g, rfl, hb.out⟩
set_option maxRecDepth 100000 in
set_option maxHeartbeats 4000000 in
theorem heldA2S_any (N : Nat) (w : World) (k : Nat) (v : Value) (h : MkdE w v 76 N k (N * 2)) (hk : k ≤ 1000000000) (hl : N ≤ 10000000) :
    Calls Try.prog 31 #[v, .int .i64 k] w fun en w' => en = .returned (.int .i64 ((k + N * 2 : Nat) : Int)) ∧ w' = w := by
  obtain ⟨g, cap, cu, rfl, hh, hx⟩ := h
  have C : Hid (MkC w g 76 cu.size k (N * 2)) := ⟨cu, hh, rfl, hx⟩
  clear hh hx
  go_enter Try.func31, Try.ntmps31
  go_wp2
  go_loopg [1, 5] N (fun gk q i wr => ∃ j : Nat, gk + j = N ∧ i = .int .i64 j ∧ q = .int .i64 ((k + j * 2 : Nat) : Int) ∧ wr = w)
  case atStart => exact ⟨0, rfl, rfl, by simp, rfl⟩
  case round =>
    obtain ⟨j, hj, rfl, rfl, rfl⟩ := hrel
    by_cases hlt : j < N
    · go_wp2
      go_loopg [1, 6] 2 (fun hk2 q i2 wr2 => ∃ m : Nat, hk2 + m = 2 ∧ i2 = .int .i64 m ∧ q = .int .i64 ((k + j * 2 + m : Nat) : Int) ∧ wr2 = wr)
      case atStart => exact ⟨0, rfl, rfl, by simp, rfl⟩
      case round =>
        obtain ⟨m, hm2, rfl, rfl, rfl⟩ := hrel
        by_cases hml : m < 2
        · rcases (by omega : m = 0 ∨ m = 1) with rfl | rfl
          · have hu := C.out.read (j * 2) (by omega)
            rw [show ((k + j * 2 : Nat) : Int) = (k : Int) + (j : Int) * 2 by omega] at hu
            go_wp2
            go_roundg 1
            case rel => exact ⟨1, by omega, by go_num, by go_num, rfl⟩
            case measure => omega
          · have hu := C.out.read (j * 2 + 1) (by omega)
            rw [show ((k + (j * 2 + 1) : Nat) : Int) = (k : Int) + (j : Int) * 2 + 1 by omega] at hu
            go_wp2
            go_roundg 0
            case rel => exact ⟨2, by omega, by go_num, by go_num, rfl⟩
            case measure => omega
        · obtain rfl : m = 2 := by omega
          go_wp2
          go_roundg (N - (j + 1))
          case rel => exact ⟨j + 1, by omega, by go_num, by go_num, rfl⟩
          case measure => omega
    · have hjn : j = N := by omega
      subst hjn
      go_wp2
      go_ret
      exact ⟨rfl, rfl⟩
end Go.Proofs.Ytooaoankloocmaa
