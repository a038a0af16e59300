/- spec.l02Ints and slices.Equal of two lists of numbers; worlds that differ by draws alone; a cut around what draws its order. -/
import Derived.Test.YtfoelnblnfcaiabInts
namespace Go.Proofs.Ytfoelnblnfcaiab
open Go.ChangeShapes Go.WideShapes Go.ChangeAt Go.RowKit

set_option maxHeartbeats 1000000 in
theorem l02Ints_any (xs ys : List Int) (w : World) (a1 a2 : Option Addr) (c1 c2 : Nat) (h1 : IntsGet w a1 xs) (h2 : IntsGet w a2 ys) :
    Calls Try.prog 11 #[.slice a1 xs.length c1, .slice a2 ys.length c2] w fun en w' => en = .returned (.bool (xs == ys)) ∧ ∃ q, w' = w.drewN q := by
  have hm := maxLen_lt
  have hl1 := h1.1
  have hl2 := h2.1
  by_cases hne : xs.length = ys.length
  · have H1 := hideP h1
    have H2 := hideP h2
    clear h1 h2
    go_enter Try.func11, Try.ntmps11
    go_wp2
    go_loopw [5] (fun i wr => ∃ j q : Nat, j ≤ xs.length ∧ i = .int .i64 j ∧ wr = w.drewN q ∧ Hid (∀ k (hk : k < xs.length) (hk' : k < ys.length), k < j → xs[k] = ys[k])) (fun i _ => xs.length - (intOf i).toNat)
    case atStart => exact ⟨0, 0, Nat.zero_le _, rfl, rfl, fun _ _ _ h => absurd h (Nat.not_lt_zero _)⟩
    case round =>
      obtain ⟨j, q, hj, rfl, rfl, hs⟩ := hrel
      by_cases hlt : j < xs.length
      · have hlt2 : j < ys.length := by omega
        obtain ⟨b, o, rfl, p0⟩ := H1.out.get j hlt
        obtain ⟨b', o', rfl, q0⟩ := H2.out.get j hlt2
        obtain ⟨x, hx⟩ : ∃ x, xs[j] = x := ⟨_, rfl⟩
        obtain ⟨y, hy⟩ : ∃ y, ys[j] = y := ⟨_, rfl⟩
        rw [hx] at p0
        rw [hy] at q0
        have HX := hideP hx
        have HY := hideP hy
        clear hx hy
        by_cases hxy : x = y
        · subst hxy
          go_wp2
          go_region
          all_goals
            go_wp2
            go_roundw
            case rel =>
              refine ⟨j + 1, q + 1, by omega, by go_num, rfl, fun k hk hk' hkj => ?_⟩
              by_cases e : k = j
              · subst e; rw [HX.out, HY.out]
              · exact hs.out k hk hk' (by omega)
            case measure => simp [intOf]; omega
        · have E : Hid ((xs == ys) = false) := beq_at hlt hlt2 (by rw [HX.out, HY.out]; exact hxy)
          go_wp2
          go_region
          all_goals
            go_wp2
            go_ret
            exact ⟨ret_bool E.out.symm, q + 1, rfl⟩
      · have E : Hid ((xs == ys) = true) := beq_same hne fun i hi hi' => hs.out i hi hi' (by omega)
        go_wp2
        go_ret
        exact ⟨ret_bool E.out.symm, q, rfl⟩
  · rw [beq_len hne]
    have hne' : ¬ (xs.length : Int) = (ys.length : Int) := by omega
    clear h1 h2
    go_enter Try.func11, Try.ntmps11
    go_wp2
    go_ret
    exact ⟨rfl, 0, rfl⟩
set_option maxHeartbeats 1000000 in
theorem slicesEqual_any (xs ys : List Int) (w : World) (a1 a2 : Option Addr) (c1 c2 : Nat) (h1 : IntsGet w a1 xs) (h2 : IntsGet w a2 ys) :
    Calls Try.prog 14 #[.slice a1 xs.length c1, .slice a2 ys.length c2] w fun en w' => en = .returned (.bool (xs == ys)) ∧ ∃ q, w' = w.drewN q := by
  have hm := maxLen_lt
  have hl1 := h1.1
  have hl2 := h2.1
  by_cases hne : xs.length = ys.length
  · have H1 := hideP h1
    have H2 := hideP h2
    clear h1 h2
    go_enter Try.func14, Try.ntmps14
    go_wp2
    go_loopw [13] (fun i wr => ∃ j q : Nat, j ≤ xs.length ∧ i = .int .i64 j ∧ wr = w.drewN q ∧ Hid (∀ k (hk : k < xs.length) (hk' : k < ys.length), k < j → xs[k] = ys[k])) (fun i _ => xs.length - (intOf i).toNat)
    case atStart => exact ⟨0, 0, Nat.zero_le _, rfl, rfl, fun _ _ _ h => absurd h (Nat.not_lt_zero _)⟩
    case round =>
      obtain ⟨j, q, hj, rfl, rfl, hs⟩ := hrel
      by_cases hlt : j < xs.length
      · have hlt2 : j < ys.length := by omega
        obtain ⟨b, o, rfl, p0⟩ := H1.out.get j hlt
        obtain ⟨b', o', rfl, q0⟩ := H2.out.get j hlt2
        obtain ⟨x, hx⟩ : ∃ x, xs[j] = x := ⟨_, rfl⟩
        obtain ⟨y, hy⟩ : ∃ y, ys[j] = y := ⟨_, rfl⟩
        rw [hx] at p0
        rw [hy] at q0
        have HX := hideP hx
        have HY := hideP hy
        clear hx hy
        by_cases hxy : x = y
        · subst hxy
          go_wp2
          go_region
          all_goals
            go_wp2
            go_roundw
            case rel =>
              refine ⟨j + 1, q + 1, by omega, by go_num, rfl, fun k hk hk' hkj => ?_⟩
              by_cases e : k = j
              · subst e; rw [HX.out, HY.out]
              · exact hs.out k hk hk' (by omega)
            case measure => simp [intOf]; omega
        · have E : Hid ((xs == ys) = false) := beq_at hlt hlt2 (by rw [HX.out, HY.out]; exact hxy)
          go_wp2
          go_region
          all_goals
            go_wp2
            go_ret
            exact ⟨ret_bool E.out.symm, q + 1, rfl⟩
      · have E : Hid ((xs == ys) = true) := beq_same hne fun i hi hi' => hs.out i hi hi' (by omega)
        go_wp2
        go_ret
        exact ⟨ret_bool E.out.symm, q, rfl⟩
  · rw [beq_len hne]
    have hne' : ¬ (xs.length : Int) = (ys.length : Int) := by omega
    clear h1 h2
    go_enter Try.func14, Try.ntmps14
    go_wp2
    go_ret
    exact ⟨rfl, 0, rfl⟩

/-- What is to be shown behind a region, told once for all orders of it: T is found where the first order ends. -/
structure Cut (T : Prop) : Prop where
  go : T
theorem cut_at {T G : Prop} (main : Cut T → G) (rest : T) : G := main ⟨rest⟩
theorem below_dn {B : Nat} {a w : World} (h : Below B a w) (q : Nat) : Below B a (w.drewN q) := ⟨h.os, h.tape, h.output, h.size, h.block⟩
theorem keep {W W' : World} {b : Nat} {o : Obj} (h : W.heap[b]? = some o) (bel : Below W.heap.size W W') : W'.heap[b]? = some o := (bel.block b (Array.getElem?_eq_some_iff.1 h).1).trans h
theorem blk_new (w : World) (o : Obj) : (w.alloc o).heap[w.heap.size]? = some o := by show (w.heap.push o)[w.heap.size]? = _; exact Array.getElem?_push_size
end Go.Proofs.Ytfoelnblnfcaiab
