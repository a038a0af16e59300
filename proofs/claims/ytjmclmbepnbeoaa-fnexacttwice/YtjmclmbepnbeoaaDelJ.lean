/- The contracts of slices.IndexFunc and slices.DeleteFunc of steps that name a slot (the closure of impl.reckoningOnce). -/
import Derived.Test.YtjmclmbepnbeoaaDelI
import Derived.Deep.LoopGhost
import Derived.Deep.CutRange
namespace Go.Proofs.Ytjmclmbepnbeoaa
open Go.ChangeShapes Go.WideShapes Go.ChangeAt Go.RowKit
/-- The first that is named. -/
def FirstIx (L : List Ins) (s : Int) (i : Int) : Prop := (i = -1 ∧ ∀ y ∈ L, ¬ NmP y s) ∨ ∃ k : Nat, ∃ hk : k < L.length, i = (k : Int) ∧ (∀ j (hj : j < L.length), j < k → ¬ NmP L[j] s) ∧ NmP L[k] s
set_option maxRecDepth 100000 in
set_option maxHeartbeats 4000000 in
theorem idxF_any (L : List Ins) (x : Ins) (w : World) (B g cap bx : Nat) (h : OwnE InE w B (.slice (some ⟨g, 0, none⟩) L.length cap) L) (hx : WfX x) (hb : w.heap[bx]? = some (.cells (insV x) 48 (0, 0))) (hl : L.length ≤ 1000) :
    Calls Try.prog 121 #[.slice (some ⟨g, 0, none⟩) L.length cap, .func (.func 92) #[] #[.pointer (some ⟨bx, 0, none⟩)]] w fun e w' => ∃ i : Int, e = .returned (.int .i64 i) ∧ FirstIx L (makesP x) i ∧ Below w.heap.size w w' := by
  have H := hideP h
  have HB := hideP hb
  have D1 : Hid (∀ W y, Below w.heap.size w W → Calls Try.prog 92 #[.agg (insV y), .pointer (some ⟨bx, 0, none⟩)] W fun e w' => e = .returned (.bool (decide (NmP y (makesP x)))) ∧ Below W.heap.size W w') := fun W y hW => del1_any x y bx W hx ((hW.block _ (hltP hb)).trans hb)
  obtain ⟨s, hs⟩ : ∃ s, makesP x = s := ⟨_, rfl⟩
  rw [hs] at D1 ⊢
  obtain ⟨N, hN⟩ : ∃ N, L.length = N := ⟨_, rfl⟩
  have HN := hideP hN
  rw [hN] at hl ⊢
  clear h hx hb hs hN
  go_enter Try.func121, Try.ntmps121
  go_wp2
  go_loopg [8] N (fun gk ix wr => ∃ k : Nat, gk + k = N ∧ ix = .int .i64 k ∧ Hid (∀ j (hj : j < L.length), j < k → ¬ NmP L[j] s) ∧ Hid (Below w.heap.size w wr))
  case atStart => exact ⟨0, by simp, rfl, fun j hj h0 => absurd h0 (Nat.not_lt_zero _), Below.refl _ _⟩
  case round =>
    obtain ⟨k, hk, rfl, hno, hbel⟩ := hrel
    by_cases hkl : k < N
    · have hkL : k < L.length := by rw [HN.out]; exact hkl
      obtain ⟨op1, d1, a1, b1, c1, m1, t1, hz, q0, q1, q2, q3, q4, q5, q6⟩ := own_ins (H.out.stays hbel.out) k hkL
      have HZ := hideP hz
      have D2 : Hid (Calls Try.prog 92 #[.agg #[.int .i64 op1, .int .i64 d1, .int .i64 a1, .int .i64 b1, .int .i64 c1, .int .i64 m1, .string t1], .pointer (some ⟨bx, 0, none⟩)] wr fun e w' => e = .returned (.bool (decide (NmP ⟨op1, d1, a1, b1, c1, m1, t1⟩ s))) ∧ Below wr.heap.size wr w') := D1.out wr ⟨op1, d1, a1, b1, c1, m1, t1⟩ hbel.out
      obtain ⟨r, hr⟩ : ∃ r, decide (NmP ⟨op1, d1, a1, b1, c1, m1, t1⟩ s) = r := ⟨_, rfl⟩
      rw [hr] at D2
      have HR := hideP hr

      clear hz hr
      go_wp2_with fail
      refine D2.out.mono ?_
      rintro e1 w1 ⟨rfl, b1'⟩
      have B1 := hideP (below_trans hbel.out b1')
      clear D2 b1' q0 q1 q2 q3 q4 q5 q6
      cases r with
      | false =>
        have NO : Hid (∀ j (hj : j < L.length), j < k + 1 → ¬ NmP L[j] s) := fun j hj hjk => by
          by_cases e : j = k
          · subst e
            rw [HZ.out]
            exact of_decide_eq_false HR.out
          · exact hno.out j hj (by omega)
        go_wp2
        go_roundg (N - (k + 1))
        case rel => exact ⟨k + 1, by omega, by go_num, NO.out, B1.out⟩
        case measure => omega
      | true =>
        go_wp2
        go_ret
        exact ⟨k, rfl, Or.inr ⟨k, hkL, rfl, hno.out, by rw [HZ.out]; exact of_decide_eq_true HR.out⟩, B1.out⟩
    · go_wp2
      go_ret
      exact ⟨-1, rfl, Or.inl ⟨rfl, fun y hy => by obtain ⟨j, hj, rfl⟩ := List.getElem_of_mem hy; exact hno.out j hj (by have := HN.out; omega)⟩, hbel.out⟩
end Go.Proofs.Ytjmclmbepnbeoaa
