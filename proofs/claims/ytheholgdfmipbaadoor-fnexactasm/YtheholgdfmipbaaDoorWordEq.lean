/- The contracts of eqWord and eqWordS of two that are alike (written by wip/mkshape.py). -/
import Derived.Test.YtheholgdfmipbaaDoorWordD
namespace Go.Proofs.YtheholgdfmipbaaDoor
open Go.ChangeShapes Go.WideShapes Go.ChangeAt Go.RowKit
set_option maxHeartbeats 1000000 in
theorem eqWord_same (x : Wrd) (w : World) (B1 B2 : Nat) (v1 v2 : Array Value) (h1 : WrdIs w B1 v1 x) (h2 : WrdIs w B2 v2 x) :
    Calls Tryd.prog 50 #[.agg v1, .agg v2] w fun en w' => en = .returned (.bool true) ∧ Below w.heap.size w w' := by
  obtain ⟨op, r, a, b, n⟩ := x
  obtain ⟨rfl, _⟩ := h1
  obtain ⟨rfl, _⟩ := h2
  simp only at *
  go_enter Tryd.func50, Tryd.ntmps50
  go_wp2
  go_ret
  exact ⟨rfl, below2 w _ _⟩
set_option maxHeartbeats 1000000 in
theorem eqWordS_same (es : List Wrd) (w : World) (B1 B2 : Nat) (a1 a2 : Option Addr) (z1 z2 : Nat) (h1 : SlIs WrdIs 5 w B1 a1 es) (h2 : SlIs WrdIs 5 w B2 a2 es) :
    Calls Tryd.prog 33 #[.slice a1 es.length z1, .slice a2 es.length z2] w fun en w' => en = .returned (.bool true) ∧ Below w.heap.size w w' := by
  have hm := maxLen_lt
  have hl := h1.1
  have H1 := hideP h1
  have H2 := hideP h2
  clear h1 h2
  go_enter Tryd.func33, Tryd.ntmps33
  go_wp2
  go_loopw [5] (fun i wr => ∃ j : Nat, j ≤ es.length ∧ i = .int .i64 j ∧ Below w.heap.size w wr) (fun i _ => es.length - (intOf i).toNat)
  case atStart => exact ⟨0, Nat.zero_le _, rfl, Below.refl _ _⟩
  case round =>
    obtain ⟨j, hj, rfl, bel⟩ := hrel
    by_cases hlt : j < es.length
    · obtain ⟨b', o', op, r, a, b, n, rfl, _, hb, he, k0, k1, k2, k3, k4, hx⟩ := Wrd_get (H1.out.stays WrdKeeps bel) j hlt
      obtain ⟨b2, o2, op', r', a', b', n', rfl, _, hb2, he2, m0, m1, m2, m3, m4, hx2⟩ := Wrd_get (H2.out.stays WrdKeeps bel) j hlt
      have heq := he.symm.trans he2
      simp only [Wrd.mk.injEq] at heq
      obtain ⟨rfl, rfl, rfl, rfl, rfl⟩ := heq
      have IHj : Hid (∀ (W : World), Below wr.heap.size wr W → Calls Tryd.prog 50 #[.agg #[.int .i64 op, .int .i64 r, .int .i64 a, .int .i64 b, .int .i64 n], .agg #[.int .i64 op, .int .i64 r, .int .i64 a, .int .i64 b, .int .i64 n]] W fun en w' => en = .returned (.bool true) ∧ Below W.heap.size W w') :=
        fun W hW => eqWord_same _ W B1 B2 _ _ (WrdKeeps.stays hx hW) (WrdKeeps.stays hx2 hW)
      have HB := hideP bel
      have hsz := bel.size
      clear he he2 hx hx2 bel
      go_wp2
      go_region_with (go_at_call 50; refine (IHj.out _ (by first | exact Below.refl _ _ | exact (Below.refl _ _).drew | exact (Below.refl _ _).drew.drew)).mono ?_; rintro e1 w1 ⟨rfl, bel1⟩)
      all_goals
        have hw1 : Below w.heap.size w w1 := by first | exact HB.out.trans (bel1.mono hsz) | exact HB.out.drew.trans (bel1.mono hsz) | exact HB.out.drew.drew.trans (bel1.mono hsz)
        clear bel1 k0 k1 k2 k3 k4 m0 m1 m2 m3 m4
        go_wp2
        go_roundw
        case rel => exact ⟨j + 1, by omega, by go_num, hw1⟩
        case measure => simp [intOf]; omega
    · go_wp2
      go_ret
      exact ⟨rfl, bel⟩
end Go.Proofs.YtheholgdfmipbaaDoor
