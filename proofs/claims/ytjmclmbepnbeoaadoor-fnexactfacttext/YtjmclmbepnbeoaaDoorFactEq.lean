/- The contracts of eqFact and eqFactS of two that are alike (written by wip/mkshape.py). -/
import Derived.Test.YtjmclmbepnbeoaaDoorFactD
namespace Go.Proofs.YtjmclmbepnbeoaaDoor
open Go.ChangeShapes Go.WideShapes Go.ChangeAt Go.RowKit
set_option maxHeartbeats 1000000 in
theorem eqFact_same (x : Fct) (w : World) (B1 B2 : Nat) (v1 v2 : Array Value) (h1 : FctIs w B1 v1 x) (h2 : FctIs w B2 v2 x) :
    Calls Tryd.prog 14 #[.agg v1, .agg v2] w fun en w' => en = .returned (.bool true) ∧ Below w.heap.size w w' := by
  obtain ⟨slot, val⟩ := x
  obtain ⟨rfl, _⟩ := h1
  obtain ⟨rfl, _⟩ := h2
  simp only at *
  go_enter Tryd.func14, Tryd.ntmps14
  go_wp2
  go_ret
  exact ⟨rfl, below2 w _ _⟩
set_option maxHeartbeats 1000000 in
theorem eqFactS_same (es : List Fct) (w : World) (B1 B2 : Nat) (a1 a2 : Option Addr) (z1 z2 : Nat) (h1 : SlIs FctIs 2 w B1 a1 es) (h2 : SlIs FctIs 2 w B2 a2 es) :
    Calls Tryd.prog 8 #[.slice a1 es.length z1, .slice a2 es.length z2] w fun en w' => en = .returned (.bool true) ∧ Below w.heap.size w w' := by
  have hm := maxLen_lt
  have hl := h1.1
  have H1 := hideP h1
  have H2 := hideP h2
  clear h1 h2
  go_enter Tryd.func8, Tryd.ntmps8
  go_wp2
  go_loopw [5] (fun i wr => ∃ j : Nat, j ≤ es.length ∧ i = .int .i64 j ∧ Below w.heap.size w wr) (fun i _ => es.length - (intOf i).toNat)
  case atStart => exact ⟨0, Nat.zero_le _, rfl, Below.refl _ _⟩
  case round =>
    obtain ⟨j, hj, rfl, bel⟩ := hrel
    by_cases hlt : j < es.length
    · obtain ⟨b', o', slot, val, rfl, _, hb, he, k0, k1, hx⟩ := Fct_get (H1.out.stays FctKeeps bel) j hlt
      obtain ⟨b2, o2, slot', val', rfl, _, hb2, he2, m0, m1, hx2⟩ := Fct_get (H2.out.stays FctKeeps bel) j hlt
      have heq := he.symm.trans he2
      simp only [Fct.mk.injEq] at heq
      obtain ⟨rfl, rfl⟩ := heq
      have IHj : Hid (∀ (W : World), Below wr.heap.size wr W → Calls Tryd.prog 14 #[.agg #[.int .i64 slot, .int .i64 val], .agg #[.int .i64 slot, .int .i64 val]] W fun en w' => en = .returned (.bool true) ∧ Below W.heap.size W w') :=
        fun W hW => eqFact_same _ W B1 B2 _ _ (FctKeeps.stays hx hW) (FctKeeps.stays hx2 hW)
      have HB := hideP bel
      have hsz := bel.size
      clear he he2 hx hx2 bel
      go_wp2
      go_region_with (go_at_call 14; refine (IHj.out _ (by first | exact Below.refl _ _ | exact (Below.refl _ _).drew | exact (Below.refl _ _).drew.drew)).mono ?_; rintro e1 w1 ⟨rfl, bel1⟩)
      all_goals
        have hw1 : Below w.heap.size w w1 := by first | exact HB.out.trans (bel1.mono hsz) | exact HB.out.drew.trans (bel1.mono hsz) | exact HB.out.drew.drew.trans (bel1.mono hsz)
        clear bel1 k0 k1 m0 m1
        go_wp2
        go_roundw
        case rel => exact ⟨j + 1, by omega, by go_num, hw1⟩
        case measure => simp [intOf]; omega
    · go_wp2
      go_ret
      exact ⟨rfl, bel⟩
end Go.Proofs.YtjmclmbepnbeoaaDoor
