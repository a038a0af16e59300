/- The contracts of eqInstr and eqInstrS of two that are alike (written by wip/mkshape.py). -/
import Derived.Test.YtdkdimklacblaakInstrD
namespace Go.Proofs.Ytdkdimklacblaak
open Go.ChangeShapes Go.WideShapes Go.ChangeAt Go.RowKit
set_option maxHeartbeats 1000000 in
theorem eqInstr_same (x : Ins) (w : World) (B1 B2 : Nat) (v1 v2 : Array Value) (h1 : InsIs w B1 v1 x) (h2 : InsIs w B2 v2 x) :
    Calls Try.prog 71 #[.agg v1, .agg v2] w fun en w' => en = .returned (.bool true) ∧ Below w.heap.size w w' := by
  obtain ⟨op, d, a, b, c, n, t⟩ := x
  obtain ⟨rfl, _, _⟩ := h1
  obtain ⟨rfl, _, _⟩ := h2
  simp only at *
  go_enter Try.func71, Try.ntmps71
  go_wp2
  go_ret
  exact ⟨rfl, below2 w _ _⟩
set_option maxHeartbeats 1000000 in
theorem eqInstrS_same (es : List Ins) (w : World) (B1 B2 : Nat) (a1 a2 : Option Addr) (z1 z2 : Nat) (h1 : SlIs InsIs 7 w B1 a1 es) (h2 : SlIs InsIs 7 w B2 a2 es) :
    Calls Try.prog 59 #[.slice a1 es.length z1, .slice a2 es.length z2] w fun en w' => en = .returned (.bool true) ∧ Below w.heap.size w w' := by
  have hm := maxLen_lt
  have hl := h1.1
  have H1 := hideP h1
  have H2 := hideP h2
  clear h1 h2
  go_enter Try.func59, Try.ntmps59
  go_wp2
  go_loopw [5] (fun i wr => ∃ j : Nat, j ≤ es.length ∧ i = .int .i64 j ∧ Below w.heap.size w wr) (fun i _ => es.length - (intOf i).toNat)
  case atStart => exact ⟨0, Nat.zero_le _, rfl, Below.refl _ _⟩
  case round =>
    obtain ⟨j, hj, rfl, bel⟩ := hrel
    by_cases hlt : j < es.length
    · obtain ⟨b', o', op, d, a, b, c, n, t, rfl, _, hb, he, k0, k1, k2, k3, k4, k5, k6, hx⟩ := Ins_get (H1.out.stays InsKeeps bel) j hlt
      obtain ⟨b2, o2, op', d', a', b', c', n', t', rfl, _, hb2, he2, m0, m1, m2, m3, m4, m5, m6, hx2⟩ := Ins_get (H2.out.stays InsKeeps bel) j hlt
      have heq := he.symm.trans he2
      simp only [Ins.mk.injEq] at heq
      obtain ⟨rfl, rfl, rfl, rfl, rfl, rfl, rfl⟩ := heq
      have IHj : Hid (∀ (W : World), Below wr.heap.size wr W → Calls Try.prog 71 #[.agg #[.int .i64 op, .int .i64 d, .int .i64 a, .int .i64 b, .int .i64 c, .int .i64 n, .string t], .agg #[.int .i64 op, .int .i64 d, .int .i64 a, .int .i64 b, .int .i64 c, .int .i64 n, .string t]] W fun en w' => en = .returned (.bool true) ∧ Below W.heap.size W w') :=
        fun W hW => eqInstr_same _ W B1 B2 _ _ (InsKeeps.stays hx hW) (InsKeeps.stays hx2 hW)
      have HB := hideP bel
      have hsz := bel.size
      clear he he2 hx hx2 bel
      go_wp2
      go_region_with (go_at_call 71; refine (IHj.out _ (by first | exact Below.refl _ _ | exact (Below.refl _ _).drew | exact (Below.refl _ _).drew.drew)).mono ?_; rintro e1 w1 ⟨rfl, bel1⟩)
      all_goals
        have hw1 : Below w.heap.size w w1 := by first | exact HB.out.trans (bel1.mono hsz) | exact HB.out.drew.trans (bel1.mono hsz) | exact HB.out.drew.drew.trans (bel1.mono hsz)
        clear bel1 k0 k1 k2 k3 k4 k5 k6 m0 m1 m2 m3 m4 m5 m6
        go_wp2
        go_roundw
        case rel => exact ⟨j + 1, by omega, by go_num, hw1⟩
        case measure => simp [intOf]; omega
    · go_wp2
      go_ret
      exact ⟨rfl, bel⟩
end Go.Proofs.Ytdkdimklacblaak
