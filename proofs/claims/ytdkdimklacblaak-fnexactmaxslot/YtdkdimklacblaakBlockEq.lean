/- The contracts of eqBlock and eqBlockS of two that are alike (written by wip/mkshape.py). -/
import Derived.Test.YtdkdimklacblaakBlockD
import Derived.Test.YtdkdimklacblaakInstrEq
namespace Go.Proofs.Ytdkdimklacblaak
open Go.ChangeShapes Go.WideShapes Go.ChangeAt Go.RowKit
set_option maxHeartbeats 1000000 in
theorem eqBlock_same (x : Blk) (w : World) (B1 B2 : Nat) (v1 v2 : Array Value) (h1 : BlkIs w B1 v1 x) (h2 : BlkIs w B2 v2 x) :
    Calls Try.prog 45 #[.agg v1, .agg v2] w fun en w' => en = .returned (.bool true) ∧ Below w.heap.size w w' := by
  obtain ⟨code, jump, a, to, els⟩ := x
  obtain ⟨ucode1, ccode1, rfl, _, hcode1⟩ := h1
  obtain ⟨ucode2, ccode2, rfl, _, hcode2⟩ := h2
  simp only at *
  have Hcode1 := hideP hcode1
  have Hcode2 := hideP hcode2
  clear hcode1 hcode2
  go_enter Try.func45, Try.ntmps45
  go_wp2_with fail
  refine (eqInstrS_same code _ B1 B2 ucode1 ucode2 ccode1 ccode2 (Hcode1.out.stays InsKeeps (below2 w _ _)) (Hcode2.out.stays InsKeeps (below2 w _ _))).mono ?_
  rintro y1 w1 ⟨rfl, bel1⟩
  obtain ⟨q1, q2, hz, hw⟩ := two bel1
  have HW1 := hideP hw
  have Q1 := hideP q1
  have Q2 := hideP q2
  clear bel1 q1 q2 hw
  have p1 := (cells_of Q1.out).1 1
  have r1 := (cells_of Q2.out).1 1
  have p2 := (cells_of Q1.out).1 2
  have r2 := (cells_of Q2.out).1 2
  have p3 := (cells_of Q1.out).1 3
  have r3 := (cells_of Q2.out).1 3
  have p4 := (cells_of Q1.out).1 4
  have r4 := (cells_of Q2.out).1 4
  simp at p1 r1 p2 r2 p3 r3 p4 r4
  go_wp2
  go_ret
  exact ⟨rfl, HW1.out⟩
set_option maxHeartbeats 1000000 in
theorem eqBlockS_same (es : List Blk) (w : World) (B1 B2 : Nat) (a1 a2 : Option Addr) (z1 z2 : Nat) (h1 : SlIs BlkIs 5 w B1 a1 es) (h2 : SlIs BlkIs 5 w B2 a2 es) :
    Calls Try.prog 27 #[.slice a1 es.length z1, .slice a2 es.length z2] w fun en w' => en = .returned (.bool true) ∧ Below w.heap.size w w' := by
  have hm := maxLen_lt
  have hl := h1.1
  have H1 := hideP h1
  have H2 := hideP h2
  clear h1 h2
  go_enter Try.func27, Try.ntmps27
  go_wp2
  go_loopw [5] (fun i wr => ∃ j : Nat, j ≤ es.length ∧ i = .int .i64 j ∧ Below w.heap.size w wr) (fun i _ => es.length - (intOf i).toNat)
  case atStart => exact ⟨0, Nat.zero_le _, rfl, Below.refl _ _⟩
  case round =>
    obtain ⟨j, hj, rfl, bel⟩ := hrel
    by_cases hlt : j < es.length
    · obtain ⟨b', o', code, jump, a, to, els, ucode1, ccode1, rfl, _, hb, he, k0, k1, k2, k3, k4, hx⟩ := Blk_get (H1.out.stays BlkKeeps bel) j hlt
      obtain ⟨b2, o2, code', jump', a', to', els', ucode2, ccode2, rfl, _, hb2, he2, m0, m1, m2, m3, m4, hx2⟩ := Blk_get (H2.out.stays BlkKeeps bel) j hlt
      have heq := he.symm.trans he2
      simp only [Blk.mk.injEq] at heq
      obtain ⟨rfl, rfl, rfl, rfl, rfl⟩ := heq
      have IHj : Hid (∀ (W : World), Below wr.heap.size wr W → Calls Try.prog 45 #[.agg #[.slice ucode1 code.length ccode1, .int .i64 jump, .int .i64 a, .int .i64 to, .int .i64 els], .agg #[.slice ucode2 code.length ccode2, .int .i64 jump, .int .i64 a, .int .i64 to, .int .i64 els]] W fun en w' => en = .returned (.bool true) ∧ Below W.heap.size W w') :=
        fun W hW => eqBlock_same _ W B1 B2 _ _ (BlkKeeps.stays hx hW) (BlkKeeps.stays hx2 hW)
      have HB := hideP bel
      have hsz := bel.size
      clear he he2 hx hx2 bel
      go_wp2
      go_region_with (go_at_call 45; refine (IHj.out _ (by first | exact Below.refl _ _ | exact (Below.refl _ _).drew | exact (Below.refl _ _).drew.drew)).mono ?_; rintro e1 w1 ⟨rfl, bel1⟩)
      all_goals
        have hw1 : Below w.heap.size w w1 := by first | exact HB.out.trans (bel1.mono hsz) | exact HB.out.drew.trans (bel1.mono hsz) | exact HB.out.drew.drew.trans (bel1.mono hsz)
        clear bel1 k0 k1 k2 k3 k4 m0 m1 m2 m3 m4
        go_wp2
        go_roundw
        case rel => exact ⟨j + 1, by omega, by go_num, hw1⟩
        case measure => simp [intOf]; omega
    · go_wp2
      go_ret
      exact ⟨rfl, bel⟩
end Go.Proofs.Ytdkdimklacblaak
