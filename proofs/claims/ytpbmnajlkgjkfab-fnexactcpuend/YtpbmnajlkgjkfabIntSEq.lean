/- The contract of eqIntSS of two that are alike. -/
import Derived.Test.YtpbmnajlkgjkfabIntSD
namespace Go.Proofs.Ytpbmnajlkgjkfab
open Go.ChangeShapes Go.WideShapes Go.ChangeAt Go.RowKit
set_option maxHeartbeats 1000000 in
theorem eqIntSS_same (es : List Rw) (w : World) (B1 B2 : Nat) (a1 a2 : Option Addr) (z1 z2 : Nat) (h1 : SlIs RwIs 1 w B1 a1 es) (h2 : SlIs RwIs 1 w B2 a2 es) :
    Calls Try.prog 21 #[.slice a1 es.length z1, .slice a2 es.length z2] w fun en w' => en = .returned (.bool true) ∧ Below w.heap.size w w' := by
  have hm := maxLen_lt
  have hl := h1.1
  have H1 := hideP h1
  have H2 := hideP h2
  clear h1 h2
  go_enter Try.func21, Try.ntmps21
  go_wp2
  go_loopw [5] (fun i wr => ∃ j : Nat, j ≤ es.length ∧ i = .int .i64 j ∧ Below w.heap.size w wr) (fun i _ => es.length - (intOf i).toNat)
  case atStart => exact ⟨0, Nat.zero_le _, rfl, Below.refl _ _⟩
  case round =>
    obtain ⟨j, hj, rfl, bel⟩ := hrel
    by_cases hlt : j < es.length
    · obtain ⟨b', o', u, c, rfl, _, hb, k0, hx⟩ := Rw_get (H1.out.stays RwKeeps bel) j hlt
      obtain ⟨b2, o2, u2, c2, rfl, _, hb2, m0, hx2⟩ := Rw_get (H2.out.stays RwKeeps bel) j hlt
      have IHj : Hid (∀ (W : World), Below wr.heap.size wr W → Calls Try.prog 20 #[.slice u es[j].length c, .slice u2 es[j].length c2] W fun en w' => en = .returned (.bool true) ∧ Below W.heap.size W w') :=
        fun W hW => eqIntS_same es[j] W B1 B2 _ _ _ _ (hx.stays hW) (hx2.stays hW)
      have HB := hideP bel
      have hsz := bel.size
      clear hx hx2 bel
      go_wp2
      go_region_with (go_at_call 20; refine (IHj.out _ (by first | exact Below.refl _ _ | exact (Below.refl _ _).drew | exact (Below.refl _ _).drew.drew)).mono ?_; rintro e1 w1 ⟨rfl, bel1⟩)
      all_goals
        have hw1 : Below w.heap.size w w1 := by first | exact HB.out.trans (bel1.mono hsz) | exact HB.out.drew.trans (bel1.mono hsz) | exact HB.out.drew.drew.trans (bel1.mono hsz)
        clear bel1 k0 m0
        go_wp2
        go_roundw
        case rel => exact ⟨j + 1, by omega, by go_num, hw1⟩
        case measure => simp [intOf]; omega
    · go_wp2
      go_ret
      exact ⟨rfl, bel⟩
end Go.Proofs.Ytpbmnajlkgjkfab
