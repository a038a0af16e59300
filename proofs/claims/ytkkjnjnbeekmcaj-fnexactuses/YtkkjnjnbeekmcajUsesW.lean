/- The walk of the law FnExactUses. -/
import Derived.Test.YtkkjnjnbeekmcajUses
import Derived.Test.YtkkjnjnbeekmcajInstrSz
import Derived.Test.YtkkjnjnbeekmcajInstrTo
namespace Go.Proofs.Ytkkjnjnbeekmcaj
open Go.ChangeShapes Go.WideShapes Go.ChangeAt Go.RowKit
theorem OwnI.but {w w' : World} {B g : Nat} {v : Value} {l : List Int} (h : OwnI w B v l) (hb : But g w w') (hne : v.ownBlock ≠ some g) : OwnI w' B v l := by
  obtain ⟨g0, cap, hv, hl, h0 | ⟨g', cap', cur, hv', hB', hh, hr⟩⟩ := h
  · exact ⟨g0, cap, hv, hl, Or.inl h0⟩
  · refine ⟨g0, cap, hv, hl, Or.inr ⟨g', cap', cur, hv', hB', (hb.block g' (Array.getElem?_eq_some_iff.1 hh).1 ?_).trans hh, hr⟩⟩
    intro e; apply hne; rw [← e, hv']; rfl
namespace UsesLaw
theorem usesP_len (x : Ins) : (usesP x).length ≤ 3 := by
  unfold usesP cellP
  split
  · simp
  · split
    · simp
    · split
      · split <;> simp
      · split
        · split <;> simp
        · simp
theorem keep {W W' : World} {b : Nat} {o : Obj} (h : W.heap[b]? = some o) (bel : Below W.heap.size W W') : W'.heap[b]? = some o := (bel.block b (Array.getElem?_eq_some_iff.1 h).1).trans h
set_option maxHeartbeats 8000000 in
theorem walk (x : Ins) (v : Array Value) (w : World) (h : InsIs w 0 v x) :
    Calls Try.prog 6 #[.agg v] w fun en w' => en = .returned (.bool true) ∧ Below w.heap.size w w' := by
  have SZ := hideP (fun W => szInstr_any x W 0 v 1048576 h (by omega))
  have TO := hideP (fun W => toInstr_any x W 0 v h)
  obtain ⟨l, hl⟩ : ∃ l, usesP x = l := ⟨_, rfl⟩
  have hlen : Hid (l.length ≤ 3) := by rw [← hl]; exact usesP_len x
  have SO : Hid (∀ W v', InsIs W 0 v' x → Calls Try.prog 28 #[.agg v'] W fun en w' => ∃ v', en = .returned v' ∧ OwnI w' W.heap.size v' l ∧ Below W.heap.size W w') := fun W v' h' => hl ▸ spec_uses x W 0 v' h'
  have IO : Hid (∀ W v', InsIs W 0 v' x → Calls Try.prog 29 #[.agg v'] W fun en w' => ∃ v', en = .returned v' ∧ OwnI w' W.heap.size v' l ∧ Below W.heap.size W w') := fun W v' h' => hl ▸ impl_uses x W 0 v' h'
  clear hl
  obtain ⟨op, d, a, b, c, n, t⟩ := x
  obtain ⟨rfl, ht⟩ := h
  simp only [Ins.sz] at *
  by_cases hs : t.size ≤ 1048576
  · have E := hideP (szR_pos hs)
    clear hs
    go_enter Try.func6, Try.ntmps6
    go_wp2_with fail
    refine (SZ.out _).mono ?_
    rintro e1 w1 ⟨rfl, bel1⟩
    rw [E.out]
    have HW := hideP (below_new bel1)
    have P := hideP ((bel1.block w.heap.size (by simp)).trans (show (w.alloc _).heap[w.heap.size]? = _ from Array.getElem?_push_size))
    clear bel1
    have p0 := (cells_of P.out).1 0
    have p1 := (cells_of P.out).1 1
    have p2 := (cells_of P.out).1 2
    have p3 := (cells_of P.out).1 3
    have p4 := (cells_of P.out).1 4
    have p5 := (cells_of P.out).1 5
    have p6 := (cells_of P.out).1 6
    simp at p0 p1 p2 p3 p4 p5 p6
    go_wp2_with fail
    refine (TO.out _).mono ?_
    rintro e2 w2 ⟨v2, rfl, h2, bel2⟩
    have h2' := h2
    obtain ⟨rfl, _⟩ := h2'
    go_wp2_with fail
    refine (SO.out _ _ (InsKeeps.mono h2 (Nat.zero_le _))).mono ?_
    rintro e3 w3 ⟨v3, rfl, o3, bel3⟩
    have b3 := below_trans bel2 bel3
    have HW3 := hideP (below_trans HW.out b3)
    have P3 := hideP (keep P.out b3)
    obtain ⟨gs, cs, rfl, _⟩ := id o3
    have OS3 := hideP (o3.mono (Nat.zero_le _))
    clear bel2 bel3 b3 h2 o3 p0 p1 p2 p3 p4 p5 p6 HW P
    have p0 := (cells_of P3.out).1 0
    have p1 := (cells_of P3.out).1 1
    have p2 := (cells_of P3.out).1 2
    have p3 := (cells_of P3.out).1 3
    have p4 := (cells_of P3.out).1 4
    have p5 := (cells_of P3.out).1 5
    have p6 := (cells_of P3.out).1 6
    simp at p0 p1 p2 p3 p4 p5 p6
    go_wp2_with fail
    refine (TO.out _).mono ?_
    rintro e4 w4 ⟨v4, rfl, h4, bel4⟩
    have h4' := h4
    obtain ⟨rfl, _⟩ := h4'
    go_wp2_with fail
    refine (IO.out _ _ (InsKeeps.mono h4 (Nat.zero_le _))).mono ?_
    rintro e5 w5 ⟨v5, rfl, o5, bel5⟩
    have b5 := below_trans bel4 bel5
    have HW5 := hideP (below_trans HW3.out b5)
    have P5 := hideP (keep P3.out b5)
    obtain ⟨gi, ci, rfl, _⟩ := id o5
    have LO := hideP (o5.low gi rfl)
    have LS := hideP (OS3.out.low gs rfl)
    have LW := hideP (show w3.heap.size ≤ w4.heap.size from bel4.size)
    have LP := hideP (Array.getElem?_eq_some_iff.1 P3.out).1
    have OS5 := hideP (OS3.out.stays b5)
    have OI5 := hideP o5
    clear bel4 bel5 b5 h4 o5 p0 p1 p2 p3 p4 p5 p6 HW3 P3 OS3
    go_wp2_with fail
    refine (eqIntS_same l _ _ _ _ _ _ _ OI5.out.is.2 OS5.out.is.2).mono ?_
    rintro e6 w6 ⟨rfl, bel6⟩
    have HW6 := hideP (below_trans HW5.out bel6)
    have P6 := hideP (keep P5.out bel6)
    have OS6 := hideP (OS5.out.stays bel6)
    have OI6 := hideP (OI5.out.stays bel6)
    clear bel6 HW5 P5 OS5 OI5
    go_wp2_with fail
    refine (markIntS_any l _ w4.heap.size 1 _ OI6.out (by omega) (by have := hlen.out; omega)).mono ?_
    rintro e7 w7 ⟨rfl, o7, g7, hg7, but7⟩
    have hgi : gi = g7 := by simpa [Value.ownBlock] using hg7
    subst hgi
    have OI7 := hideP o7
    have OS7 := hideP (OS6.out.but but7 (by have := LO.out; have := LS.out; have := LW.out; simp [Value.ownBlock]; omega))
    have P7 := hideP ((but7.block w.heap.size (Array.getElem?_eq_some_iff.1 P6.out).1 (by have := LO.out; have := LW.out; have := LP.out; omega)).trans P6.out)
    have HW7 := hideP (HW6.out.trans (but7.below (B := w.heap.size) (by have := LO.out; have := LW.out; have := LP.out; omega) HW6.out.size))
    clear o7 hg7 but7 HW6 P6 OS6 OI6
    go_wp2_with fail
    refine (heldIntS_any l.length _ w4.heap.size 1 _ OI7.out (by omega) (by have := hlen.out; omega)).mono ?_
    rintro e8 w8 ⟨rfl, rfl⟩
    have hk : Hid (((1 + l.length : Nat) : Int) = 1 + (l.length : Int)) := by show _ = _; omega
    have hk0 : ¬ ((1 + l.length : Nat) : Int) < 0 := by omega
    have p0 := (cells_of P7.out).1 0
    have p1 := (cells_of P7.out).1 1
    have p2 := (cells_of P7.out).1 2
    have p3 := (cells_of P7.out).1 3
    have p4 := (cells_of P7.out).1 4
    have p5 := (cells_of P7.out).1 5
    have p6 := (cells_of P7.out).1 6
    simp at p0 p1 p2 p3 p4 p5 p6
    go_wp2_with fail
    refine (TO.out _).mono ?_
    rintro e9 w9 ⟨v9, rfl, h9, bel9⟩
    have h9' := h9
    obtain ⟨rfl, _⟩ := h9'
    go_wp2_with fail
    refine (IO.out _ _ (InsKeeps.mono h9 (Nat.zero_le _))).mono ?_
    rintro ea wa ⟨va, rfl, oa, bela⟩
    have ba := below_trans bel9 bela
    have HWa := hideP (below_trans HW7.out ba)
    obtain ⟨ga, ca, rfl, _⟩ := id oa
    have OSa := hideP (OS7.out.stays ba)
    have OIa := hideP (OI7.out.stays ba)
    have OAa := hideP oa
    clear bel9 bela ba h9 oa p0 p1 p2 p3 p4 p5 p6 HW7 P7 OS7 OI7
    go_wp2_with fail
    refine (eqIntS_same l _ _ _ _ _ _ _ OAa.out.is.2 OSa.out.is.2).mono ?_
    rintro eb wb ⟨rfl, belb⟩
    have HWb := hideP (below_trans HWa.out belb)
    have OIb := hideP (OIa.out.stays belb)
    clear belb HWa OSa OIa OAa
    go_wp2_with fail
    refine (heldIntS_any l.length _ w4.heap.size 1 _ OIb.out (by omega) (by have := hlen.out; omega)).mono ?_
    rintro ec wc ⟨rfl, rfl⟩
    go_wp2
    go_ret
    exact ⟨rfl, HWb.out⟩
  · have E := hideP (szR_neg (Nat.lt_of_not_le hs))
    clear hs
    go_enter Try.func6, Try.ntmps6
    go_wp2_with fail
    refine (SZ.out _).mono ?_
    rintro e1 w1 ⟨rfl, bel1⟩
    rw [E.out]
    have HW1 := hideP (below_new bel1)
    clear bel1
    go_wp2
    go_ret
    exact ⟨rfl, HW1.out⟩
end UsesLaw
end Go.Proofs.Ytkkjnjnbeekmcaj
