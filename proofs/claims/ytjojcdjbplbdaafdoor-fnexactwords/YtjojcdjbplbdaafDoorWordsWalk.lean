/- The walk of the law FnExactWords out of the contracts of its callees. -/
import Derived.Test.YtjojcdjbplbdaafDoorWords
namespace Go.Proofs.YtjojcdjbplbdaafDoor
open Go.ChangeShapes Go.WideShapes Go.ChangeAt Go.RowKit
namespace WordsLaw

/-- A list that is owned lies somewhere, where it has an element. -/
theorem own_at {w : World} {B : Nat} {e : TypeId} {v : Value} {ps : List ByteArray} (h : w.ownsRow B e 1 v ps.length (ps.map Value.string)) (hne : ps ≠ []) :
    ∃ g cap, v = .slice (some ⟨g, 0, none⟩) ps.length cap ∧ B ≤ g ∧ g < w.heap.size ∧ StrsAt w g ps := by
  obtain ⟨_, ⟨_, h0⟩ | ⟨g, cap, cur, rfl, hB, hh, hn, _, hs, ht⟩⟩ := h
  · exact absurd (List.length_eq_zero_iff.1 h0) hne
  · refine ⟨g, cap, rfl, hB, (Array.getElem?_eq_some_iff.1 hh).1, fun i hi => ?_⟩
    have h1 : (cur.toList.take (ps.length * 1))[i]? = (ps.map Value.string)[i]? := by rw [ht]
    rw [List.getElem?_take_of_lt (by omega), List.getElem?_map, List.getElem?_eq_getElem hi, Array.getElem?_toList] at h1
    simp only [World.cell?, hh]
    exact h1
theorem strs_of_heap {w : World} {b : Nat} {ps : List ByteArray} {e : TypeId} (h : w.heap[b]? = some (.cells (ps.map Value.string).toArray e (0, 0))) : StrsAt w b ps := fun i hi => by
  simp [World.cell?, h, hi]
theorem marked_cells {w : World} {b n k : Nat} {cur : Array Value} {e : TypeId} (h : w.heap[b]? = some (.cells cur e (0, 0))) (hm : Marked cur k n) : ∀ i, i < n → w.cell? ⟨b, i, none⟩ = some (.string (markS (k + i))) := fun i hi => by
  simp only [World.cell?, h]; exact hm i hi

theorem below_drewN2 {B : Nat} {a w : World} (h : Below B a w) (q : Nat) : Below B a (w.drewN q) := ⟨h.os, h.tape, h.output, h.size, h.block⟩

set_option maxHeartbeats 800000 in
theorem walk (s : ByteArray) (w : World) (m : Int) (hsz : s.size ≤ maxLen) (hm : w.cell? ⟨5, 0, none⟩ = some (.int .i64 m)) :
    Calls Tryd.prog 6 #[.string s] w fun e w' => e = .returned (.bool true) ∧ Below w.heap.size w w' := by
  unfold maxLen at hsz
  have hg := World.block_lt_of_cell? _ _ hm
  have hg : 5 < w.heap.size := hg
  have HM := hideP hm
  clear hm
  by_cases hb : s.size ≤ 1048576
  · go_enter Tryd.func6, Tryd.ntmps6
    go_wp2_with fail
    refine (spec_words s _ hb).mono ?_
    rintro e w1 ⟨v0, ps, rfl, hps, hown, bel1⟩
    have hlen : ps.length ≤ 1048577 := by
      have h1 := congrArg List.length hps.out
      rw [List.length_map] at h1
      have h2 := wordsL_length s.data.toList
      rw [dlen] at h2; omega
    have hne : ps ≠ [] := by
      intro e0; have h1 := hps.out; rw [e0] at h1; exact wordsL_ne _ h1.symm
    obtain ⟨g, cap, rfl, hBg, hgs, hst⟩ := own_at hown hne
    have HST := hideP hst
    have HB1 := hideP bel1
    have hs1 := bel1.size
    have hm1 : w1.cell? ⟨5, 0, none⟩ = some (.int .i64 m) := (bel1.cell (p := ⟨5, 0, none⟩) hg).trans HM.out
    have HM1 := hideP hm1
    have hlp : 1 ≤ ps.length := by cases ps with | nil => exact absurd rfl hne | cons a t => simp
    clear hown hne hst bel1 hm1 HM
    go_wp2_with fail
    refine (impl_words s m _ hb HM1.out).mono ?_
    rintro e w2 ⟨b1, ps1, rfl, hb1, hps1, hh1, bel2⟩
    obtain rfl : ps1 = ps := bytes_inj (hps1.out.trans hps.out.symm)
    have HH1 := hideP hh1
    have HB2 := hideP bel2
    have hs2 := bel2.size
    have hb1s : b1 < w2.heap.size := (Array.getElem?_eq_some_iff.1 hh1).1
    clear hh1 bel2
    go_wp2_with fail
    refine (eqStringS_same ps1 b1 g _ _ _ (by omega) (strs_of_heap HH1.out) (HST.out.below hgs HB2.out)).mono ?_
    rintro e w3 ⟨rfl, nq, rfl⟩
    go_wp2_with fail
    refine (markStringS_any ps1.length 1 b1 _ (ps1.map Value.string).toArray 9 _ (by decide) (by omega) (by simp) (by exact HH1.out)).mono ?_
    rintro e w4 ⟨rfl, hbut, cur', hc4, hsz4, hmk⟩
    have HBUT := hideP hbut
    have HC4 := hideP hc4
    have hs4 : w2.heap.size ≤ w4.heap.size := hbut.size
    clear hbut hc4 hsz4
    have HMK := hideP (marked_cells HC4.out hmk)
    clear hmk
    go_wp2_with fail
    refine (heldStringS_any ps1.length 1 b1 _ _ (by decide) (by omega) (by omega) HMK.out).mono ?_
    rintro e w5 ⟨rfl, bel5⟩
    have HB5 := hideP bel5
    have hs5 := bel5.size
    clear bel5
    have hm5 : w5.cell? ⟨5, 0, none⟩ = some (.int .i64 m) :=
      (HB5.out.cell (p := ⟨5, 0, none⟩) (show 5 < w4.heap.size by omega)).trans ((HBUT.out.cell (c := 5) (show 5 < w2.heap.size by omega) (by omega)).trans ((HB2.out.cell (p := ⟨5, 0, none⟩) (show 5 < w1.heap.size by omega)).trans HM1.out))
    have HM5 := hideP hm5
    clear hm5
    have hpos : ¬ ((1 + ps1.length : Nat) : Int) < 0 := by omega
    go_wp2_with fail
    refine (impl_words s m _ hb HM5.out).mono ?_
    rintro e w6 ⟨b2, ps2, rfl, hb2, hps2, hh2, bel6⟩
    obtain rfl : ps2 = ps1 := bytes_inj (hps2.out.trans hps.out.symm)
    have HH2 := hideP hh2
    have HB6 := hideP bel6
    have hs6 := bel6.size
    clear hh2 bel6
    have hst6 : StrsAt w6 g ps2 := by
      refine StrsAt.below (w := w5) ?_ (by omega) HB6.out
      refine StrsAt.below (w := w4) ?_ (by omega) HB5.out
      intro i hi
      exact (HBUT.out.cell (c := g) (show g < w2.heap.size by omega) (by omega)).trans (HST.out.below hgs HB2.out i hi)
    have HST6 := hideP hst6
    clear hst6
    go_wp2_with fail
    refine (eqStringS_same ps2 b2 g _ _ _ (by omega) (strs_of_heap HH2.out) HST6.out).mono ?_
    rintro e w7 ⟨rfl, nq2, rfl⟩
    have hmk6 : ∀ i, i < ps2.length → w6.cell? ⟨b1, i, none⟩ = some (.string (markS (1 + i))) := fun i hi =>
      (HB6.out.cell (p := ⟨b1, i, none⟩) (show b1 < w5.heap.size by omega)).trans ((HB5.out.cell (p := ⟨b1, i, none⟩) (show b1 < w4.heap.size by omega)).trans (HMK.out i hi))
    have HMK6 := hideP hmk6
    clear hmk6
    go_wp2_with fail
    refine (heldStringS_any ps2.length 1 b1 _ _ (by decide) (by omega) (by show b1 < w6.heap.size; omega) (by exact HMK6.out)).mono ?_
    rintro e w8 ⟨rfl, bel8⟩
    go_wp2
    go_ret
    refine ⟨rfl, ?_⟩
    have c1 : Below w.heap.size w w2 := HB1.out.trans (HB2.out.mono hs1)
    have c2 : Below w.heap.size w w4 := (below_drewN2 c1 nq).trans (HBUT.out.below (by omega) (show w.heap.size ≤ w2.heap.size by omega))
    have c3 : Below w.heap.size w w6 := (c2.trans (HB5.out.mono (by omega))).trans (HB6.out.mono (by omega))
    exact (below_drewN2 c3 nq2).trans (bel8.mono (show w.heap.size ≤ w6.heap.size by omega))
  · go_enter Tryd.func6, Tryd.ntmps6
    go_wp2_with fail
    go_ret
    exact ⟨rfl, Below.refl _ _⟩
end WordsLaw
end Go.Proofs.YtjojcdjbplbdaafDoor
