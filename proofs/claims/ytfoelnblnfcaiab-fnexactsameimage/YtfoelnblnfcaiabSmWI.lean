/- The contracts of impl.SameImage and spec.SameImage. -/
import Derived.Test.YtfoelnblnfcaiabSmWP
import Derived.Deep.CutRange
import Derived.Deep.LoopGhost
namespace Go.Proofs.Ytfoelnblnfcaiab
open Go.ChangeShapes Go.WideShapes Go.ChangeAt Go.RowKit
theorem drewN_belowW (w : World) (q : Nat) : Below w.heap.size w (w.drewN q) := by
  induction q with
  | zero => exact Below.refl _ _
  | succ q ih => exact ih.drew
set_option maxHeartbeats 4000000 in
theorem impl_sameImage (x y : Img) (w : World) (B1 B2 : Nat) (v1 v2 : Array Value) (h1 : ImgIs w B1 v1 x) (h2 : ImgIs w B2 v2 y) :
    Calls Try.prog 7 #[.agg v1, .agg v2] w fun en w' => en = .returned (.bool (imgB x y)) ∧ Below w.heap.size w w' := by
  obtain ⟨s1, p1, t1, b1⟩ := x
  obtain ⟨s2, p2, t2, b2⟩ := y
  obtain ⟨us1, cs1, ub1, cb1, rfl, _, hz1, hb1⟩ := h1
  obtain ⟨us2, cs2, ub2, cb2, rfl, _, hz2, hb2⟩ := h2
  simp only at *
  have Z1 := hideP hz1
  have Z2 := hideP hz2
  have H1 := hideP hb1
  have H2 := hideP hb2
  clear hz1 hz2 hb1 hb2
  go_enter Try.func7, Try.ntmps7
  go_wp2_with fail
  refine (slicesEqual_any s1 s2 _ us1 us2 cs1 cs2 (Z1.out.stays (below2 w _ _)).sees (Z2.out.stays (below2 w _ _)).sees).mono ?_
  rintro y1 w1 ⟨rfl, q, rfl⟩
  obtain ⟨r, hr⟩ : ∃ r, (s1 == s2) = r := ⟨_, rfl⟩
  obtain ⟨r2, hr2⟩ : ∃ r2, all2W wrdB b1 b2 = r2 := ⟨_, rfl⟩
  have E : Hid (imgB ⟨s1, p1, t1, b1⟩ ⟨s2, p2, t2, b2⟩ = (r && (p1 == p2 && (t1 == t2 && r2)))) := by show _ = _; simp only [imgB, hr, hr2]
  rw [hr]
  have bb : ∀ o1 o2, Below w.heap.size w (((w.alloc o1).alloc o2).drewN q) := fun o1 o2 => (below2 w o1 o2).trans ((drewN_belowW _ q).mono (by simp; omega))
  have EF : Hid (∀ W, Below w.heap.size w W → Calls Try.prog 15 #[.slice ub1 b1.length cb1, .slice ub2 b2.length cb2] W fun en w' => en = .returned (.bool r2) ∧ Below W.heap.size W w') := fun W hW => (equalWrd_any b1 b2 W B1 B2 ub1 ub2 cb1 cb2 (H1.out.stays WrdKeeps hW) (H2.out.stays WrdKeeps hW)).mono (by rintro en w' ⟨h1, q, rfl⟩; exact ⟨by rw [← hr2]; exact h1, drewN_belowW _ _⟩)
  clear hr hr2 Z1 Z2 H1 H2
  cases r
  · go_wp2
    go_ret
    exact ⟨ret_bool (by rw [E.out]; rfl), bb _ _⟩
  · go_wp2_with (go_at_call 15; refine (EF.out _ (bb _ _)).mono ?_; rintro e1 w1 ⟨rfl, bel1⟩; have HB1 := hideP ((bb _ _).trans (bel1.mono (bb _ _).size)); clear bel1)
    all_goals go_ret
    all_goals refine ⟨ret_bool ?_, by first | exact HB1.out | exact bb _ _⟩
    all_goals rw [E.out]
    all_goals clear E
    all_goals simp [*]
theorem box_atW {w X : World} {b : Nat} {cs : Array Value} {T : TypeId} (h : w.heap[b]? = some (.cells cs T (0, 0))) (bel : Below w.heap.size w X) : X.heap[b]? = some (.cells cs T (0, 0)) := (bel.block b (Array.getElem?_eq_some_iff.1 h).1).trans h
theorem two_atW (w : World) (o1 o2 : Obj) (q : Nat) : (((w.alloc o1).alloc o2).drewN q).heap[w.heap.size]? = some o1 ∧ (((w.alloc o1).alloc o2).drewN q).heap[w.heap.size + 1]? = some o2 := by
  have h := two (drewN_belowW ((w.alloc o1).alloc o2) q)
  exact ⟨h.1, h.2.1⟩
set_option maxHeartbeats 16000000 in
set_option maxRecDepth 100000 in
theorem spec_sameImage (x y : Img) (w : World) (B1 B2 : Nat) (v1 v2 : Array Value) (h1 : ImgIs w B1 v1 x) (h2 : ImgIs w B2 v2 y) :
    Calls Try.prog 5 #[.agg v1, .agg v2] w fun en w' => en = .returned (.bool (imgB x y)) ∧ Below w.heap.size w w' := by
  obtain ⟨s1, p1, t1, b1⟩ := x
  obtain ⟨s2, p2, t2, b2⟩ := y
  obtain ⟨us1, cs1, ub1, cb1, rfl, _, hz1, hb1⟩ := h1
  obtain ⟨us2, cs2, ub2, cb2, rfl, _, hz2, hb2⟩ := h2
  simp only at *
  have hm := maxLen_lt
  have hl1 := hb1.1
  have hl2 := hb2.1
  have Z1 := hideP hz1
  have Z2 := hideP hz2
  have H1 := hideP hb1
  have H2 := hideP hb2
  clear hz1 hz2 hb1 hb2
  go_enter Try.func5, Try.ntmps5
  go_wp2_with fail
  refine (l02Ints_any s1 s2 _ us1 us2 cs1 cs2 (Z1.out.stays (below2 w _ _)).sees (Z2.out.stays (below2 w _ _)).sees).mono ?_
  rintro y1 w1 ⟨rfl, q, rfl⟩
  obtain ⟨r, hr⟩ : ∃ r, (s1 == s2) = r := ⟨_, rfl⟩
  have E : Hid (imgB ⟨s1, p1, t1, b1⟩ ⟨s2, p2, t2, b2⟩ = (r && (p1 == p2 && (t1 == t2 && all2W wrdB b1 b2)))) := by show _ = _; simp only [imgB, hr]
  rw [hr]
  obtain ⟨W0, hW0⟩ : ∃ W0, ((w.alloc (.cells #[.slice us1 s1.length cs1, .int .i64 p1, .int .i64 t1, .slice ub1 b1.length cb1] 30)).alloc (.cells #[.slice us2 s2.length cs2, .int .i64 p2, .int .i64 t2, .slice ub2 b2.length cb2] 30)).drewN q = W0 := ⟨_, rfl⟩
  have hq := two_atW w (.cells #[.slice us1 s1.length cs1, .int .i64 p1, .int .i64 t1, .slice ub1 b1.length cb1] 30) (.cells #[.slice us2 s2.length cs2, .int .i64 p2, .int .i64 t2, .slice ub2 b2.length cb2] 30) q
  have BW : Hid (Below w.heap.size w W0) := by rw [← hW0]; exact (below2 w _ _).trans ((drewN_belowW _ q).mono (by simp; omega))
  rw [hW0] at hq ⊢
  have Q1 := hideP hq.1
  have Q2 := hideP hq.2
  have a0 := (cells_of hq.1).1 0
  have a1 := (cells_of hq.1).1 1
  have a2 := (cells_of hq.1).1 2
  have a3 := (cells_of hq.1).1 3
  have c0 := (cells_of hq.2).1 0
  have c1 := (cells_of hq.2).1 1
  have c2 := (cells_of hq.2).1 2
  have c3 := (cells_of hq.2).1 3
  simp at a0 a1 a2 a3 c0 c1 c2 c3
  clear hr hq hW0 Z1 Z2
  cases r
  · go_wp2
    go_ret
    exact ⟨ret_bool (by rw [E.out]; rfl), BW.out⟩
  · by_cases hp : p1 = p2
    · by_cases ht : t1 = t2
      · by_cases hne : b1.length = b2.length
        · subst hp ht
          have E2 : Hid (imgB ⟨s1, p1, t1, b1⟩ ⟨s2, p1, t1, b2⟩ = all2W wrdB b1 b2) := by show _ = _; rw [E.out]; simp
          have HN := hideP hne
          rw [← hne] at c3
          clear hne E hl2
          go_wp2
          clear a0 a1 a2 a3 c0 c1 c2 c3
          go_loopg [5] b1.length (fun gk i wr => ∃ j n : Nat, gk + j = b1.length ∧ i = .int .i64 j ∧ wr = W0.drewN n ∧ Hid (all2W wrdB b1 b2 = all2W wrdB (b1.drop j) (b2.drop j)))
          case atStart => exact ⟨0, 0, by simp, rfl, rfl, rfl⟩
          case round =>
            obtain ⟨j, n, hj, rfl, rfl, hs⟩ := hrel
            have k3 := (cells_of Q1.out).1 3
            have m3 := (cells_of Q2.out).1 3
            simp at k3 m3
            rw [← HN.out] at m3
            by_cases hlt : j < b1.length
            · have hlt2 : j < b2.length := by have := HN.out; omega
              have st := all2_stepW wrdB hlt hlt2
              obtain ⟨bu, ou, i0, i1, i2, i3, i4, hu1, _, _, hi, c0, c1, c2, c3, c4, _⟩ := Wrd_get (H1.out.stays WrdKeeps BW.out) j hlt
              obtain ⟨bv, ov, l0, l1, l2, l3, l4, hu2, _, _, hl, d0, d1, d2, d3, d4, _⟩ := Wrd_get (H2.out.stays WrdKeeps BW.out) j hlt2
              have EQ0 := fun X => eqWrd ⟨i0, i1, i2, i3, i4⟩ ⟨l0, l1, l2, l3, l4⟩ X
              rw [hi, hl] at st
              obtain ⟨z, hz⟩ : ∃ z, wrdB ⟨i0, i1, i2, i3, i4⟩ ⟨l0, l1, l2, l3, l4⟩ = z := ⟨_, rfl⟩
              rw [hz] at EQ0 st
              simp only at EQ0
              rw [hu1] at k3
              rw [hu2] at m3
              have gd := gdW
              have E5 := hideP (hs.out.trans st)
              clear hz hi hl st hs hu1 hu2
              go_wp2
              go_region
              all_goals
                cases z
                · go_wp2
                  go_ret
                  exact ⟨ret_bool (by rw [E2.out, E5.out]; rfl), BW.out.trans ((drewN_belowW W0 (n + 1)).mono BW.out.size)⟩
                · go_wp2
                  go_roundg (b1.length - (j + 1))
                  case rel => exact ⟨j + 1, n + 1, by omega, by go_num, rfl, by show _ = _; rw [E5.out]; rfl⟩
                  case measure => omega
            · have hjn : j = b1.length := by omega
              subst hjn
              have E4 : Hid (all2W wrdB b1 b2 = true) := hs.out.trans (all2_endW wrdB b1 b2 HN.out)
              go_wp2
              go_ret
              exact ⟨ret_bool (by rw [E2.out, E4.out]), BW.out.trans ((drewN_belowW W0 n).mono BW.out.size)⟩
        · have E2 : Hid (imgB ⟨s1, p1, t1, b1⟩ ⟨s2, p2, t2, b2⟩ = false) := by show _ = _; rw [E.out, all2_neW wrdB b1 b2 hne]; simp
          have hne' : ¬ (b1.length : Int) = (b2.length : Int) := by omega
          clear E
          go_wp2
          go_ret
          exact ⟨ret_bool E2.out.symm, BW.out⟩
      · have E2 : Hid (imgB ⟨s1, p1, t1, b1⟩ ⟨s2, p2, t2, b2⟩ = false) := by show _ = _; rw [E.out]; simp [ht]
        clear E
        go_wp2
        go_ret
        exact ⟨ret_bool E2.out.symm, BW.out⟩
    · have E2 : Hid (imgB ⟨s1, p1, t1, b1⟩ ⟨s2, p2, t2, b2⟩ = false) := by show _ = _; rw [E.out]; simp [hp]
      clear E
      go_wp2
      go_ret
      exact ⟨ret_bool E2.out.symm, BW.out⟩
end Go.Proofs.Ytfoelnblnfcaiab
