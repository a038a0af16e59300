/- The contracts of impl.sameBlock, of slices.EqualFunc over it, and of impl.SameGraph. -/
import Derived.Test.YtkkjnjnbeekmcakSameGP
namespace Go.Proofs.Ytkkjnjnbeekmcak
open Go.ChangeShapes Go.WideShapes Go.ChangeAt Go.RowKit
theorem drewN_below (w : World) (q : Nat) : Below w.heap.size w (w.drewN q) := by
  induction q with
  | zero => exact Below.refl _ _
  | succ q ih => exact ih.drew
set_option maxHeartbeats 2000000 in
theorem sameBlock_any (x y : Blk) (w : World) (B1 B2 : Nat) (v1 v2 : Array Value) (h1 : BlkIs w B1 v1 x) (h2 : BlkIs w B2 v2 y) :
    Calls Try.prog 19 #[.agg v1, .agg v2] w fun en w' => en = .returned (.bool (blkB x y)) ∧ Below w.heap.size w w' := by
  obtain ⟨c1, j1, a1, t1, e1⟩ := x
  obtain ⟨c2, j2, a2, t2, e2⟩ := y
  obtain ⟨u1, k1, rfl, _, s1⟩ := h1
  obtain ⟨u2, k2, rfl, _, s2⟩ := h2
  simp only at *
  have H1 := hideP s1
  have H2 := hideP s2
  clear s1 s2
  go_enter Try.func19, Try.ntmps19
  go_wp2_with fail
  refine (equalIns_any c1 c2 _ B1 B2 u1 u2 k1 k2 (H1.out.stays InsKeeps (below2 w _ _)) (H2.out.stays InsKeeps (below2 w _ _))).mono ?_
  rintro y1 w1 ⟨rfl, q, rfl⟩
  obtain ⟨r, hr⟩ : ∃ r, all2 insB c1 c2 = r := ⟨_, rfl⟩
  have E : Hid (blkB ⟨c1, j1, a1, t1, e1⟩ ⟨c2, j2, a2, t2, e2⟩ = (r && (j1 == j2 && (a1 == a2 && (t1 == t2 && e1 == e2))))) := by show _ = _; simp only [blkB, hr]
  rw [hr]
  have bb : ∀ o1 o2, Below w.heap.size w (((w.alloc o1).alloc o2).drewN q) := fun o1 o2 => (below2 w o1 o2).trans ((drewN_below _ q).mono (by simp; omega))
  clear hr H1 H2
  cases r
  · go_wp2
    go_ret
    exact ⟨ret_bool (by rw [E.out]; rfl), bb _ _⟩
  · go_wp2
    all_goals go_ret
    all_goals exact ⟨ret_bool (by rw [E.out]; clear E; simp [*]), bb _ _⟩
set_option maxHeartbeats 4000000 in
theorem equalFunc_any (xs ys : List Blk) (w : World) (B1 B2 : Nat) (a1 a2 : Option Addr) (c1 c2 : Nat) (h1 : SlIs BlkIs 5 w B1 a1 xs) (h2 : SlIs BlkIs 5 w B2 a2 ys) :
    Calls Try.prog 18 #[.slice a1 xs.length c1, .slice a2 ys.length c2, .func (.func 19) #[] #[]] w fun en w' => en = .returned (.bool (all2 blkB xs ys)) ∧ Below w.heap.size w w' := by
  have hm := maxLen_lt
  have hl1 := h1.1
  have hl2 := h2.1
  by_cases hne : xs.length = ys.length
  · have H1 := hideP h1
    have H2 := hideP h2
    rw [← hne]
    have HN := hideP hne
    clear h1 h2 hl2 hne
    go_enter Try.func18, Try.ntmps18
    go_wp2
    go_loopw [17] (fun i wr => ∃ j : Nat, j ≤ xs.length ∧ i = .int .i64 j ∧ Below w.heap.size w wr ∧ Hid (all2 blkB xs ys = all2 blkB (xs.drop j) (ys.drop j))) (fun i _ => xs.length - (intOf i).toNat)
    case atStart => exact ⟨0, Nat.zero_le _, rfl, Below.refl _ _, rfl⟩
    case round =>
      obtain ⟨j, hj, rfl, bel, hs⟩ := hrel
      by_cases hlt : j < xs.length
      · have hlt2 : j < ys.length := by have := HN.out; omega
        have st := all2_step blkB hlt hlt2
        obtain ⟨b, o, x0, x1, x2, x3, x4, ux, kx, rfl, _, hbx, hx, p0, p1, p2, p3, p4, hbX⟩ := Blk_get (H1.out.stays BlkKeeps bel) j hlt
        obtain ⟨b', o', y0, y1, y2, y3, y4, uy, ky, rfl, _, hby, hy, q0, q1, q2, q3, q4, hbY⟩ := Blk_get (H2.out.stays BlkKeeps bel) j hlt2
        rw [hx, hy] at st
        obtain ⟨r, hr⟩ : ∃ r, blkB ⟨x0, x1, x2, x3, x4⟩ ⟨y0, y1, y2, y3, y4⟩ = r := ⟨_, rfl⟩
        have SB : Hid (∀ W, Below wr.heap.size wr W → Calls Try.prog 19 #[.agg #[.slice ux x0.length kx, .int .i64 x1, .int .i64 x2, .int .i64 x3, .int .i64 x4], .agg #[.slice uy y0.length ky, .int .i64 y1, .int .i64 y2, .int .i64 y3, .int .i64 y4]] W fun en w' => en = .returned (.bool r) ∧ Below W.heap.size W w') := fun W hW => by rw [← hr]; exact sameBlock_any _ _ W B1 B2 _ _ (BlkKeeps.stays hbX hW) (BlkKeeps.stays hbY hW)
        rw [hr] at st
        have E := hideP (hs.out.trans st)
        have HB := hideP bel
        have hsz := bel.size
        have z0 := (((Below.refl wr.heap.size wr).alloc (Nat.le_refl _) (.cells #[.slice ux x0.length kx, .int .i64 x1, .int .i64 x2, .int .i64 x3, .int .i64 x4] 40)).cell (p := ⟨b', o' + j * 5, none⟩) hby).trans q0
        have z1 := (((Below.refl wr.heap.size wr).alloc (Nat.le_refl _) (.cells #[.slice ux x0.length kx, .int .i64 x1, .int .i64 x2, .int .i64 x3, .int .i64 x4] 40)).cell (p := ⟨b', o' + j * 5 + 1, none⟩) hby).trans q1
        have z2 := (((Below.refl wr.heap.size wr).alloc (Nat.le_refl _) (.cells #[.slice ux x0.length kx, .int .i64 x1, .int .i64 x2, .int .i64 x3, .int .i64 x4] 40)).cell (p := ⟨b', o' + j * 5 + 2, none⟩) hby).trans q2
        have z3 := (((Below.refl wr.heap.size wr).alloc (Nat.le_refl _) (.cells #[.slice ux x0.length kx, .int .i64 x1, .int .i64 x2, .int .i64 x3, .int .i64 x4] 40)).cell (p := ⟨b', o' + j * 5 + 3, none⟩) hby).trans q3
        have z4 := (((Below.refl wr.heap.size wr).alloc (Nat.le_refl _) (.cells #[.slice ux x0.length kx, .int .i64 x1, .int .i64 x2, .int .i64 x3, .int .i64 x4] 40)).cell (p := ⟨b', o' + j * 5 + 4, none⟩) hby).trans q4
        clear hr hx hy st hs hbX hbY bel
        go_wp2_with fail
        refine (SB.out _ (below2 wr _ _)).mono ?_
        rintro e1 w1 ⟨rfl, bel1⟩
        have HB1 := hideP (HB.out.trans ((two bel1).2.2.2.mono hsz))
        clear bel1 z0 z1 z2 z3 z4 p0 p1 p2 p3 p4 q0 q1 q2 q3 q4
        cases r
        · go_wp2
          go_ret
          exact ⟨ret_bool (by rw [E.out]; rfl), HB1.out⟩
        · go_wp2
          go_roundw
          case rel => exact ⟨j + 1, by omega, by go_num, HB1.out, by show _ = _; rw [E.out]; rfl⟩
          case measure => simp [intOf]; omega
      · have hjn : j = xs.length := by omega
        subst hjn
        have E : Hid (all2 blkB xs ys = true) := hs.out.trans (all2_end blkB xs ys HN.out)
        go_wp2
        go_ret
        exact ⟨ret_bool E.out.symm, bel⟩
  · rw [all2_ne blkB xs ys hne]
    have hne' : ¬ (xs.length : Int) = (ys.length : Int) := by omega
    clear h1 h2
    go_enter Try.func18, Try.ntmps18
    go_wp2
    go_ret
    exact ⟨rfl, Below.refl _ _⟩
set_option maxHeartbeats 4000000 in
theorem impl_sameGraph (x y : Gr) (w : World) (B1 B2 : Nat) (v1 v2 : Array Value) (h1 : GrIs w B1 v1 x) (h2 : GrIs w B2 v2 y) :
    Calls Try.prog 8 #[.agg v1, .agg v2] w fun en w' => en = .returned (.bool (grB x y)) ∧ Below w.heap.size w w' := by
  obtain ⟨s1, p1, n1, t1, b1⟩ := x
  obtain ⟨s2, p2, n2, t2, b2⟩ := y
  obtain ⟨us1, cs1, ub1, cb1, rfl, _, hz1, hb1⟩ := h1
  obtain ⟨us2, cs2, ub2, cb2, rfl, _, hz2, hb2⟩ := h2
  simp only at *
  have Z1 := hideP hz1
  have Z2 := hideP hz2
  have H1 := hideP hb1
  have H2 := hideP hb2
  clear hz1 hz2 hb1 hb2
  go_enter Try.func8, Try.ntmps8
  go_wp2_with fail
  refine (slicesEqual_any s1 s2 _ us1 us2 cs1 cs2 (Z1.out.stays (below2 w _ _)).sees (Z2.out.stays (below2 w _ _)).sees).mono ?_
  rintro y1 w1 ⟨rfl, q, rfl⟩
  obtain ⟨r, hr⟩ : ∃ r, (s1 == s2) = r := ⟨_, rfl⟩
  obtain ⟨r2, hr2⟩ : ∃ r2, all2 blkB b1 b2 = r2 := ⟨_, rfl⟩
  have E : Hid (grB ⟨s1, p1, n1, t1, b1⟩ ⟨s2, p2, n2, t2, b2⟩ = (r && (p1 == p2 && (n1 == n2 && (t1 == t2 && r2))))) := by show _ = _; simp only [grB, hr, hr2]
  rw [hr]
  have bb : ∀ o1 o2, Below w.heap.size w (((w.alloc o1).alloc o2).drewN q) := fun o1 o2 => (below2 w o1 o2).trans ((drewN_below _ q).mono (by simp; omega))
  have EF : Hid (∀ W, Below w.heap.size w W → Calls Try.prog 18 #[.slice ub1 b1.length cb1, .slice ub2 b2.length cb2, .func (.func 19) #[] #[]] W fun en w' => en = .returned (.bool r2) ∧ Below W.heap.size W w') := fun W hW => by rw [← hr2]; exact equalFunc_any b1 b2 W B1 B2 ub1 ub2 cb1 cb2 (H1.out.stays BlkKeeps hW) (H2.out.stays BlkKeeps hW)
  clear hr hr2 Z1 Z2 H1 H2
  cases r
  · go_wp2
    go_ret
    exact ⟨ret_bool (by rw [E.out]; rfl), bb _ _⟩
  · go_wp2_with (go_at_call 18; refine (EF.out _ (bb _ _)).mono ?_; rintro e1 w1 ⟨rfl, bel1⟩; have HB1 := hideP ((bb _ _).trans (bel1.mono (bb _ _).size)); clear bel1)
    all_goals go_ret
    all_goals refine ⟨ret_bool ?_, by first | exact HB1.out | exact bb _ _⟩
    all_goals rw [E.out]
    all_goals clear E
    all_goals simp [*]
end Go.Proofs.Ytkkjnjnbeekmcak
