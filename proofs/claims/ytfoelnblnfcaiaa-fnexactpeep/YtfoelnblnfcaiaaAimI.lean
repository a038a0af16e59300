/- The contract of impl.Aims. -/
import Derived.Test.YtfoelnblnfcaiaaAimP
import Derived.Test.YtfoelnblnfcaiaaAscK
namespace Go.Proofs.Ytfoelnblnfcaiaa
open Go.ChangeShapes Go.WideShapes Go.ChangeAt Go.RowKit
set_option maxHeartbeats 8000000 in
set_option maxRecDepth 100000 in
theorem impl_aims (m : Img) (w : World) (B : Nat) (v : Array Value) (h : ImgIs w B v m) (GO : ImOk 11 m) :
    Calls Try.prog 20 #[.agg v] w fun en w' => ∃ v', en = .returned v' ∧ OwnI w' w.heap.size v' (aimsP m) ∧ Below w.heap.size w w' := by
  obtain ⟨y, hy⟩ : ∃ y, imgOk m = y := ⟨_, rfl⟩
  have CY : Hid (∀ W, Below w.heap.size w W → Calls Try.prog 11 #[.agg v] W fun en w' => en = .returned (.bool y) ∧ Below W.heap.size W w') := fun W hW => by rw [← hy]; exact GO W B v (ImgKeeps.stays h hW)
  have HN : Hid (y = true → m.code.length ≤ 6000) := fun e => (imgOk_few (by rw [hy]; exact e)).1
  have EP : Hid (aimsP m = if y = true then addAll (goL m.code) else []) := by show _ = _; unfold aimsP; rw [hy]
  obtain ⟨P, hP⟩ : ∃ P, aimsP m = P := ⟨_, rfl⟩
  rw [hP] at EP ⊢
  clear hy hP GO
  obtain ⟨sizes, params, slots, code⟩ := m
  obtain ⟨us, cs, ub, cb, rfl, _, _, hb⟩ := h
  simp only at *
  have hm := maxLen_lt
  have hl := hb.1
  have HB := hideP hb
  clear hb
  have AL := hideP (below2 w (.cells #[.slice us sizes.length cs, .int .i64 params, .int .i64 slots, .slice ub code.length cb] 30) (.cells #[] 3))
  have BX1 := hideP (two (w := w) (o1 := .cells #[.slice us sizes.length cs, .int .i64 params, .int .i64 slots, .slice ub code.length cb] 30) (o2 := .cells #[] 3) (Below.refl _ _)).1
  have O1 : Hid (OwnI ((w.alloc (.cells #[.slice us sizes.length cs, .int .i64 params, .int .i64 slots, .slice ub code.length cb] 30)).alloc (.cells #[] 3)) (w.heap.size + 1) (.slice (some ⟨w.heap.size + 1, 0, none⟩) 0 0) []) := by
    have := own_lit (w.alloc (.cells #[.slice us sizes.length cs, .int .i64 params, .int .i64 slots, .slice ub code.length cb] 30)) [] #[] (w.heap.size + 1) 0 (by simp) rfl rfl (by simp)
    show OwnI _ _ _ _
    simpa using this
  have Z1 : Hid (w.heap.size + 1 ≤ ((w.alloc (.cells #[.slice us sizes.length cs, .int .i64 params, .int .i64 slots, .slice ub code.length cb] 30)).alloc (.cells #[] 3)).heap.size) := by show _ ≤ _; simp
  go_enter Try.func20, Try.ntmps20
  go_wp2_with fail
  refine (CY.out _ AL.out).mono ?_
  rintro e1 w1 ⟨rfl, b1⟩
  have BB := hideP (below_trans AL.out b1)
  have OO := hideP (O1.out.stays b1)
  have BX := hideP ((b1.block _ (Array.getElem?_eq_some_iff.1 BX1.out).1).trans BX1.out)
  have SZ : Hid (w.heap.size + 1 ≤ w1.heap.size) := Nat.le_trans Z1.out b1.size
  clear b1 O1 BX1 AL Z1
  cases y
  · go_wp2
    go_ret
    refine ⟨_, rfl, ?_, BB.out⟩
    rw [EP.out, if_neg (by simp)]
    exact OO.out.mono (Nat.le_succ _)
  · have gg := (cells_of BX.out).1
    have p3 := gg 3
    simp at p3
    have hn6 := HN.out rfl
    clear gg
    go_wp2
    clear p3
    go_loopg [3, 14] code.length (fun gk o i wr => ∃ j : Nat, gk + j = code.length ∧ i = .int .i64 j ∧ Hid (OwnI wr (w.heap.size + 1) o (goL (code.take j))) ∧ Hid (Below w.heap.size w wr) ∧ Hid (w.heap.size + 1 ≤ wr.heap.size))
    case atStart => exact ⟨0, by simp, rfl, OO.out, BB.out, SZ.out⟩
    case round =>
      obtain ⟨j, hj, rfl, ho, hbw, hsz⟩ := hrel
      obtain ⟨go, co, rfl, _⟩ := id ho.out
      by_cases hlt : j < code.length
      · obtain ⟨b, o, y0, y1, y2, y3, y4, rfl, _, hbi, hy, r0, r1, r2, r3, r4, hxx⟩ := Wrd_get (HB.out.stays WrdKeeps hbw.out) j hlt
        have HY := hideP hy
        have al := (Below.refl wr.heap.size wr).alloc (Nat.le_refl _) (.cells #[.int .i64 y0, .int .i64 y1, .int .i64 y2, .int .i64 y3, .int .i64 y4] 44)
        have AL := hideP al
        have NX : Hid ((wr.alloc (.cells #[.int .i64 y0, .int .i64 y1, .int .i64 y2, .int .i64 y3, .int .i64 y4] 44)).heap[wr.heap.size]? = some (.cells #[.int .i64 y0, .int .i64 y1, .int .i64 y2, .int .i64 y3, .int .i64 y4] 44)) := by show (wr.heap.push _)[wr.heap.size]? = _; exact Array.getElem?_push_size
        clear hy hxx al
        go_wp2_with fail
        refine (goes_any y0 y1 y2 y3 y4 _).mono ?_
        rintro e2 w2 ⟨rfl, b2⟩
        have BA := hideP (below_trans AL.out b2)
        have BB2 := hideP (below_trans hbw.out BA.out)
        have OO2 := hideP (ho.out.stays BA.out)
        have SZ2 : Hid (w.heap.size + 1 ≤ w2.heap.size) := Nat.le_trans hsz.out BA.out.size
        have NY := hideP (keepW NX.out b2)
        have q4 := (cells_of NY.out).1 4
        simp at q4
        have hlw : wr.heap.size < w2.heap.size := (Array.getElem?_eq_some_iff.1 NY.out).1
        clear b2 r0 r1 r2 r3 r4 NX NY AL
        cases hq : goesW ⟨y0, y1, y2, y3, y4⟩
        · have U := hideP (goL_no code j hlt (by rw [HY.out]; exact hq))
          clear q4
          go_wp2
          go_roundg (code.length - (j + 1))
          case rel => exact ⟨j + 1, by omega, by go_num, by rw [U.out]; exact OO2.out, BB2.out, SZ2.out⟩
          case measure => omega
        · have U := hideP (goL_yes code j hlt (by rw [HY.out]; exact hq))
          rw [HY.out] at U
          obtain ⟨L, hL⟩ : ∃ L, goL (code.take j) = L := ⟨_, rfl⟩
          have hLl : L.length ≤ 6000 := by rw [← hL]; have h2 := goL_len (code.take j); simp at h2; omega
          rw [hL] at OO2 U ⊢
          clear hL hq OO BB
          have al := (Below.refl w2.heap.size w2).alloc (Nat.le_refl _) (.cells #[.int .i64 y4] 3)
          have OC := hideP (OO2.out.stays al)
          have OD := hideP (own_lit w2 [y4] #[.int .i64 y4] w2.heap.size 1 rfl rfl rfl (by simp))
          have BC := hideP (BB2.out.alloc BB2.out.size (.cells #[.int .i64 y4] 3))
          have SC : Hid (w.heap.size + 1 ≤ (w2.alloc (.cells #[.int .i64 y4] 3)).heap.size) := by have := SZ2.out; show _ ≤ _; simp; omega
          clear al
          go_wp2_with (at_builtin; refine list_appI _ rfl _ _ rfl (w.heap.size + 1) _ L [y4] w2.heap.size 0 1 1 rfl rfl rfl OC.out OD.out.at (by simp; omega) SC.out ?_; intro v6 w6 o6 grow6 loc6)
          replace grow6 : World.grownBy _ w6 (Value.slice (some ⟨go, 0, none⟩) L.length co).ownBlock := grow6
          have B6 := hideP (BC.out.grown grow6 BC.out.size (fun b' hb' => by have := OC.out.low b' hb'; omega))
          have Z6 : Hid (w.heap.size + 1 ≤ w6.heap.size) := Nat.le_trans SC.out grow6.size
          obtain ⟨g6, c6, rfl, _⟩ := id o6
          have O6 := hideP o6
          clear o6 grow6 loc6 q4
          go_wp2
          go_roundg (code.length - (j + 1))
          case rel => exact ⟨j + 1, by omega, by go_num, by rw [U.out]; simpa using O6, B6.out, Z6.out⟩
          case measure => omega
      · have hjn : j = code.length := by omega
        subst hjn
        obtain ⟨L, hL⟩ : ∃ L, goL (code.take code.length) = L := ⟨_, rfl⟩
        have EL : Hid (P = ascP L) := by
          show _ = _
          rw [EP.out, if_pos trivial, ← hL, List.take_length]
          exact (ascP_eq _ _ (fun y => Iff.rfl)).symm
        have hLl : L.length ≤ 6000 := by rw [← hL, List.take_length]; have h2 := goL_len code; omega
        rw [hL] at ho ⊢
        have CA := hideP (ascending_any L wr (w.heap.size + 1) _ ho.out (by omega))
        clear hL
        go_wp2_with fail
        refine CA.out.mono ?_
        rintro e7 w7 ⟨v7, rfl, o7, g7, hg7, hg8, but7⟩
        have hgo := own_blk hg7
        subst hgo
        have B7 := hideP (hbw.out.trans (but7.below (B := w.heap.size) (by have := (ho.out.low go rfl).1; omega) hbw.out.size))
        obtain ⟨g9, c9, rfl, _⟩ := id o7
        have O7 := hideP o7
        clear o7 but7 hg7 hg8
        go_wp2
        go_ret
        exact ⟨_, rfl, by rw [EL.out]; exact O7.out.mono (Nat.le_succ _), B7.out⟩
end Go.Proofs.Ytfoelnblnfcaiaa
