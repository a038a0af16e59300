/- The contract of spec.Aims. -/
import Derived.Test.YtfoelnblnfcaiaaAimP
namespace Go.Proofs.Ytfoelnblnfcaiaa
open Go.ChangeShapes Go.WideShapes Go.ChangeAt Go.RowKit
set_option maxHeartbeats 8000000 in
set_option maxRecDepth 100000 in
theorem spec_aims (m : Img) (w : World) (B : Nat) (v : Array Value) (h : ImgIs w B v m) (GO : ImOk 9 m) :
    Calls Try.prog 19 #[.agg v] w fun en w' => ∃ v', en = .returned v' ∧ OwnI w' w.heap.size v' (aimsP m) ∧ Below w.heap.size w w' := by
  obtain ⟨y, hy⟩ : ∃ y, imgOk m = y := ⟨_, rfl⟩
  have CY : Hid (∀ W, Below w.heap.size w W → Calls Try.prog 9 #[.agg v] W fun en w' => en = .returned (.bool y) ∧ Below W.heap.size W w') := fun W hW => by rw [← hy]; exact GO W B v (ImgKeeps.stays h hW)
  have HN : Hid (y = true → m.code.length ≤ 6000) := fun e => (imgOk_few (by rw [hy]; exact e)).1
  have EP : Hid (aimsP m = if y = true then addAll (goL m.code) else []) := by show _ = _; unfold aimsP; rw [hy]
  obtain ⟨P, hP⟩ : ∃ P, aimsP m = P := ⟨_, rfl⟩
  rw [hP] at EP ⊢
  clear hy hP GO
  obtain ⟨sizes, params, slots, code⟩ := m
  obtain ⟨us, cs, ub, cb, rfl, _, _, hb⟩ := h
  simp only at *
  have hm := maxLen_lt
  have hl := hb.1
  have HB := hideP hb
  clear hb
  have AL := hideP (below2 w (.cells #[.slice us sizes.length cs, .int .i64 params, .int .i64 slots, .slice ub code.length cb] 30) (.cells #[] 3))
  have BX1 := hideP (two (w := w) (o1 := .cells #[.slice us sizes.length cs, .int .i64 params, .int .i64 slots, .slice ub code.length cb] 30) (o2 := .cells #[] 3) (Below.refl _ _)).1
  have O1 : Hid (OwnI ((w.alloc (.cells #[.slice us sizes.length cs, .int .i64 params, .int .i64 slots, .slice ub code.length cb] 30)).alloc (.cells #[] 3)) (w.heap.size + 1) (.slice (some ⟨w.heap.size + 1, 0, none⟩) 0 0) []) := by
    have := own_lit (w.alloc (.cells #[.slice us sizes.length cs, .int .i64 params, .int .i64 slots, .slice ub code.length cb] 30)) [] #[] (w.heap.size + 1) 0 (by simp) rfl rfl (by simp)
    show OwnI _ _ _ _
    simpa using this
  have Z1 : Hid (w.heap.size + 1 ≤ ((w.alloc (.cells #[.slice us sizes.length cs, .int .i64 params, .int .i64 slots, .slice ub code.length cb] 30)).alloc (.cells #[] 3)).heap.size) := by show _ ≤ _; simp
  go_enter Try.func19, Try.ntmps19
  go_wp2
  go_loopg [3, 4] code.length (fun gk o i wr => ∃ j : Nat, gk + j = code.length ∧ i = .int .i64 j ∧ Hid (OwnI wr (w.heap.size + 1) o (addAll (goL (code.take j)))) ∧ Hid (wr.heap[w.heap.size]? = some (.cells #[.slice us sizes.length cs, .int .i64 params, .int .i64 slots, .slice ub code.length cb] 30)) ∧ Hid (Below w.heap.size w wr) ∧ Hid (w.heap.size + 1 ≤ wr.heap.size) ∧ Hid (y = false → j = 0))
  case atStart => exact ⟨0, by simp, rfl, O1.out, BX1.out, AL.out, Z1.out, fun _ => rfl⟩
  case round =>
    obtain ⟨j, hj, rfl, ho, hbx, hbw, hsz, hyj⟩ := hrel
    clear O1 BX1 AL Z1
    have gg := (cells_of hbx.out).1
    have lG : w.heap.size < wr.heap.size := (Array.getElem?_eq_some_iff.1 hbx.out).1
    have p0 := gg 0
    have p1 := gg 1
    have p2 := gg 2
    have p3 := gg 3
    simp at p0 p1 p2 p3
    obtain ⟨go, co, rfl, _⟩ := id ho.out
    by_cases hlt : j < code.length
    · clear gg
      go_wp2_with fail
      refine (CY.out _ hbw.out).mono ?_
      rintro e1 w1 ⟨rfl, b1⟩
      have BB := hideP (below_trans hbw.out b1)
      have OO := hideP (ho.out.stays b1)
      have BX := hideP ((b1.block _ lG).trans hbx.out)
      have SZ : Hid (w.heap.size + 1 ≤ w1.heap.size) := Nat.le_trans hsz.out b1.size
      clear b1 p0 p1 p2 p3
      cases y
      · have hj0 := hyj.out rfl
        subst hj0
        go_wp2
        go_ret
        refine ⟨_, rfl, ?_, BB.out⟩
        rw [EP.out, if_neg (by simp)]
        exact OO.out.mono (Nat.le_succ _)
      · have gg := (cells_of BX.out).1
        have p3 := gg 3
        simp at p3
        obtain ⟨b, o, y0, y1, y2, y3, y4, rfl, _, hbi, hy, r0, r1, r2, r3, r4, hxx⟩ := Wrd_get (HB.out.stays WrdKeeps BB.out) j hlt
        have HY := hideP hy
        have hn6 := HN.out rfl
        have R4 := hideP r4
        clear gg hy hxx
        go_wp2_with fail
        refine (l13Goes_any y0 y1 y2 y3 y4 _).mono ?_
        rintro e2 w2 ⟨rfl, b2⟩
        have BB2 := hideP (below_trans BB.out b2)
        have OO2 := hideP (OO.out.stays b2)
        have BX2 := hideP (keepW BX.out b2)
        have SZ2 : Hid (w.heap.size + 1 ≤ w2.heap.size) := Nat.le_trans SZ.out b2.size
        have q4 := (b2.cell (p := ⟨b, o + j * 5 + 4, none⟩) hbi).trans R4.out
        have gg := (cells_of BX2.out).1
        have q3 := gg 3
        simp at q3
        clear b2 p3 r0 r1 r2 r3 r4 gg
        cases hq : goesW ⟨y0, y1, y2, y3, y4⟩
        · have U := hideP (goL_no code j hlt (by rw [HY.out]; exact hq))
          go_wp2
          go_roundg (code.length - (j + 1))
          case rel => exact ⟨j + 1, by omega, by go_num, by rw [U.out]; exact OO2.out, BX2.out, BB2.out, SZ2.out, fun e => absurd e (by simp)⟩
          case measure => omega
        · have U := hideP (goL_yes code j hlt (by rw [HY.out]; exact hq))
          rw [HY.out] at U
          obtain ⟨L, hL⟩ : ∃ L, addAll (goL (code.take j)) = L := ⟨_, rfl⟩
          have hLl : L.length ≤ 6000 := by rw [← hL]; have h1 := addAll_len (goL (code.take j)); have h2 := goL_len (code.take j); simp at h2; omega
          have UL : Hid (addAll (goL (code.take (j + 1))) = addTo L y4) := by show _ = _; rw [U.out, addAll_snoc, hL]
          have NE : Hid ((Value.slice (some ⟨go, 0, none⟩) (addAll (goL (code.take j))).length co) = (Value.slice (some ⟨go, 0, none⟩) L.length co)) := by show _ = _; rw [hL]
          rw [hL] at OO2
          have LA := hideP (l02Add_own L y4 w2 (w.heap.size + 1) _ OO2.out (by omega) SZ2.out)
          rw [hL]
          clear U hL hq OO OO2
          go_wp2_with fail
          refine LA.out.mono ?_
          rintro e3 w3 ⟨v3, rfl, o3, b3⟩
          have BB3 := hideP (below_trans BB2.out b3)
          have BX3 := hideP (keepW BX2.out b3)
          have SZ3 : Hid (w.heap.size + 1 ≤ w3.heap.size) := Nat.le_trans SZ2.out b3.size
          obtain ⟨g3, c3, rfl, _⟩ := id o3
          have O3 := hideP o3
          clear b3 o3 q3 q4
          go_wp2
          go_roundg (code.length - (j + 1))
          case rel => exact ⟨j + 1, by omega, by go_num, by rw [UL.out]; exact O3.out, BX3.out, BB3.out, SZ3.out, fun e => absurd e (by simp)⟩
          case measure => omega
    · have hjn : j = code.length := by omega
      subst hjn
      have TE : Hid (goL code = goL (code.take code.length)) := by show _ = _; rw [List.take_length]
      clear gg
      go_wp2
      go_ret
      refine ⟨_, rfl, ?_, hbw.out⟩
      cases y
      · have h0 := hyj.out rfl
        rw [EP.out, if_neg (by simp)]
        have h1 : code = [] := List.length_eq_zero_iff.1 h0
        have := ho.out.mono (Nat.le_succ w.heap.size)
        simpa [h1, goL, addAll] using this
      · rw [EP.out, if_pos rfl, TE.out]
        exact ho.out.mono (Nat.le_succ _)
end Go.Proofs.Ytfoelnblnfcaiaa
