/- The contract of impl.CpuOk. -/
import Derived.Test.YtpbmnajlkgjkfaaCkP
import Derived.Test.YtpbmnajlkgjkfaaImgI
import Derived.Deep.CutRange
namespace Go.Proofs.Ytpbmnajlkgjkfaa
open Go.ChangeShapes Go.WideShapes Go.ChangeAt Go.RowKit
set_option maxHeartbeats 2000000 in
theorem endOk_any (c : Cp) (w : World) (B : Nat) (v : Array Value) (h : CpIs w B v c) :
    Calls Try.prog 23 #[.agg v] w fun en w' => en = .returned (.bool (endB c)) ∧ Below w.heap.size w w' := by
  obtain ⟨pos, regs, slots, mem, input, out, code, over, val⟩ := c
  obtain ⟨_, _, _, _, _, _, _, _, _, _, rfl, _⟩ := h
  simp only [endB]
  cases over
  · go_enter Try.func23, Try.ntmps23
    go_wp2
    all_goals go_ret
    all_goals exact ⟨ret_bool (by simp; try omega), (Below.refl _ _).alloc (Nat.le_refl _) _⟩
  · go_enter Try.func23, Try.ntmps23
    go_wp2
    all_goals go_ret
    all_goals exact ⟨ret_bool (by simp; try omega), (Below.refl _ _).alloc (Nat.le_refl _) _⟩
set_option maxHeartbeats 1000000 in
theorem sameLen_any (u : Option Addr) (n c : Nat) (z : Int) (w : World) :
    Calls Try.prog 33 #[.slice u n c, .int .i64 z] w fun en w' => en = .returned (.bool (decide ((n : Int) = z))) ∧ w' = w := by
  go_enter Try.func33, Try.ntmps33
  go_wp2
  go_ret
  exact ⟨ret_bool (by rw [Bool.eq_iff_iff]; simp), rfl⟩
set_option maxHeartbeats 4000000 in
theorem equalMem_any (xs : List Rw) (ys : List Int) (w : World) (B1 B2 : Nat) (a1 a2 : Option Addr) (c1 c2 : Nat) (h1 : SlIs RwIs 1 w B1 a1 xs) (h2 : IntsIs w B2 a2 ys) :
    Calls Try.prog 32 #[.slice a1 xs.length c1, .slice a2 ys.length c2, .func (.func 33) #[] #[]] w fun en w' => en = .returned (.bool (memB xs ys)) ∧ w' = w := by
  have hm := maxLen_lt
  have hl1 := h1.1
  have hl2 := h2.1
  by_cases hne : xs.length = ys.length
  · have H1 := hideP h1
    have H2 := hideP h2
    rw [← hne]
    have HN := hideP hne
    clear h1 h2 hl2 hne
    go_enter Try.func32, Try.ntmps32
    go_wp2
    go_loopw [17] (fun i wr => ∃ j : Nat, j ≤ xs.length ∧ i = .int .i64 j ∧ wr = w ∧ Hid (memB xs ys = memB (xs.drop j) (ys.drop j))) (fun i _ => xs.length - (intOf i).toNat)
    case atStart => exact ⟨0, Nat.zero_le _, rfl, rfl, rfl⟩
    case round =>
      obtain ⟨j, hj, rfl, hwr, hs⟩ := hrel
      subst hwr
      by_cases hlt : j < xs.length
      · have hlt2 : j < ys.length := by have := HN.out; omega
        have st := memB_step hlt hlt2
        obtain ⟨b, o, ux, kx, rfl, _, hbx, p0, hbX⟩ := Rw_get H1.out j hlt
        obtain ⟨b', o', rfl, _, hby, q0⟩ := H2.out.get j hlt2
        obtain ⟨z, hz⟩ : ∃ z, ys[j] = z := ⟨_, rfl⟩
        obtain ⟨n, hn⟩ : ∃ n, xs[j].length = n := ⟨_, rfl⟩
        rw [hz, hn] at st
        rw [hz] at q0
        rw [hn] at p0
        obtain ⟨r, hr⟩ : ∃ r, decide ((n : Int) = z) = r := ⟨_, rfl⟩
        have SB : Hid (∀ W, Calls Try.prog 33 #[.slice ux n kx, .int .i64 z] W fun en w' => en = .returned (.bool r) ∧ w' = W) := fun W => by rw [← hr]; exact sameLen_any ux n kx z W
        rw [hr] at st
        have E := hideP (hs.out.trans st)
        clear hr hz hn st hs hbX
        go_wp2_with fail
        refine (SB.out _).mono ?_
        rintro e1 w1 ⟨rfl, hw1⟩
        obtain rfl := hw1
        clear p0 q0
        cases r
        · go_wp2
          go_ret
          exact ⟨ret_bool (by rw [E.out]; rfl), rfl⟩
        · go_wp2
          go_roundw
          case rel => exact ⟨j + 1, by omega, by go_num, by first | rfl | trivial, by show _ = _; rw [E.out]; rfl⟩
          case measure => simp [intOf]; omega
      · have hjn : j = xs.length := by omega
        subst hjn
        have E : Hid (memB xs ys = true) := hs.out.trans (memB_end xs ys HN.out)
        go_wp2
        go_ret
        exact ⟨ret_bool E.out.symm, rfl⟩
  · rw [memB_ne xs ys hne]
    have hne' : ¬ (xs.length : Int) = (ys.length : Int) := by omega
    clear h1 h2
    go_enter Try.func32, Try.ntmps32
    go_wp2
    go_ret
    exact ⟨rfl, rfl⟩
set_option maxHeartbeats 4000000 in
theorem memoryOk_any (m : Img) (c : Cp) (w : World) (B1 B2 : Nat) (v1 v2 : Array Value) (h1 : ImgIs w B1 v1 m) (h2 : CpIs w B2 v2 c) :
    Calls Try.prog 22 #[.agg v1, .agg v2] w fun en w' => en = .returned (.bool (rowsB m c)) ∧ Below w.heap.size w w' := by
  obtain ⟨pos, regs, slots, mem, input, out, code, over, val⟩ := c
  obtain ⟨u1, c1, u2, c2, u3, c3, u4, c4, u5, c5, rfl, _, hr, hs, hmem, hi, _⟩ := h2
  obtain ⟨sz, par, sl, cod⟩ := m
  obtain ⟨us, cs, ub, cb, rfl, _, hz, _⟩ := h1
  simp only at *
  have hm := maxLen_lt
  have l1 := hr.1
  have l2 := hs.1
  have l3 := hi.1
  have l4 := hmem.1
  have l5 := hz.1
  have HM := hideP (hmem.stays RwKeeps (below2 w (.cells #[.slice us sz.length cs, .int .i64 par, .int .i64 sl, .slice ub cod.length cb] 34) (.cells #[.int .i64 pos, .slice u1 regs.length c1, .slice u2 slots.length c2, .slice u3 mem.length c3, .slice u4 input.length c4, .slice u5 out.length c5, .int .i64 code, .bool over, .int .i64 val] 36)))
  have HZ := hideP (hz.stays (below2 w (.cells #[.slice us sz.length cs, .int .i64 par, .int .i64 sl, .slice ub cod.length cb] 34) (.cells #[.int .i64 pos, .slice u1 regs.length c1, .slice u2 slots.length c2, .slice u3 mem.length c3, .slice u4 input.length c4, .slice u5 out.length c5, .int .i64 code, .bool over, .int .i64 val] 36)))
  clear hr hs hmem hi hz
  have E : Hid (rowsB ⟨sz, par, sl, cod⟩ ⟨pos, regs, slots, mem, input, out, code, over, val⟩ = (decide (regs.length = 16) && decide ((slots.length : Int) = sl) && decide (input.length ≤ 100) && memB mem sz)) := rfl
  obtain ⟨R, hR⟩ : ∃ R, rowsB ⟨sz, par, sl, cod⟩ ⟨pos, regs, slots, mem, input, out, code, over, val⟩ = R := ⟨_, rfl⟩
  rw [hR] at E ⊢
  clear hR
  by_cases q1 : (regs.length : Int) = 16
  · have Q1 := hideP q1
    by_cases q2 : (slots.length : Int) = sl
    · have Q2 := hideP q2
      by_cases q3 : (input.length : Int) ≤ 100
      · have Q3 := hideP q3
        have E2 : Hid (R = memB mem sz) := by show _ = _; rw [E.out]; simp; intros; omega
        clear E
        go_enter Try.func22, Try.ntmps22
        go_wp2_with fail
        refine (equalMem_any mem sz _ B2 B1 u3 us c3 cs HM.out HZ.out).mono ?_
        rintro e1 w1 ⟨rfl, rfl⟩
        go_wp2
        go_ret
        exact ⟨ret_bool E2.out.symm, below2 w _ _⟩
      · have E2 : Hid (R = false) := by show _ = _; rw [E.out]; simp; intros; omega
        clear E
        go_enter Try.func22, Try.ntmps22
        go_wp2
        go_ret
        exact ⟨ret_bool E2.out.symm, below2 w _ _⟩
    · have E2 : Hid (R = false) := by show _ = _; rw [E.out]; simp; intros; omega
      clear E
      go_enter Try.func22, Try.ntmps22
      go_wp2
      go_ret
      exact ⟨ret_bool E2.out.symm, below2 w _ _⟩
  · have E2 : Hid (R = false) := by show _ = _; rw [E.out]; simp; intros; omega
    clear E
    go_enter Try.func22, Try.ntmps22
    go_wp2
    go_ret
    exact ⟨ret_bool E2.out.symm, below2 w _ _⟩
theorem boxI (w : World) (o : Obj) : (w.alloc o).heap[w.heap.size]? = some o := by show (w.heap.push o)[w.heap.size]? = _; exact Array.getElem?_push_size
theorem keepI {W W' : World} {b : Nat} {o : Obj} (h : W.heap[b]? = some o) (bel : Below W.heap.size W W') : W'.heap[b]? = some o := (bel.block b (Array.getElem?_eq_some_iff.1 h).1).trans h
set_option maxHeartbeats 4000000 in
theorem impl_cpuOk (m : Img) (c : Cp) (w : World) (B1 B2 : Nat) (v1 v2 : Array Value) (h1 : ImgIs w B1 v1 m) (h2 : CpIs w B2 v2 c) :
    Calls Try.prog 9 #[.agg v1, .agg v2] w fun en w' => en = .returned (.bool (cpuOk m c)) ∧ Below w.heap.size w w' := by
  have H1 := hideP h1
  have H2 := hideP h2
  obtain ⟨pos, regs, slots, mem, input, out, code, over, val⟩ := c
  obtain ⟨u1, c1, u2, c2, u3, c3, u4, c4, u5, c5, rfl, _⟩ := h2
  obtain ⟨sz, par, sl, cod⟩ := m
  obtain ⟨us, cs, ub, cb, rfl, _, _, hcl⟩ := h1
  simp only at *
  have hm := maxLen_lt
  have hl := hcl.1
  clear hcl
  have E : Hid (cpuOk ⟨sz, par, sl, cod⟩ ⟨pos, regs, slots, mem, input, out, code, over, val⟩ = (imgOk ⟨sz, par, sl, cod⟩ && (belI pos (cod.length : Nat) && (rowsB ⟨sz, par, sl, cod⟩ ⟨pos, regs, slots, mem, input, out, code, over, val⟩ && endB ⟨pos, regs, slots, mem, input, out, code, over, val⟩)))) := rfl
  obtain ⟨R, hR⟩ : ∃ R, cpuOk ⟨sz, par, sl, cod⟩ ⟨pos, regs, slots, mem, input, out, code, over, val⟩ = R := ⟨_, rfl⟩
  have IO := hideP (fun W hW => impl_imageOk ⟨sz, par, sl, cod⟩ W B1 _ (ImgKeeps.stays H1.out hW))
  have MO := hideP (fun W hW => memoryOk_any ⟨sz, par, sl, cod⟩ _ W B1 B2 _ _ (ImgKeeps.stays H1.out hW) (CpKeeps.stays H2.out hW))
  have EO := hideP (fun W hW => endOk_any _ W B2 _ (CpKeeps.stays H2.out hW))
  obtain ⟨r1, hr1⟩ : ∃ r, imgOk ⟨sz, par, sl, cod⟩ = r := ⟨_, rfl⟩
  obtain ⟨r2, hr2⟩ : ∃ r, belI pos (cod.length : Nat) = r := ⟨_, rfl⟩
  obtain ⟨r3, hr3⟩ : ∃ r, rowsB ⟨sz, par, sl, cod⟩ ⟨pos, regs, slots, mem, input, out, code, over, val⟩ = r := ⟨_, rfl⟩
  obtain ⟨r4, hr4⟩ : ∃ r, endB ⟨pos, regs, slots, mem, input, out, code, over, val⟩ = r := ⟨_, rfl⟩
  have IB : Hid (∀ W, Calls Try.prog 21 #[.int .i64 pos, .int .i64 (cod.length : Nat)] W fun en w' => en = .returned (.bool r2) ∧ w' = W) := fun W => by rw [← hr2]; exact isBelow_any pos _ W
  rw [hr1] at IO E
  rw [hr3] at MO E
  rw [hr4] at EO E
  rw [hr2] at E
  rw [hR] at E ⊢
  clear hR hr1 hr2 hr3 hr4 H1 H2
  have bb : Hid (∀ o1 o2 X, Below ((w.alloc o1).alloc o2).heap.size ((w.alloc o1).alloc o2) X → X.heap[w.heap.size]? = some o1 ∧ X.heap[w.heap.size + 1]? = some o2 ∧ Below w.heap.size w X) := fun o1 o2 X h => ⟨(two h).1, (two h).2.1, (two h).2.2.2⟩
  go_enter Try.func9, Try.ntmps9
  go_wp2_with fail
  refine (IO.out _ (below2 w _ _)).mono ?_
  rintro e1 w1 ⟨rfl, bel1⟩
  obtain ⟨a1, a2, a3⟩ := bb.out _ _ _ bel1
  have A1 := hideP a1
  have A2 := hideP a2
  have HW := hideP a3
  clear bel1 a1 a2 a3 IO bb
  cases r1
  · go_wp2
    go_ret
    exact ⟨ret_bool (by rw [E.out]; rfl), HW.out⟩
  have k0 := (cells_of A1.out).1
  have k1 := (cells_of A2.out).1
  have i0 := k0 0; have i1 := k0 1; have i2 := k0 2; have i3 := k0 3
  have p0 := k1 0; have p1 := k1 1; have p2 := k1 2; have p3 := k1 3; have p4 := k1 4; have p5 := k1 5; have p6 := k1 6; have p7 := k1 7; have p8 := k1 8
  simp at i0 i1 i2 i3 p0 p1 p2 p3 p4 p5 p6 p7 p8
  clear k0 k1
  go_wp2_with fail
  refine (IB.out _).mono ?_
  rintro e2 w2 ⟨rfl, hw2⟩
  obtain rfl := hw2.symm
  cases r2
  · go_wp2
    go_ret
    exact ⟨ret_bool (by rw [E.out]; rfl), HW.out⟩
  go_wp2_with fail
  refine (MO.out _ HW.out).mono ?_
  rintro e3 w3 ⟨rfl, bel3⟩
  have A3 := hideP (keepI A2.out bel3)
  have HW3 := hideP (below_trans HW.out bel3)
  clear bel3 i0 i1 i2 i3 p0 p1 p2 p3 p4 p5 p6 p7 p8
  cases r3
  · go_wp2
    go_ret
    exact ⟨ret_bool (by rw [E.out]; rfl), HW3.out⟩
  have k1 := (cells_of A3.out).1
  have p0 := k1 0; have p1 := k1 1; have p2 := k1 2; have p3 := k1 3; have p4 := k1 4; have p5 := k1 5; have p6 := k1 6; have p7 := k1 7; have p8 := k1 8
  simp at p0 p1 p2 p3 p4 p5 p6 p7 p8
  clear k1
  go_wp2_with fail
  refine (EO.out _ HW3.out).mono ?_
  rintro e4 w4 ⟨rfl, bel4⟩
  have HW4 := hideP (below_trans HW3.out bel4)
  clear bel4 p0 p1 p2 p3 p4 p5 p6 p7 p8
  go_wp2
  go_ret
  exact ⟨ret_bool (by rw [E.out]; simp), HW4.out⟩
end Go.Proofs.Ytpbmnajlkgjkfaa
