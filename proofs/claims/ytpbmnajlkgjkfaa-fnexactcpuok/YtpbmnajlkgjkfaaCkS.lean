/- The contract of spec.CpuOk. -/
import Derived.Test.YtpbmnajlkgjkfaaCkP
import Derived.Test.YtpbmnajlkgjkfaaImgS
import Derived.Deep.CutRange
import Derived.Deep.LoopGhost
namespace Go.Proofs.Ytpbmnajlkgjkfaa
open Go.ChangeShapes Go.WideShapes Go.ChangeAt Go.RowKit
theorem keepC {W W' : World} {b : Nat} {o : Obj} (h : W.heap[b]? = some o) (bel : Below W.heap.size W W') : W'.heap[b]? = some o := (bel.block b (Array.getElem?_eq_some_iff.1 h).1).trans h
theorem endS (c : Cp) : endB c = (inB c.code 0 1 && (!c.over || c.code == 0) && (c.over || c.val == 0)) := by
  unfold endB inB
  cases c.over
  · simp only [Bool.false_eq_true, if_false, Bool.not_false, Bool.true_or, Bool.and_true, Bool.false_or]
    congr 1
    rw [Bool.eq_iff_iff]; simp; omega
  · simp only [if_true, Bool.not_true, Bool.false_or, Bool.true_or, Bool.and_true]
    rw [Bool.eq_iff_iff]; simp; omega
set_option maxHeartbeats 8000000 in
set_option maxRecDepth 100000 in
theorem spec_cpuOk (m : Img) (c : Cp) (w : World) (B1 B2 : Nat) (v1 v2 : Array Value) (h1 : ImgIs w B1 v1 m) (h2 : CpIs w B2 v2 c) :
    Calls Try.prog 6 #[.agg v1, .agg v2] w fun en w' => en = .returned (.bool (cpuOk m c)) ∧ Below w.heap.size w w' := by
  have H1 := hideP h1
  obtain ⟨pos, regs, slots, mem, input, out, code, over, val⟩ := c
  obtain ⟨u1, c1, u2, c2, u3, c3, u4, c4, u5, c5, rfl, ok, hr, hs, hmem, hi, _⟩ := h2
  obtain ⟨sz, par, sl, cod⟩ := m
  obtain ⟨us, cs, ub, cb, rfl, _, hz, hcl⟩ := h1
  simp only at *
  have hm := maxLen_lt
  have hl := hcl.1
  have l1 := hr.1
  have l2 := hs.1
  have l3 := hi.1
  have l4 := hmem.1
  have l5 := hz.1
  have HM := hideP hmem
  have HZ := hideP hz
  clear hcl hr hs hmem hi hz ok
  have E : Hid (cpuOk ⟨sz, par, sl, cod⟩ ⟨pos, regs, slots, mem, input, out, code, over, val⟩ = (imgOk ⟨sz, par, sl, cod⟩ && (belI pos (cod.length : Nat) && ((decide (regs.length = 16) && decide ((slots.length : Int) = sl) && decide (input.length ≤ 100) && memB mem sz) && (inB code 0 1 && (!over || code == 0) && (over || val == 0)))))) := by
    have := endS ⟨pos, regs, slots, mem, input, out, code, over, val⟩
    show _ = _
    simp only at this
    rw [← this]; rfl
  obtain ⟨R, hR⟩ : ∃ R, cpuOk ⟨sz, par, sl, cod⟩ ⟨pos, regs, slots, mem, input, out, code, over, val⟩ = R := ⟨_, rfl⟩
  have IO := hideP (fun W hW => spec_imageOk ⟨sz, par, sl, cod⟩ W B1 _ (ImgKeeps.stays H1.out hW))
  obtain ⟨r1, hr1⟩ : ∃ r, imgOk ⟨sz, par, sl, cod⟩ = r := ⟨_, rfl⟩
  have IN := hideP l01In_any
  rw [hr1] at IO E
  rw [hR] at E ⊢
  clear hR hr1 H1
  have bb : Hid (∀ o1 o2 X, Below ((w.alloc o1).alloc o2).heap.size ((w.alloc o1).alloc o2) X → X.heap[w.heap.size]? = some o1 ∧ X.heap[w.heap.size + 1]? = some o2 ∧ Below w.heap.size w X) := fun o1 o2 X h => ⟨(two h).1, (two h).2.1, (two h).2.2.2⟩
  go_enter Try.func6, Try.ntmps6
  go_wp2_with fail
  refine (IO.out _ (below2 w _ _)).mono ?_
  rintro e1 w1 ⟨rfl, bel1⟩
  obtain ⟨a1, a2, a3⟩ := bb.out _ _ _ bel1
  have A1 := hideP a1
  have A2 := hideP a2
  have HW := hideP a3
  clear bel1 a1 a2 a3 IO bb
  cases r1
  · go_wp2
    go_ret
    exact ⟨ret_bool (by rw [E.out]; rfl), HW.out⟩
  have k0 := (cells_of A1.out).1
  have k1 := (cells_of A2.out).1
  have i0 := k0 0; have i1 := k0 1; have i2 := k0 2; have i3 := k0 3
  have p0 := k1 0; have p1 := k1 1; have p2 := k1 2; have p3 := k1 3; have p4 := k1 4; have p5 := k1 5; have p6 := k1 6; have p7 := k1 7; have p8 := k1 8
  simp at i0 i1 i2 i3 p0 p1 p2 p3 p4 p5 p6 p7 p8
  clear k0 k1
  obtain ⟨nc, hnc⟩ : ∃ nc : Int, (cod.length : Int) - 1 = nc := ⟨_, rfl⟩
  have hbel : belI pos (cod.length : Nat) = inB pos 0 nc := by unfold belI inB; rw [Bool.eq_iff_iff]; simp; omega
  rw [hbel] at E
  clear hbel
  have hncr : -1 ≤ nc ∧ nc ≤ 9223372036854775807 := by omega
  have IB : Hid (∀ W, Calls Try.prog 16 #[.int .i64 pos, .int .i64 0, .int .i64 nc] W fun en w' => en = .returned (.bool (inB pos 0 nc)) ∧ w' = W) := fun W => l01In_any pos 0 nc W
  cases hb : inB pos 0 nc
  · have HB := hideP hb
    clear hb
    go_wp2_with fail
    refine (IB.out _).mono ?_
    rw [HB.out]
    rintro e2 w2 ⟨rfl, hw2⟩
    obtain rfl := hw2.symm
    clear hnc hncr IB
    go_wp2
    go_ret
    exact ⟨ret_bool (by rw [E.out, HB.out]; rfl), HW.out⟩
  have HB := hideP hb
  clear hb
  by_cases q1 : (regs.length : Int) = 16
  · by_cases q2 : (slots.length : Int) = sl
    · by_cases q4 : mem.length = sz.length
      · have Q4 := hideP q4
        by_cases q3 : (input.length : Int) ≤ 100
        · have e1 : regs.length = 16 := by omega
          have e3 : input.length ≤ 100 := by omega
          have E2 : Hid (R = (memB mem sz && (inB code 0 1 && (!over || code == 0) && (over || val == 0)))) := by show _ = _; rw [E.out, HB.out]; simp [e1, q2, e3]
          clear e1 e3
          clear E
          have q4' : (mem.length : Int) = (sz.length : Int) := by omega
          go_wp2_with fail
          refine (IB.out _).mono ?_
          rw [HB.out]
          rintro e2 w2 ⟨rfl, hw2⟩
          obtain rfl := hw2.symm
          clear hnc hncr IB
          go_wp2
          clear q1 q2 q3 q4 q4' i0 i1 i2 i3 p0 p1 p2 p3 p4 p5 p6 p7 p8
          go_loopg [5] mem.length (fun gk i wr => ∃ j : Nat, gk + j = mem.length ∧ i = .int .i64 j ∧ Hid (memB mem sz = memB (mem.drop j) (sz.drop j)) ∧ Hid (Below w1.heap.size w1 wr))
          case atStart => exact ⟨0, by simp, rfl, rfl, Below.refl _ _⟩
          case round =>
            obtain ⟨j, hj, rfl, hok, hbr⟩ := hrel
            have bw := below_trans HW.out hbr.out
            have BW := hideP bw
            have k0 := (cells_of (keepC A1.out hbr.out)).1
            have k1 := (cells_of (keepC A2.out hbr.out)).1
            have i0 := k0 0; have i1 := k0 1; have i2 := k0 2; have i3 := k0 3
            have p0 := k1 0; have p1 := k1 1; have p2 := k1 2; have p3 := k1 3; have p4 := k1 4; have p5 := k1 5; have p6 := k1 6; have p7 := k1 7; have p8 := k1 8
            simp at i0 i1 i2 i3 p0 p1 p2 p3 p4 p5 p6 p7 p8
            clear k0 k1
            by_cases hlt : j < mem.length
            · have hlt2 : j < sz.length := by have := Q4.out; omega
              have st := memB_step hlt hlt2
              obtain ⟨b, o, ux, kx, rfl, _, hbx, r0, hbX⟩ := Rw_get (HM.out.stays RwKeeps bw) j hlt
              obtain ⟨b', o', rfl, _, hby, q0⟩ := (HZ.out.stays bw).get j hlt2
              have hln := hbX.1
              obtain ⟨z, hz⟩ : ∃ z, sz[j] = z := ⟨_, rfl⟩
              obtain ⟨n, hn⟩ : ∃ n, mem[j].length = n := ⟨_, rfl⟩
              rw [hz, hn] at st
              rw [hz] at q0
              rw [hn] at r0 hln
              have ST := hideP st
              have HBR := hideP hbr.out
              clear hz hn st hbX bw hbr
              by_cases hq : (n : Int) = z
              · have E3 : Hid (memB mem sz = memB (mem.drop (j + 1)) (sz.drop (j + 1))) := by show _ = _; rw [hok.out, ST.out]; simp [hq]
                go_wp2
                go_region
                all_goals
                  go_wp2
                  go_roundg (mem.length - (j + 1))
                  case rel => exact ⟨j + 1, by omega, by go_num, E3, hideP (by first | exact HBR.out | exact HBR.out.drew)⟩
                  case measure => omega
              · have E3 : Hid (memB mem sz = false) := by show _ = _; rw [hok.out, ST.out]; simp [hq]
                go_wp2
                go_region
                all_goals
                  go_wp2
                  go_ret
                  exact ⟨ret_bool (by rw [E2.out, E3.out]; rfl), by first | exact BW.out | exact BW.out.drew⟩
            · have hjn : j = mem.length := by omega
              subst hjn
              have E3 : Hid (R = (inB code 0 1 && (!over || code == 0) && (over || val == 0))) := by show _ = _; rw [E2.out, hok.out, memB_end mem sz Q4.out, Bool.true_and]
              clear bw E2 hok
              obtain ⟨rr, hrr⟩ : ∃ rr, inB code 0 1 = rr := ⟨_, rfl⟩
              have IC : Hid (∀ W, Calls Try.prog 16 #[.int .i64 code, .int .i64 0, .int .i64 1] W fun en w' => en = .returned (.bool rr) ∧ w' = W) := fun W => by rw [← hrr]; exact l01In_any code 0 1 W
              rw [hrr] at E3
              clear hrr IN
              go_wp2_with fail
              refine (IC.out _).mono ?_
              rintro e2 w2 ⟨rfl, hw2⟩
              obtain rfl := hw2
              cases rr <;> cases over
              all_goals go_wp2
              all_goals go_ret
              all_goals exact ⟨ret_bool (by rw [E3.out]; simp [*]), BW.out⟩
        · have e3 : ¬ input.length ≤ 100 := by omega
          have E2 : Hid (R = false) := by show _ = _; rw [E.out]; simp [e3]
          clear e3
          clear E
          have q4' : (mem.length : Int) = (sz.length : Int) := by omega
          go_wp2_with fail
          refine (IB.out _).mono ?_
          rw [HB.out]
          rintro e2 w2 ⟨rfl, hw2⟩
          obtain rfl := hw2.symm
          clear hnc hncr IB
          go_wp2
          go_ret
          exact ⟨ret_bool E2.out.symm, HW.out⟩
      · have E2 : Hid (R = false) := by show _ = _; rw [E.out, memB_ne mem sz q4]; simp
        clear E
        have q4' : ¬ (mem.length : Int) = (sz.length : Int) := by omega
        go_wp2_with fail
        refine (IB.out _).mono ?_
        rw [HB.out]
        rintro e2 w2 ⟨rfl, hw2⟩
        obtain rfl := hw2.symm
        clear hnc hncr IB
        go_wp2
        go_ret
        exact ⟨ret_bool E2.out.symm, HW.out⟩
    · have E2 : Hid (R = false) := by show _ = _; rw [E.out]; simp [q2]
      clear E
      go_wp2_with fail
      refine (IB.out _).mono ?_
      rw [HB.out]
      rintro e2 w2 ⟨rfl, hw2⟩
      obtain rfl := hw2.symm
      clear hnc hncr IB
      go_wp2
      go_ret
      exact ⟨ret_bool E2.out.symm, HW.out⟩
  · have e1 : ¬ regs.length = 16 := by omega
    have E2 : Hid (R = false) := by show _ = _; rw [E.out]; simp [e1]
    clear e1
    clear E
    go_wp2_with fail
    refine (IB.out _).mono ?_
    rw [HB.out]
    rintro e2 w2 ⟨rfl, hw2⟩
    obtain rfl := hw2.symm
    clear hnc hncr IB
    go_wp2
    go_ret
    exact ⟨ret_bool E2.out.symm, HW.out⟩
end Go.Proofs.Ytpbmnajlkgjkfaa
