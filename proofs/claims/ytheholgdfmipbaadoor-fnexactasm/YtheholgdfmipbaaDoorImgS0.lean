/- The contract of spec.l13WordOk, an Op each (written by wip/mkimg.py). -/
import Derived.Test.YtheholgdfmipbaaDoorImgL
namespace Go.Proofs.YtheholgdfmipbaaDoor
open Go.ChangeShapes Go.WideShapes Go.ChangeAt Go.RowKit
set_option maxHeartbeats 8000000 in
set_option maxRecDepth 100000 in
theorem l13WordOk_0 (m : Img) (r a b n : Int) (w : World) (B : Nat) (v : Array Value) (h : ImgIs w B v m) (hsl0 : 0 ≤ m.slots) (hsl1 : m.slots ≤ 1000) :
    Calls Tryd.prog 37 #[.agg v, .agg #[.int .i64 0, .int .i64 r, .int .i64 a, .int .i64 b, .int .i64 n]] w fun en w' => en = .returned (.bool (wrdOk (m.sizes.length : Nat) m.slots (m.code.length : Nat) ⟨0, r, a, b, n⟩)) ∧ Below w.heap.size w w' := by
  obtain ⟨sizes, params, slots, code⟩ := m
  obtain ⟨us, cs, ub, cb, rfl, _, hzs, hcd⟩ := h
  have hl1 := hzs.1
  have hl2 := hcd.1
  have hm := maxLen_lt
  clear hzs hcd
  simp only at *
  have IN := hideP l01In_any
  have e16 : ∀ x, inB x 0 15 = belI x 16 := fun x => by unfold inB belI; apply decide_eq_decide.2; omega
  by_cases cr : belI r 16 = true
  · have ir : inB r 0 15 = true := (e16 r).trans cr
    by_cases za : a = 0
    · subst za
      by_cases zb : b = 0
      · subst zb
        have E : Hid (wrdOk (sizes.length : Nat) slots (code.length : Nat) ⟨0, r, 0, 0, n⟩ = true) := wrd_0.trans ((wok_yes cr (by rfl) (by rfl)).trans (by first | rfl | simp))
        go_enter Tryd.func37, Tryd.ntmps37
        go_wp2_with (go_at_call 34; refine (IN.out _ _ _ _).mono ?_; rintro e1 w1 ⟨rfl, rfl⟩)
        all_goals go_ret
        all_goals exact ⟨ret_bool (by rw [E.out]), below2 w _ _⟩
      · have E : Hid (wrdOk (sizes.length : Nat) slots (code.length : Nat) ⟨0, r, 0, b, n⟩ = false) := wrd_0.trans (wok_no (by simp [zb]))
        have yb : (b == 0) = false := by simpa using zb
        go_enter Tryd.func37, Tryd.ntmps37
        go_wp2_with (go_at_call 34; refine (IN.out _ _ _ _).mono ?_; rintro e1 w1 ⟨rfl, rfl⟩)
        all_goals go_ret
        all_goals exact ⟨ret_bool (by rw [E.out]), below2 w _ _⟩
    · have E : Hid (wrdOk (sizes.length : Nat) slots (code.length : Nat) ⟨0, r, a, b, n⟩ = false) := wrd_0.trans (wok_no (by simp [za]))
      have ya : (a == 0) = false := by simpa using za
      go_enter Tryd.func37, Tryd.ntmps37
      go_wp2_with (go_at_call 34; refine (IN.out _ _ _ _).mono ?_; rintro e1 w1 ⟨rfl, rfl⟩)
      all_goals go_ret
      all_goals exact ⟨ret_bool (by rw [E.out]), below2 w _ _⟩
  · have ir : inB r 0 15 = false := by rw [e16]; simpa using cr
    have cr2 : belI r 16 = false := by simpa using cr
    have E : Hid (wrdOk (sizes.length : Nat) slots (code.length : Nat) ⟨0, r, a, b, n⟩ = false) := wrd_0.trans (wok_nr cr2)
    go_enter Tryd.func37, Tryd.ntmps37
    go_wp2_with (go_at_call 34; refine (IN.out _ _ _ _).mono ?_; rintro e1 w1 ⟨rfl, rfl⟩)
    all_goals go_ret
    all_goals exact ⟨ret_bool (by rw [E.out]), below2 w _ _⟩
set_option maxHeartbeats 8000000 in
set_option maxRecDepth 100000 in
theorem l13WordOk_1 (m : Img) (r a b n : Int) (w : World) (B : Nat) (v : Array Value) (h : ImgIs w B v m) (hsl0 : 0 ≤ m.slots) (hsl1 : m.slots ≤ 1000) :
    Calls Tryd.prog 37 #[.agg v, .agg #[.int .i64 1, .int .i64 r, .int .i64 a, .int .i64 b, .int .i64 n]] w fun en w' => en = .returned (.bool (wrdOk (m.sizes.length : Nat) m.slots (m.code.length : Nat) ⟨1, r, a, b, n⟩)) ∧ Below w.heap.size w w' := by
  obtain ⟨sizes, params, slots, code⟩ := m
  obtain ⟨us, cs, ub, cb, rfl, _, hzs, hcd⟩ := h
  have hl1 := hzs.1
  have hl2 := hcd.1
  have hm := maxLen_lt
  clear hzs hcd
  simp only at *
  have IN := hideP l01In_any
  have e16 : ∀ x, inB x 0 15 = belI x 16 := fun x => by unfold inB belI; apply decide_eq_decide.2; omega
  by_cases cr : belI r 16 = true
  · have ir : inB r 0 15 = true := (e16 r).trans cr
    by_cases za : a = 0
    · subst za
      by_cases zb : b = 0
      · subst zb
        have E : Hid (wrdOk (sizes.length : Nat) slots (code.length : Nat) ⟨1, r, 0, 0, n⟩ = belI n slots) := wrd_1.trans ((wok_yes cr (by rfl) (by rfl)).trans (by first | rfl | simp))
        go_enter Tryd.func37, Tryd.ntmps37
        go_wp2_with (go_at_call 34; refine (IN.out _ _ _ _).mono ?_; rintro e1 w1 ⟨rfl, rfl⟩)
        all_goals go_ret
        all_goals exact ⟨ret_bool (by rw [E.out]; unfold inB belI; apply decide_eq_decide.2; omega), below2 w _ _⟩
      · have E : Hid (wrdOk (sizes.length : Nat) slots (code.length : Nat) ⟨1, r, 0, b, n⟩ = false) := wrd_1.trans (wok_no (by simp [zb]))
        have yb : (b == 0) = false := by simpa using zb
        go_enter Tryd.func37, Tryd.ntmps37
        go_wp2_with (go_at_call 34; refine (IN.out _ _ _ _).mono ?_; rintro e1 w1 ⟨rfl, rfl⟩)
        all_goals go_ret
        all_goals exact ⟨ret_bool (by rw [E.out]), below2 w _ _⟩
    · have E : Hid (wrdOk (sizes.length : Nat) slots (code.length : Nat) ⟨1, r, a, b, n⟩ = false) := wrd_1.trans (wok_no (by simp [za]))
      have ya : (a == 0) = false := by simpa using za
      go_enter Tryd.func37, Tryd.ntmps37
      go_wp2_with (go_at_call 34; refine (IN.out _ _ _ _).mono ?_; rintro e1 w1 ⟨rfl, rfl⟩)
      all_goals go_ret
      all_goals exact ⟨ret_bool (by rw [E.out]), below2 w _ _⟩
  · have ir : inB r 0 15 = false := by rw [e16]; simpa using cr
    have cr2 : belI r 16 = false := by simpa using cr
    have E : Hid (wrdOk (sizes.length : Nat) slots (code.length : Nat) ⟨1, r, a, b, n⟩ = false) := wrd_1.trans (wok_nr cr2)
    go_enter Tryd.func37, Tryd.ntmps37
    go_wp2_with (go_at_call 34; refine (IN.out _ _ _ _).mono ?_; rintro e1 w1 ⟨rfl, rfl⟩)
    all_goals go_ret
    all_goals exact ⟨ret_bool (by rw [E.out]), below2 w _ _⟩
set_option maxHeartbeats 8000000 in
set_option maxRecDepth 100000 in
theorem l13WordOk_2 (m : Img) (r a b n : Int) (w : World) (B : Nat) (v : Array Value) (h : ImgIs w B v m) (hsl0 : 0 ≤ m.slots) (hsl1 : m.slots ≤ 1000) :
    Calls Tryd.prog 37 #[.agg v, .agg #[.int .i64 2, .int .i64 r, .int .i64 a, .int .i64 b, .int .i64 n]] w fun en w' => en = .returned (.bool (wrdOk (m.sizes.length : Nat) m.slots (m.code.length : Nat) ⟨2, r, a, b, n⟩)) ∧ Below w.heap.size w w' := by
  obtain ⟨sizes, params, slots, code⟩ := m
  obtain ⟨us, cs, ub, cb, rfl, _, hzs, hcd⟩ := h
  have hl1 := hzs.1
  have hl2 := hcd.1
  have hm := maxLen_lt
  clear hzs hcd
  simp only at *
  have IN := hideP l01In_any
  have e16 : ∀ x, inB x 0 15 = belI x 16 := fun x => by unfold inB belI; apply decide_eq_decide.2; omega
  by_cases cr : belI r 16 = true
  · have ir : inB r 0 15 = true := (e16 r).trans cr
    by_cases za : a = 0
    · subst za
      by_cases zb : b = 0
      · subst zb
        have E : Hid (wrdOk (sizes.length : Nat) slots (code.length : Nat) ⟨2, r, 0, 0, n⟩ = belI n slots) := wrd_2.trans ((wok_yes cr (by rfl) (by rfl)).trans (by first | rfl | simp))
        go_enter Tryd.func37, Tryd.ntmps37
        go_wp2_with (go_at_call 34; refine (IN.out _ _ _ _).mono ?_; rintro e1 w1 ⟨rfl, rfl⟩)
        all_goals go_ret
        all_goals exact ⟨ret_bool (by rw [E.out]; unfold inB belI; apply decide_eq_decide.2; omega), below2 w _ _⟩
      · have E : Hid (wrdOk (sizes.length : Nat) slots (code.length : Nat) ⟨2, r, 0, b, n⟩ = false) := wrd_2.trans (wok_no (by simp [zb]))
        have yb : (b == 0) = false := by simpa using zb
        go_enter Tryd.func37, Tryd.ntmps37
        go_wp2_with (go_at_call 34; refine (IN.out _ _ _ _).mono ?_; rintro e1 w1 ⟨rfl, rfl⟩)
        all_goals go_ret
        all_goals exact ⟨ret_bool (by rw [E.out]), below2 w _ _⟩
    · have E : Hid (wrdOk (sizes.length : Nat) slots (code.length : Nat) ⟨2, r, a, b, n⟩ = false) := wrd_2.trans (wok_no (by simp [za]))
      have ya : (a == 0) = false := by simpa using za
      go_enter Tryd.func37, Tryd.ntmps37
      go_wp2_with (go_at_call 34; refine (IN.out _ _ _ _).mono ?_; rintro e1 w1 ⟨rfl, rfl⟩)
      all_goals go_ret
      all_goals exact ⟨ret_bool (by rw [E.out]), below2 w _ _⟩
  · have ir : inB r 0 15 = false := by rw [e16]; simpa using cr
    have cr2 : belI r 16 = false := by simpa using cr
    have E : Hid (wrdOk (sizes.length : Nat) slots (code.length : Nat) ⟨2, r, a, b, n⟩ = false) := wrd_2.trans (wok_nr cr2)
    go_enter Tryd.func37, Tryd.ntmps37
    go_wp2_with (go_at_call 34; refine (IN.out _ _ _ _).mono ?_; rintro e1 w1 ⟨rfl, rfl⟩)
    all_goals go_ret
    all_goals exact ⟨ret_bool (by rw [E.out]), below2 w _ _⟩
set_option maxHeartbeats 8000000 in
set_option maxRecDepth 100000 in
theorem l13WordOk_3 (m : Img) (r a b n : Int) (w : World) (B : Nat) (v : Array Value) (h : ImgIs w B v m) (hsl0 : 0 ≤ m.slots) (hsl1 : m.slots ≤ 1000) :
    Calls Tryd.prog 37 #[.agg v, .agg #[.int .i64 3, .int .i64 r, .int .i64 a, .int .i64 b, .int .i64 n]] w fun en w' => en = .returned (.bool (wrdOk (m.sizes.length : Nat) m.slots (m.code.length : Nat) ⟨3, r, a, b, n⟩)) ∧ Below w.heap.size w w' := by
  obtain ⟨sizes, params, slots, code⟩ := m
  obtain ⟨us, cs, ub, cb, rfl, _, hzs, hcd⟩ := h
  have hl1 := hzs.1
  have hl2 := hcd.1
  have hm := maxLen_lt
  clear hzs hcd
  simp only at *
  have IN := hideP l01In_any
  have e16 : ∀ x, inB x 0 15 = belI x 16 := fun x => by unfold inB belI; apply decide_eq_decide.2; omega
  by_cases cr : belI r 16 = true
  · have ir : inB r 0 15 = true := (e16 r).trans cr
    by_cases ca : belI a 16 = true
    · have ia : inB a 0 15 = true := (e16 a).trans ca
      by_cases cb : belI b 16 = true
      · have ib : inB b 0 15 = true := (e16 b).trans cb
        have E : Hid (wrdOk (sizes.length : Nat) slots (code.length : Nat) ⟨3, r, a, b, n⟩ = belI n 6) := wrd_3.trans ((wok_yes cr ca cb).trans (by first | rfl | simp))
        go_enter Tryd.func37, Tryd.ntmps37
        go_wp2_with (go_at_call 34; refine (IN.out _ _ _ _).mono ?_; rintro e1 w1 ⟨rfl, rfl⟩)
        all_goals go_ret
        all_goals exact ⟨ret_bool (by rw [E.out]; unfold inB belI; apply decide_eq_decide.2; omega), below2 w _ _⟩
      · have ib : inB b 0 15 = false := by rw [e16]; simpa using cb
        have cb2 : belI b 16 = false := by simpa using cb
        have E : Hid (wrdOk (sizes.length : Nat) slots (code.length : Nat) ⟨3, r, a, b, n⟩ = false) := wrd_3.trans (wok_nb cb2)
        go_enter Tryd.func37, Tryd.ntmps37
        go_wp2_with (go_at_call 34; refine (IN.out _ _ _ _).mono ?_; rintro e1 w1 ⟨rfl, rfl⟩)
        all_goals go_ret
        all_goals exact ⟨ret_bool (by rw [E.out]), below2 w _ _⟩
    · have ia : inB a 0 15 = false := by rw [e16]; simpa using ca
      have ca2 : belI a 16 = false := by simpa using ca
      have E : Hid (wrdOk (sizes.length : Nat) slots (code.length : Nat) ⟨3, r, a, b, n⟩ = false) := wrd_3.trans (wok_na ca2)
      go_enter Tryd.func37, Tryd.ntmps37
      go_wp2_with (go_at_call 34; refine (IN.out _ _ _ _).mono ?_; rintro e1 w1 ⟨rfl, rfl⟩)
      all_goals go_ret
      all_goals exact ⟨ret_bool (by rw [E.out]), below2 w _ _⟩
  · have ir : inB r 0 15 = false := by rw [e16]; simpa using cr
    have cr2 : belI r 16 = false := by simpa using cr
    have E : Hid (wrdOk (sizes.length : Nat) slots (code.length : Nat) ⟨3, r, a, b, n⟩ = false) := wrd_3.trans (wok_nr cr2)
    go_enter Tryd.func37, Tryd.ntmps37
    go_wp2_with (go_at_call 34; refine (IN.out _ _ _ _).mono ?_; rintro e1 w1 ⟨rfl, rfl⟩)
    all_goals go_ret
    all_goals exact ⟨ret_bool (by rw [E.out]), below2 w _ _⟩
end Go.Proofs.YtheholgdfmipbaaDoor
