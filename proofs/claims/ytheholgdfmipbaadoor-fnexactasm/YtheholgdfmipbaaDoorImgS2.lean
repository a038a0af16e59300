/- The contract of spec.l13WordOk, an Op each (written by wip/mkimg.py). -/
import Derived.Test.YtheholgdfmipbaaDoorImgL
namespace Go.Proofs.YtheholgdfmipbaaDoor
open Go.ChangeShapes Go.WideShapes Go.ChangeAt Go.RowKit
set_option maxHeartbeats 8000000 in
set_option maxRecDepth 100000 in
theorem l13WordOk_8 (m : Img) (r a b n : Int) (w : World) (B : Nat) (v : Array Value) (h : ImgIs w B v m) (hsl0 : 0 ≤ m.slots) (hsl1 : m.slots ≤ 1000) :
    Calls Tryd.prog 37 #[.agg v, .agg #[.int .i64 8, .int .i64 r, .int .i64 a, .int .i64 b, .int .i64 n]] w fun en w' => en = .returned (.bool (wrdOk (m.sizes.length : Nat) m.slots (m.code.length : Nat) ⟨8, r, a, b, n⟩)) ∧ Below w.heap.size w w' := by
  obtain ⟨sizes, params, slots, code⟩ := m
  obtain ⟨us, cs, ub, cb, rfl, _, hzs, hcd⟩ := h
  have hl1 := hzs.1
  have hl2 := hcd.1
  have hm := maxLen_lt
  clear hzs hcd
  simp only at *
  have IN := hideP l01In_any
  have e16 : ∀ x, inB x 0 15 = belI x 16 := fun x => by unfold inB belI; apply decide_eq_decide.2; omega
  by_cases zr : r = 0
  · subst zr
    by_cases za : a = 0
    · subst za
      by_cases zb : b = 0
      · subst zb
        have E : Hid (wrdOk (sizes.length : Nat) slots (code.length : Nat) ⟨8, 0, 0, 0, n⟩ = belI n ((code.length : Nat) : Int)) := wrd_8.trans ((wok_yes (by rfl) (by rfl) (by rfl)).trans (by first | rfl | simp))
        go_enter Tryd.func37, Tryd.ntmps37
        go_wp2_with (go_at_call 34; refine (IN.out _ _ _ _).mono ?_; rintro e1 w1 ⟨rfl, rfl⟩)
        all_goals go_ret
        all_goals exact ⟨ret_bool (by rw [E.out]; unfold inB belI; apply decide_eq_decide.2; omega), below2 w _ _⟩
      · have E : Hid (wrdOk (sizes.length : Nat) slots (code.length : Nat) ⟨8, 0, 0, b, n⟩ = false) := wrd_8.trans (wok_no (by simp [zb]))
        have yb : (b == 0) = false := by simpa using zb
        go_enter Tryd.func37, Tryd.ntmps37
        go_wp2_with (go_at_call 34; refine (IN.out _ _ _ _).mono ?_; rintro e1 w1 ⟨rfl, rfl⟩)
        all_goals go_ret
        all_goals exact ⟨ret_bool (by rw [E.out]), below2 w _ _⟩
    · have E : Hid (wrdOk (sizes.length : Nat) slots (code.length : Nat) ⟨8, 0, a, b, n⟩ = false) := wrd_8.trans (wok_no (by simp [za]))
      have ya : (a == 0) = false := by simpa using za
      go_enter Tryd.func37, Tryd.ntmps37
      go_wp2_with (go_at_call 34; refine (IN.out _ _ _ _).mono ?_; rintro e1 w1 ⟨rfl, rfl⟩)
      all_goals go_ret
      all_goals exact ⟨ret_bool (by rw [E.out]), below2 w _ _⟩
  · have E : Hid (wrdOk (sizes.length : Nat) slots (code.length : Nat) ⟨8, r, a, b, n⟩ = false) := wrd_8.trans (wok_no (by simp [zr]))
    have yr : (r == 0) = false := by simpa using zr
    go_enter Tryd.func37, Tryd.ntmps37
    go_wp2_with (go_at_call 34; refine (IN.out _ _ _ _).mono ?_; rintro e1 w1 ⟨rfl, rfl⟩)
    all_goals go_ret
    all_goals exact ⟨ret_bool (by rw [E.out]), below2 w _ _⟩
set_option maxHeartbeats 8000000 in
set_option maxRecDepth 100000 in
theorem l13WordOk_9 (m : Img) (r a b n : Int) (w : World) (B : Nat) (v : Array Value) (h : ImgIs w B v m) (hsl0 : 0 ≤ m.slots) (hsl1 : m.slots ≤ 1000) :
    Calls Tryd.prog 37 #[.agg v, .agg #[.int .i64 9, .int .i64 r, .int .i64 a, .int .i64 b, .int .i64 n]] w fun en w' => en = .returned (.bool (wrdOk (m.sizes.length : Nat) m.slots (m.code.length : Nat) ⟨9, r, a, b, n⟩)) ∧ Below w.heap.size w w' := by
  obtain ⟨sizes, params, slots, code⟩ := m
  obtain ⟨us, cs, ub, cb, rfl, _, hzs, hcd⟩ := h
  have hl1 := hzs.1
  have hl2 := hcd.1
  have hm := maxLen_lt
  clear hzs hcd
  simp only at *
  have IN := hideP l01In_any
  have e16 : ∀ x, inB x 0 15 = belI x 16 := fun x => by unfold inB belI; apply decide_eq_decide.2; omega
  by_cases cr : belI r 16 = true
  · have ir : inB r 0 15 = true := (e16 r).trans cr
    by_cases za : a = 0
    · subst za
      by_cases zb : b = 0
      · subst zb
        have E : Hid (wrdOk (sizes.length : Nat) slots (code.length : Nat) ⟨9, r, 0, 0, n⟩ = belI n ((code.length : Nat) : Int)) := wrd_9.trans ((wok_yes cr (by rfl) (by rfl)).trans (by first | rfl | simp))
        go_enter Tryd.func37, Tryd.ntmps37
        go_wp2_with (go_at_call 34; refine (IN.out _ _ _ _).mono ?_; rintro e1 w1 ⟨rfl, rfl⟩)
        all_goals go_ret
        all_goals exact ⟨ret_bool (by rw [E.out]; unfold inB belI; apply decide_eq_decide.2; omega), below2 w _ _⟩
      · have E : Hid (wrdOk (sizes.length : Nat) slots (code.length : Nat) ⟨9, r, 0, b, n⟩ = false) := wrd_9.trans (wok_no (by simp [zb]))
        have yb : (b == 0) = false := by simpa using zb
        go_enter Tryd.func37, Tryd.ntmps37
        go_wp2_with (go_at_call 34; refine (IN.out _ _ _ _).mono ?_; rintro e1 w1 ⟨rfl, rfl⟩)
        all_goals go_ret
        all_goals exact ⟨ret_bool (by rw [E.out]), below2 w _ _⟩
    · have E : Hid (wrdOk (sizes.length : Nat) slots (code.length : Nat) ⟨9, r, a, b, n⟩ = false) := wrd_9.trans (wok_no (by simp [za]))
      have ya : (a == 0) = false := by simpa using za
      go_enter Tryd.func37, Tryd.ntmps37
      go_wp2_with (go_at_call 34; refine (IN.out _ _ _ _).mono ?_; rintro e1 w1 ⟨rfl, rfl⟩)
      all_goals go_ret
      all_goals exact ⟨ret_bool (by rw [E.out]), below2 w _ _⟩
  · have ir : inB r 0 15 = false := by rw [e16]; simpa using cr
    have cr2 : belI r 16 = false := by simpa using cr
    have E : Hid (wrdOk (sizes.length : Nat) slots (code.length : Nat) ⟨9, r, a, b, n⟩ = false) := wrd_9.trans (wok_nr cr2)
    go_enter Tryd.func37, Tryd.ntmps37
    go_wp2_with (go_at_call 34; refine (IN.out _ _ _ _).mono ?_; rintro e1 w1 ⟨rfl, rfl⟩)
    all_goals go_ret
    all_goals exact ⟨ret_bool (by rw [E.out]), below2 w _ _⟩
set_option maxHeartbeats 8000000 in
set_option maxRecDepth 100000 in
theorem l13WordOk_10 (m : Img) (r a b n : Int) (w : World) (B : Nat) (v : Array Value) (h : ImgIs w B v m) (hsl0 : 0 ≤ m.slots) (hsl1 : m.slots ≤ 1000) :
    Calls Tryd.prog 37 #[.agg v, .agg #[.int .i64 10, .int .i64 r, .int .i64 a, .int .i64 b, .int .i64 n]] w fun en w' => en = .returned (.bool (wrdOk (m.sizes.length : Nat) m.slots (m.code.length : Nat) ⟨10, r, a, b, n⟩)) ∧ Below w.heap.size w w' := by
  obtain ⟨sizes, params, slots, code⟩ := m
  obtain ⟨us, cs, ub, cb, rfl, _, hzs, hcd⟩ := h
  have hl1 := hzs.1
  have hl2 := hcd.1
  have hm := maxLen_lt
  clear hzs hcd
  simp only at *
  have IN := hideP l01In_any
  have e16 : ∀ x, inB x 0 15 = belI x 16 := fun x => by unfold inB belI; apply decide_eq_decide.2; omega
  by_cases cr : belI r 16 = true
  · have ir : inB r 0 15 = true := (e16 r).trans cr
    by_cases za : a = 0
    · subst za
      by_cases zb : b = 0
      · subst zb
        by_cases zn : n = 0
        · subst zn
          have E : Hid (wrdOk (sizes.length : Nat) slots (code.length : Nat) ⟨10, r, 0, 0, 0⟩ = true) := wrd_10.trans ((wok_yes cr (by rfl) (by rfl)).trans (by first | rfl | simp))
          go_enter Tryd.func37, Tryd.ntmps37
          go_wp2_with (go_at_call 34; refine (IN.out _ _ _ _).mono ?_; rintro e1 w1 ⟨rfl, rfl⟩)
          all_goals go_ret
          all_goals exact ⟨ret_bool (by rw [E.out]), below2 w _ _⟩
        · have E : Hid (wrdOk (sizes.length : Nat) slots (code.length : Nat) ⟨10, r, 0, 0, n⟩ = false) := wrd_10.trans (wok_no (by simp [zn]))
          have yn : (n == 0) = false := by simpa using zn
          go_enter Tryd.func37, Tryd.ntmps37
          go_wp2_with (go_at_call 34; refine (IN.out _ _ _ _).mono ?_; rintro e1 w1 ⟨rfl, rfl⟩)
          all_goals go_ret
          all_goals exact ⟨ret_bool (by rw [E.out]), below2 w _ _⟩
      · have E : Hid (wrdOk (sizes.length : Nat) slots (code.length : Nat) ⟨10, r, 0, b, n⟩ = false) := wrd_10.trans (wok_no (by simp [zb]))
        have yb : (b == 0) = false := by simpa using zb
        go_enter Tryd.func37, Tryd.ntmps37
        go_wp2_with (go_at_call 34; refine (IN.out _ _ _ _).mono ?_; rintro e1 w1 ⟨rfl, rfl⟩)
        all_goals go_ret
        all_goals exact ⟨ret_bool (by rw [E.out]), below2 w _ _⟩
    · have E : Hid (wrdOk (sizes.length : Nat) slots (code.length : Nat) ⟨10, r, a, b, n⟩ = false) := wrd_10.trans (wok_no (by simp [za]))
      have ya : (a == 0) = false := by simpa using za
      go_enter Tryd.func37, Tryd.ntmps37
      go_wp2_with (go_at_call 34; refine (IN.out _ _ _ _).mono ?_; rintro e1 w1 ⟨rfl, rfl⟩)
      all_goals go_ret
      all_goals exact ⟨ret_bool (by rw [E.out]), below2 w _ _⟩
  · have ir : inB r 0 15 = false := by rw [e16]; simpa using cr
    have cr2 : belI r 16 = false := by simpa using cr
    have E : Hid (wrdOk (sizes.length : Nat) slots (code.length : Nat) ⟨10, r, a, b, n⟩ = false) := wrd_10.trans (wok_nr cr2)
    go_enter Tryd.func37, Tryd.ntmps37
    go_wp2_with (go_at_call 34; refine (IN.out _ _ _ _).mono ?_; rintro e1 w1 ⟨rfl, rfl⟩)
    all_goals go_ret
    all_goals exact ⟨ret_bool (by rw [E.out]), below2 w _ _⟩
set_option maxHeartbeats 8000000 in
set_option maxRecDepth 100000 in
theorem l13WordOk_11 (m : Img) (r a b n : Int) (w : World) (B : Nat) (v : Array Value) (h : ImgIs w B v m) (hsl0 : 0 ≤ m.slots) (hsl1 : m.slots ≤ 1000) :
    Calls Tryd.prog 37 #[.agg v, .agg #[.int .i64 11, .int .i64 r, .int .i64 a, .int .i64 b, .int .i64 n]] w fun en w' => en = .returned (.bool (wrdOk (m.sizes.length : Nat) m.slots (m.code.length : Nat) ⟨11, r, a, b, n⟩)) ∧ Below w.heap.size w w' := by
  obtain ⟨sizes, params, slots, code⟩ := m
  obtain ⟨us, cs, ub, cb, rfl, _, hzs, hcd⟩ := h
  have hl1 := hzs.1
  have hl2 := hcd.1
  have hm := maxLen_lt
  clear hzs hcd
  simp only at *
  have IN := hideP l01In_any
  have e16 : ∀ x, inB x 0 15 = belI x 16 := fun x => by unfold inB belI; apply decide_eq_decide.2; omega
  by_cases cr : belI r 16 = true
  · have ir : inB r 0 15 = true := (e16 r).trans cr
    by_cases ca : belI a 16 = true
    · have ia : inB a 0 15 = true := (e16 a).trans ca
      by_cases zb : b = 0
      · subst zb
        by_cases zn : n = 0
        · subst zn
          have E : Hid (wrdOk (sizes.length : Nat) slots (code.length : Nat) ⟨11, r, a, 0, 0⟩ = true) := wrd_11.trans ((wok_yes cr ca (by rfl)).trans (by first | rfl | simp))
          go_enter Tryd.func37, Tryd.ntmps37
          go_wp2_with (go_at_call 34; refine (IN.out _ _ _ _).mono ?_; rintro e1 w1 ⟨rfl, rfl⟩)
          all_goals go_ret
          all_goals exact ⟨ret_bool (by rw [E.out]), below2 w _ _⟩
        · have E : Hid (wrdOk (sizes.length : Nat) slots (code.length : Nat) ⟨11, r, a, 0, n⟩ = false) := wrd_11.trans (wok_no (by simp [zn]))
          have yn : (n == 0) = false := by simpa using zn
          go_enter Tryd.func37, Tryd.ntmps37
          go_wp2_with (go_at_call 34; refine (IN.out _ _ _ _).mono ?_; rintro e1 w1 ⟨rfl, rfl⟩)
          all_goals go_ret
          all_goals exact ⟨ret_bool (by rw [E.out]), below2 w _ _⟩
      · have E : Hid (wrdOk (sizes.length : Nat) slots (code.length : Nat) ⟨11, r, a, b, n⟩ = false) := wrd_11.trans (wok_no (by simp [zb]))
        have yb : (b == 0) = false := by simpa using zb
        go_enter Tryd.func37, Tryd.ntmps37
        go_wp2_with (go_at_call 34; refine (IN.out _ _ _ _).mono ?_; rintro e1 w1 ⟨rfl, rfl⟩)
        all_goals go_ret
        all_goals exact ⟨ret_bool (by rw [E.out]), below2 w _ _⟩
    · have ia : inB a 0 15 = false := by rw [e16]; simpa using ca
      have ca2 : belI a 16 = false := by simpa using ca
      have E : Hid (wrdOk (sizes.length : Nat) slots (code.length : Nat) ⟨11, r, a, b, n⟩ = false) := wrd_11.trans (wok_na ca2)
      go_enter Tryd.func37, Tryd.ntmps37
      go_wp2_with (go_at_call 34; refine (IN.out _ _ _ _).mono ?_; rintro e1 w1 ⟨rfl, rfl⟩)
      all_goals go_ret
      all_goals exact ⟨ret_bool (by rw [E.out]), below2 w _ _⟩
  · have ir : inB r 0 15 = false := by rw [e16]; simpa using cr
    have cr2 : belI r 16 = false := by simpa using cr
    have E : Hid (wrdOk (sizes.length : Nat) slots (code.length : Nat) ⟨11, r, a, b, n⟩ = false) := wrd_11.trans (wok_nr cr2)
    go_enter Tryd.func37, Tryd.ntmps37
    go_wp2_with (go_at_call 34; refine (IN.out _ _ _ _).mono ?_; rintro e1 w1 ⟨rfl, rfl⟩)
    all_goals go_ret
    all_goals exact ⟨ret_bool (by rw [E.out]), below2 w _ _⟩
set_option maxHeartbeats 8000000 in
set_option maxRecDepth 100000 in
theorem l13WordOk_x (m : Img) (op r a b n : Int) (w : World) (B : Nat) (v : Array Value) (h : ImgIs w B v m) (hsl0 : 0 ≤ m.slots) (hsl1 : m.slots ≤ 1000) (h0 : ¬ op = 0) (h1 : ¬ op = 1) (h2 : ¬ op = 2) (h3 : ¬ op = 3) (h4 : ¬ op = 4) (h5 : ¬ op = 5) (h6 : ¬ op = 6) (h7 : ¬ op = 7) (h8 : ¬ op = 8) (h9 : ¬ op = 9) (h10 : ¬ op = 10) (h11 : ¬ op = 11) :
    Calls Tryd.prog 37 #[.agg v, .agg #[.int .i64 op, .int .i64 r, .int .i64 a, .int .i64 b, .int .i64 n]] w fun en w' => en = .returned (.bool (wrdOk (m.sizes.length : Nat) m.slots (m.code.length : Nat) ⟨op, r, a, b, n⟩)) ∧ Below w.heap.size w w' := by
  obtain ⟨sizes, params, slots, code⟩ := m
  obtain ⟨us, cs, ub, cb, rfl, _, hzs, hcd⟩ := h
  have hl1 := hzs.1
  have hl2 := hcd.1
  have hm := maxLen_lt
  clear hzs hcd
  simp only at *
  have IN := hideP l01In_any
  have e16 : ∀ x, inB x 0 15 = belI x 16 := fun x => by unfold inB belI; apply decide_eq_decide.2; omega
  have E : Hid (wrdOk (sizes.length : Nat) slots (code.length : Nat) ⟨op, r, a, b, n⟩ = false) := wrd_x h0 h1 h2 h3 h4 h5 h6 h7 h8 h9 h10 h11
  have g0 : (op == 0) = false := by simpa using h0
  have g1 : (op == 1) = false := by simpa using h1
  have g2 : (op == 2) = false := by simpa using h2
  have g3 : (op == 3) = false := by simpa using h3
  have g4 : (op == 4) = false := by simpa using h4
  have g5 : (op == 5) = false := by simpa using h5
  have g6 : (op == 6) = false := by simpa using h6
  have g7 : (op == 7) = false := by simpa using h7
  have g8 : (op == 8) = false := by simpa using h8
  have g9 : (op == 9) = false := by simpa using h9
  have g10 : (op == 10) = false := by simpa using h10
  have g11 : (op == 11) = false := by simpa using h11
  have ia : ∃ q, inB a 0 15 = q := ⟨_, rfl⟩
  obtain ⟨qa, ia⟩ := ia
  by_cases za : a = 0
  · have ya : (a == 0) = true := by simpa using za
    go_enter Tryd.func37, Tryd.ntmps37
    go_wp2_with (go_at_call 34; refine (IN.out _ _ _ _).mono ?_; rintro e1 w1 ⟨rfl, rfl⟩)
    all_goals go_ret
    all_goals exact ⟨ret_bool (by rw [E.out]), below2 w _ _⟩
  · have ya : (a == 0) = false := by simpa using za
    go_enter Tryd.func37, Tryd.ntmps37
    go_wp2_with (go_at_call 34; refine (IN.out _ _ _ _).mono ?_; rintro e1 w1 ⟨rfl, rfl⟩)
    all_goals go_ret
    all_goals exact ⟨ret_bool (by rw [E.out]), below2 w _ _⟩
end Go.Proofs.YtheholgdfmipbaaDoor
