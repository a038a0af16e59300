/- The contract of impl.wordOk, an Op each (written by wip/mkimg.py). -/
import Derived.Test.YtheholgdfmipbaaDoorImgL
namespace Go.Proofs.YtheholgdfmipbaaDoor
open Go.ChangeShapes Go.WideShapes Go.ChangeAt Go.RowKit
set_option maxHeartbeats 8000000 in
set_option maxRecDepth 100000 in
theorem wordOk_8 (m : Img) (r a b n : Int) (w : World) (B : Nat) (v : Array Value) (h : ImgIs w B v m) (hr : belI r 16 = true) (ha : belI a 16 = true) (hb : belI b 16 = true) :
    Calls Tryd.prog 43 #[.agg v, .agg #[.int .i64 8, .int .i64 r, .int .i64 a, .int .i64 b, .int .i64 n]] w fun en w' => en = .returned (.bool (wrdOk (m.sizes.length : Nat) m.slots (m.code.length : Nat) ⟨8, r, a, b, n⟩)) ∧ Below w.heap.size w w' := by
  obtain ⟨sizes, params, slots, code⟩ := m
  obtain ⟨us, cs, ub, cb, rfl, _, hzs, hcd⟩ := h
  have hl1 := hzs.1
  have hl2 := hcd.1
  have hm := maxLen_lt
  clear hzs hcd
  simp only at *
  have IB := hideP isBelow_any
  by_cases zr : r = 0
  · subst zr
    by_cases za : a = 0
    · subst za
      by_cases zb : b = 0
      · subst zb
        have E : Hid (wrdOk (sizes.length : Nat) slots (code.length : Nat) ⟨8, 0, 0, 0, n⟩ = belI n ((code.length : Nat) : Int)) := wrd_8.trans ((wok_yes hr ha hb).trans (by simp))
        go_enter Tryd.func43, Tryd.ntmps43
        go_wp2_with (go_at_call 35; refine (IB.out _ _ _).mono ?_; rintro e1 w1 ⟨rfl, rfl⟩)
        go_ret
        exact ⟨ret_bool E.out.symm, below3 w _ _ _⟩
      · have E : Hid (wrdOk (sizes.length : Nat) slots (code.length : Nat) ⟨8, 0, 0, b, n⟩ = false) := wrd_8.trans (wok_no (by simp [zb]))
        have yb : (b == 0) = false := by simpa using zb
        go_enter Tryd.func43, Tryd.ntmps43
        go_wp2_with (go_at_call 35; refine (IB.out _ _ _).mono ?_; rintro e1 w1 ⟨rfl, rfl⟩)
        go_ret
        exact ⟨ret_bool E.out.symm, below3 w _ _ _⟩
    · have E : Hid (wrdOk (sizes.length : Nat) slots (code.length : Nat) ⟨8, 0, a, b, n⟩ = false) := wrd_8.trans (wok_no (by simp [za]))
      have ya : (a == 0) = false := by simpa using za
      go_enter Tryd.func43, Tryd.ntmps43
      go_wp2_with (go_at_call 35; refine (IB.out _ _ _).mono ?_; rintro e1 w1 ⟨rfl, rfl⟩)
      go_ret
      exact ⟨ret_bool E.out.symm, below3 w _ _ _⟩
  · have E : Hid (wrdOk (sizes.length : Nat) slots (code.length : Nat) ⟨8, r, a, b, n⟩ = false) := wrd_8.trans (wok_no (by simp [zr]))
    have yr : (r == 0) = false := by simpa using zr
    go_enter Tryd.func43, Tryd.ntmps43
    go_wp2_with (go_at_call 35; refine (IB.out _ _ _).mono ?_; rintro e1 w1 ⟨rfl, rfl⟩)
    go_ret
    exact ⟨ret_bool E.out.symm, below3 w _ _ _⟩
set_option maxHeartbeats 8000000 in
set_option maxRecDepth 100000 in
theorem wordOk_9 (m : Img) (r a b n : Int) (w : World) (B : Nat) (v : Array Value) (h : ImgIs w B v m) (hr : belI r 16 = true) (ha : belI a 16 = true) (hb : belI b 16 = true) :
    Calls Tryd.prog 43 #[.agg v, .agg #[.int .i64 9, .int .i64 r, .int .i64 a, .int .i64 b, .int .i64 n]] w fun en w' => en = .returned (.bool (wrdOk (m.sizes.length : Nat) m.slots (m.code.length : Nat) ⟨9, r, a, b, n⟩)) ∧ Below w.heap.size w w' := by
  obtain ⟨sizes, params, slots, code⟩ := m
  obtain ⟨us, cs, ub, cb, rfl, _, hzs, hcd⟩ := h
  have hl1 := hzs.1
  have hl2 := hcd.1
  have hm := maxLen_lt
  clear hzs hcd
  simp only at *
  have IB := hideP isBelow_any
  by_cases za : a = 0
  · subst za
    by_cases zb : b = 0
    · subst zb
      have E : Hid (wrdOk (sizes.length : Nat) slots (code.length : Nat) ⟨9, r, 0, 0, n⟩ = belI n ((code.length : Nat) : Int)) := wrd_9.trans ((wok_yes hr ha hb).trans (by simp))
      go_enter Tryd.func43, Tryd.ntmps43
      go_wp2_with (go_at_call 35; refine (IB.out _ _ _).mono ?_; rintro e1 w1 ⟨rfl, rfl⟩)
      go_ret
      exact ⟨ret_bool E.out.symm, below3 w _ _ _⟩
    · have E : Hid (wrdOk (sizes.length : Nat) slots (code.length : Nat) ⟨9, r, 0, b, n⟩ = false) := wrd_9.trans (wok_no (by simp [zb]))
      have yb : (b == 0) = false := by simpa using zb
      go_enter Tryd.func43, Tryd.ntmps43
      go_wp2_with (go_at_call 35; refine (IB.out _ _ _).mono ?_; rintro e1 w1 ⟨rfl, rfl⟩)
      go_ret
      exact ⟨ret_bool E.out.symm, below3 w _ _ _⟩
  · have E : Hid (wrdOk (sizes.length : Nat) slots (code.length : Nat) ⟨9, r, a, b, n⟩ = false) := wrd_9.trans (wok_no (by simp [za]))
    have ya : (a == 0) = false := by simpa using za
    go_enter Tryd.func43, Tryd.ntmps43
    go_wp2_with (go_at_call 35; refine (IB.out _ _ _).mono ?_; rintro e1 w1 ⟨rfl, rfl⟩)
    go_ret
    exact ⟨ret_bool E.out.symm, below3 w _ _ _⟩
set_option maxHeartbeats 8000000 in
set_option maxRecDepth 100000 in
theorem wordOk_10 (m : Img) (r a b n : Int) (w : World) (B : Nat) (v : Array Value) (h : ImgIs w B v m) (hr : belI r 16 = true) (ha : belI a 16 = true) (hb : belI b 16 = true) :
    Calls Tryd.prog 43 #[.agg v, .agg #[.int .i64 10, .int .i64 r, .int .i64 a, .int .i64 b, .int .i64 n]] w fun en w' => en = .returned (.bool (wrdOk (m.sizes.length : Nat) m.slots (m.code.length : Nat) ⟨10, r, a, b, n⟩)) ∧ Below w.heap.size w w' := by
  obtain ⟨sizes, params, slots, code⟩ := m
  obtain ⟨us, cs, ub, cb, rfl, _, hzs, hcd⟩ := h
  have hl1 := hzs.1
  have hl2 := hcd.1
  have hm := maxLen_lt
  clear hzs hcd
  simp only at *
  have IB := hideP isBelow_any
  by_cases za : a = 0
  · subst za
    by_cases zb : b = 0
    · subst zb
      by_cases zn : n = 0
      · subst zn
        have E : Hid (wrdOk (sizes.length : Nat) slots (code.length : Nat) ⟨10, r, 0, 0, 0⟩ = true) := wrd_10.trans ((wok_yes hr ha hb).trans (by simp))
        go_enter Tryd.func43, Tryd.ntmps43
        go_wp2_with (go_at_call 35; refine (IB.out _ _ _).mono ?_; rintro e1 w1 ⟨rfl, rfl⟩)
        go_ret
        exact ⟨ret_bool E.out.symm, below3 w _ _ _⟩
      · have E : Hid (wrdOk (sizes.length : Nat) slots (code.length : Nat) ⟨10, r, 0, 0, n⟩ = false) := wrd_10.trans (wok_no (by simp [zn]))
        have yn : (n == 0) = false := by simpa using zn
        go_enter Tryd.func43, Tryd.ntmps43
        go_wp2_with (go_at_call 35; refine (IB.out _ _ _).mono ?_; rintro e1 w1 ⟨rfl, rfl⟩)
        go_ret
        exact ⟨ret_bool E.out.symm, below3 w _ _ _⟩
    · have E : Hid (wrdOk (sizes.length : Nat) slots (code.length : Nat) ⟨10, r, 0, b, n⟩ = false) := wrd_10.trans (wok_no (by simp [zb]))
      have yb : (b == 0) = false := by simpa using zb
      go_enter Tryd.func43, Tryd.ntmps43
      go_wp2_with (go_at_call 35; refine (IB.out _ _ _).mono ?_; rintro e1 w1 ⟨rfl, rfl⟩)
      go_ret
      exact ⟨ret_bool E.out.symm, below3 w _ _ _⟩
  · have E : Hid (wrdOk (sizes.length : Nat) slots (code.length : Nat) ⟨10, r, a, b, n⟩ = false) := wrd_10.trans (wok_no (by simp [za]))
    have ya : (a == 0) = false := by simpa using za
    go_enter Tryd.func43, Tryd.ntmps43
    go_wp2_with (go_at_call 35; refine (IB.out _ _ _).mono ?_; rintro e1 w1 ⟨rfl, rfl⟩)
    go_ret
    exact ⟨ret_bool E.out.symm, below3 w _ _ _⟩
set_option maxHeartbeats 8000000 in
set_option maxRecDepth 100000 in
theorem wordOk_11 (m : Img) (r a b n : Int) (w : World) (B : Nat) (v : Array Value) (h : ImgIs w B v m) (hr : belI r 16 = true) (ha : belI a 16 = true) (hb : belI b 16 = true) :
    Calls Tryd.prog 43 #[.agg v, .agg #[.int .i64 11, .int .i64 r, .int .i64 a, .int .i64 b, .int .i64 n]] w fun en w' => en = .returned (.bool (wrdOk (m.sizes.length : Nat) m.slots (m.code.length : Nat) ⟨11, r, a, b, n⟩)) ∧ Below w.heap.size w w' := by
  obtain ⟨sizes, params, slots, code⟩ := m
  obtain ⟨us, cs, ub, cb, rfl, _, hzs, hcd⟩ := h
  have hl1 := hzs.1
  have hl2 := hcd.1
  have hm := maxLen_lt
  clear hzs hcd
  simp only at *
  have IB := hideP isBelow_any
  by_cases zb : b = 0
  · subst zb
    by_cases zn : n = 0
    · subst zn
      have E : Hid (wrdOk (sizes.length : Nat) slots (code.length : Nat) ⟨11, r, a, 0, 0⟩ = true) := wrd_11.trans ((wok_yes hr ha hb).trans (by simp))
      go_enter Tryd.func43, Tryd.ntmps43
      go_wp2_with (go_at_call 35; refine (IB.out _ _ _).mono ?_; rintro e1 w1 ⟨rfl, rfl⟩)
      go_ret
      exact ⟨ret_bool E.out.symm, below3 w _ _ _⟩
    · have E : Hid (wrdOk (sizes.length : Nat) slots (code.length : Nat) ⟨11, r, a, 0, n⟩ = false) := wrd_11.trans (wok_no (by simp [zn]))
      have yn : (n == 0) = false := by simpa using zn
      go_enter Tryd.func43, Tryd.ntmps43
      go_wp2_with (go_at_call 35; refine (IB.out _ _ _).mono ?_; rintro e1 w1 ⟨rfl, rfl⟩)
      go_ret
      exact ⟨ret_bool E.out.symm, below3 w _ _ _⟩
  · have E : Hid (wrdOk (sizes.length : Nat) slots (code.length : Nat) ⟨11, r, a, b, n⟩ = false) := wrd_11.trans (wok_no (by simp [zb]))
    have yb : (b == 0) = false := by simpa using zb
    go_enter Tryd.func43, Tryd.ntmps43
    go_wp2_with (go_at_call 35; refine (IB.out _ _ _).mono ?_; rintro e1 w1 ⟨rfl, rfl⟩)
    go_ret
    exact ⟨ret_bool E.out.symm, below3 w _ _ _⟩
set_option maxHeartbeats 8000000 in
set_option maxRecDepth 100000 in
theorem wordOk_x (m : Img) (op r a b n : Int) (w : World) (B : Nat) (v : Array Value) (h : ImgIs w B v m) (hr : belI r 16 = true) (ha : belI a 16 = true) (hb : belI b 16 = true) (h0 : ¬ op = 0) (h1 : ¬ op = 1) (h2 : ¬ op = 2) (h3 : ¬ op = 3) (h4 : ¬ op = 4) (h5 : ¬ op = 5) (h6 : ¬ op = 6) (h7 : ¬ op = 7) (h8 : ¬ op = 8) (h9 : ¬ op = 9) (h10 : ¬ op = 10) (h11 : ¬ op = 11) :
    Calls Tryd.prog 43 #[.agg v, .agg #[.int .i64 op, .int .i64 r, .int .i64 a, .int .i64 b, .int .i64 n]] w fun en w' => en = .returned (.bool (wrdOk (m.sizes.length : Nat) m.slots (m.code.length : Nat) ⟨op, r, a, b, n⟩)) ∧ Below w.heap.size w w' := by
  obtain ⟨sizes, params, slots, code⟩ := m
  obtain ⟨us, cs, ub, cb, rfl, _, hzs, hcd⟩ := h
  have hl1 := hzs.1
  have hl2 := hcd.1
  have hm := maxLen_lt
  clear hzs hcd
  simp only at *
  have IB := hideP isBelow_any
  have E : Hid (wrdOk (sizes.length : Nat) slots (code.length : Nat) ⟨op, r, a, b, n⟩ = false) := wrd_x h0 h1 h2 h3 h4 h5 h6 h7 h8 h9 h10 h11
  have g0 : (op == 0) = false := by simpa using h0
  have g1 : (op == 1) = false := by simpa using h1
  have g2 : (op == 2) = false := by simpa using h2
  have g3 : (op == 3) = false := by simpa using h3
  have g4 : (op == 4) = false := by simpa using h4
  have g5 : (op == 5) = false := by simpa using h5
  have g6 : (op == 6) = false := by simpa using h6
  have g7 : (op == 7) = false := by simpa using h7
  have g8 : (op == 8) = false := by simpa using h8
  have g9 : (op == 9) = false := by simpa using h9
  have g10 : (op == 10) = false := by simpa using h10
  have g11 : (op == 11) = false := by simpa using h11
  go_enter Tryd.func43, Tryd.ntmps43
  go_wp2_with (go_at_call 35; refine (IB.out _ _ _).mono ?_; rintro e1 w1 ⟨rfl, rfl⟩)
  go_ret
  exact ⟨ret_bool E.out.symm, below3 w _ _ _⟩
end Go.Proofs.YtheholgdfmipbaaDoor
