/- The contract of impl.wordOk, an Op each (written by wip/mkimg.py). -/
import Derived.Test.YtheholgdfmipbaaDoorImgL
namespace Go.Proofs.YtheholgdfmipbaaDoor
open Go.ChangeShapes Go.WideShapes Go.ChangeAt Go.RowKit
set_option maxHeartbeats 8000000 in
set_option maxRecDepth 100000 in
theorem wordOk_4 (m : Img) (r a b n : Int) (w : World) (B : Nat) (v : Array Value) (h : ImgIs w B v m) (hr : belI r 16 = true) (ha : belI a 16 = true) (hb : belI b 16 = true) :
    Calls Tryd.prog 43 #[.agg v, .agg #[.int .i64 4, .int .i64 r, .int .i64 a, .int .i64 b, .int .i64 n]] w fun en w' => en = .returned (.bool (wrdOk (m.sizes.length : Nat) m.slots (m.code.length : Nat) ⟨4, r, a, b, n⟩)) ∧ Below w.heap.size w w' := by
  obtain ⟨sizes, params, slots, code⟩ := m
  obtain ⟨us, cs, ub, cb, rfl, _, hzs, hcd⟩ := h
  have hl1 := hzs.1
  have hl2 := hcd.1
  have hm := maxLen_lt
  clear hzs hcd
  simp only at *
  have IB := hideP isBelow_any
  by_cases zb : b = 0
  · subst zb
    have E : Hid (wrdOk (sizes.length : Nat) slots (code.length : Nat) ⟨4, r, a, 0, n⟩ = belI n ((sizes.length : Nat) : Int)) := wrd_4.trans ((wok_yes hr ha hb).trans (by simp))
    go_enter Tryd.func43, Tryd.ntmps43
    go_wp2_with (go_at_call 35; refine (IB.out _ _ _).mono ?_; rintro e1 w1 ⟨rfl, rfl⟩)
    go_ret
    exact ⟨ret_bool E.out.symm, below3 w _ _ _⟩
  · have E : Hid (wrdOk (sizes.length : Nat) slots (code.length : Nat) ⟨4, r, a, b, n⟩ = false) := wrd_4.trans (wok_no (by simp [zb]))
    have yb : (b == 0) = false := by simpa using zb
    go_enter Tryd.func43, Tryd.ntmps43
    go_wp2_with (go_at_call 35; refine (IB.out _ _ _).mono ?_; rintro e1 w1 ⟨rfl, rfl⟩)
    go_ret
    exact ⟨ret_bool E.out.symm, below3 w _ _ _⟩
set_option maxHeartbeats 8000000 in
set_option maxRecDepth 100000 in
theorem wordOk_5 (m : Img) (r a b n : Int) (w : World) (B : Nat) (v : Array Value) (h : ImgIs w B v m) (hr : belI r 16 = true) (ha : belI a 16 = true) (hb : belI b 16 = true) :
    Calls Tryd.prog 43 #[.agg v, .agg #[.int .i64 5, .int .i64 r, .int .i64 a, .int .i64 b, .int .i64 n]] w fun en w' => en = .returned (.bool (wrdOk (m.sizes.length : Nat) m.slots (m.code.length : Nat) ⟨5, r, a, b, n⟩)) ∧ Below w.heap.size w w' := by
  obtain ⟨sizes, params, slots, code⟩ := m
  obtain ⟨us, cs, ub, cb, rfl, _, hzs, hcd⟩ := h
  have hl1 := hzs.1
  have hl2 := hcd.1
  have hm := maxLen_lt
  clear hzs hcd
  simp only at *
  have IB := hideP isBelow_any
  by_cases zb : b = 0
  · subst zb
    have E : Hid (wrdOk (sizes.length : Nat) slots (code.length : Nat) ⟨5, r, a, 0, n⟩ = belI n ((sizes.length : Nat) : Int)) := wrd_5.trans ((wok_yes hr ha hb).trans (by simp))
    go_enter Tryd.func43, Tryd.ntmps43
    go_wp2_with (go_at_call 35; refine (IB.out _ _ _).mono ?_; rintro e1 w1 ⟨rfl, rfl⟩)
    go_ret
    exact ⟨ret_bool E.out.symm, below3 w _ _ _⟩
  · have E : Hid (wrdOk (sizes.length : Nat) slots (code.length : Nat) ⟨5, r, a, b, n⟩ = false) := wrd_5.trans (wok_no (by simp [zb]))
    have yb : (b == 0) = false := by simpa using zb
    go_enter Tryd.func43, Tryd.ntmps43
    go_wp2_with (go_at_call 35; refine (IB.out _ _ _).mono ?_; rintro e1 w1 ⟨rfl, rfl⟩)
    go_ret
    exact ⟨ret_bool E.out.symm, below3 w _ _ _⟩
set_option maxHeartbeats 8000000 in
set_option maxRecDepth 100000 in
theorem wordOk_6 (m : Img) (r a b n : Int) (w : World) (B : Nat) (v : Array Value) (h : ImgIs w B v m) (hr : belI r 16 = true) (ha : belI a 16 = true) (hb : belI b 16 = true) :
    Calls Tryd.prog 43 #[.agg v, .agg #[.int .i64 6, .int .i64 r, .int .i64 a, .int .i64 b, .int .i64 n]] w fun en w' => en = .returned (.bool (wrdOk (m.sizes.length : Nat) m.slots (m.code.length : Nat) ⟨6, r, a, b, n⟩)) ∧ Below w.heap.size w w' := by
  obtain ⟨sizes, params, slots, code⟩ := m
  obtain ⟨us, cs, ub, cb, rfl, _, hzs, hcd⟩ := h
  have hl1 := hzs.1
  have hl2 := hcd.1
  have hm := maxLen_lt
  clear hzs hcd
  simp only at *
  have IB := hideP isBelow_any
  by_cases za : a = 0
  · subst za
    by_cases zb : b = 0
    · subst zb
      by_cases zn : n = 0
      · subst zn
        have E : Hid (wrdOk (sizes.length : Nat) slots (code.length : Nat) ⟨6, r, 0, 0, 0⟩ = true) := wrd_6.trans ((wok_yes hr ha hb).trans (by simp))
        go_enter Tryd.func43, Tryd.ntmps43
        go_wp2_with (go_at_call 35; refine (IB.out _ _ _).mono ?_; rintro e1 w1 ⟨rfl, rfl⟩)
        go_ret
        exact ⟨ret_bool E.out.symm, below3 w _ _ _⟩
      · have E : Hid (wrdOk (sizes.length : Nat) slots (code.length : Nat) ⟨6, r, 0, 0, n⟩ = false) := wrd_6.trans (wok_no (by simp [zn]))
        have yn : (n == 0) = false := by simpa using zn
        go_enter Tryd.func43, Tryd.ntmps43
        go_wp2_with (go_at_call 35; refine (IB.out _ _ _).mono ?_; rintro e1 w1 ⟨rfl, rfl⟩)
        go_ret
        exact ⟨ret_bool E.out.symm, below3 w _ _ _⟩
    · have E : Hid (wrdOk (sizes.length : Nat) slots (code.length : Nat) ⟨6, r, 0, b, n⟩ = false) := wrd_6.trans (wok_no (by simp [zb]))
      have yb : (b == 0) = false := by simpa using zb
      go_enter Tryd.func43, Tryd.ntmps43
      go_wp2_with (go_at_call 35; refine (IB.out _ _ _).mono ?_; rintro e1 w1 ⟨rfl, rfl⟩)
      go_ret
      exact ⟨ret_bool E.out.symm, below3 w _ _ _⟩
  · have E : Hid (wrdOk (sizes.length : Nat) slots (code.length : Nat) ⟨6, r, a, b, n⟩ = false) := wrd_6.trans (wok_no (by simp [za]))
    have ya : (a == 0) = false := by simpa using za
    go_enter Tryd.func43, Tryd.ntmps43
    go_wp2_with (go_at_call 35; refine (IB.out _ _ _).mono ?_; rintro e1 w1 ⟨rfl, rfl⟩)
    go_ret
    exact ⟨ret_bool E.out.symm, below3 w _ _ _⟩
set_option maxHeartbeats 8000000 in
set_option maxRecDepth 100000 in
theorem wordOk_7 (m : Img) (r a b n : Int) (w : World) (B : Nat) (v : Array Value) (h : ImgIs w B v m) (hr : belI r 16 = true) (ha : belI a 16 = true) (hb : belI b 16 = true) :
    Calls Tryd.prog 43 #[.agg v, .agg #[.int .i64 7, .int .i64 r, .int .i64 a, .int .i64 b, .int .i64 n]] w fun en w' => en = .returned (.bool (wrdOk (m.sizes.length : Nat) m.slots (m.code.length : Nat) ⟨7, r, a, b, n⟩)) ∧ Below w.heap.size w w' := by
  obtain ⟨sizes, params, slots, code⟩ := m
  obtain ⟨us, cs, ub, cb, rfl, _, hzs, hcd⟩ := h
  have hl1 := hzs.1
  have hl2 := hcd.1
  have hm := maxLen_lt
  clear hzs hcd
  simp only at *
  have IB := hideP isBelow_any
  by_cases za : a = 0
  · subst za
    by_cases zb : b = 0
    · subst zb
      by_cases zn : n = 0
      · subst zn
        have E : Hid (wrdOk (sizes.length : Nat) slots (code.length : Nat) ⟨7, r, 0, 0, 0⟩ = true) := wrd_7.trans ((wok_yes hr ha hb).trans (by simp))
        go_enter Tryd.func43, Tryd.ntmps43
        go_wp2_with (go_at_call 35; refine (IB.out _ _ _).mono ?_; rintro e1 w1 ⟨rfl, rfl⟩)
        go_ret
        exact ⟨ret_bool E.out.symm, below3 w _ _ _⟩
      · have E : Hid (wrdOk (sizes.length : Nat) slots (code.length : Nat) ⟨7, r, 0, 0, n⟩ = false) := wrd_7.trans (wok_no (by simp [zn]))
        have yn : (n == 0) = false := by simpa using zn
        go_enter Tryd.func43, Tryd.ntmps43
        go_wp2_with (go_at_call 35; refine (IB.out _ _ _).mono ?_; rintro e1 w1 ⟨rfl, rfl⟩)
        go_ret
        exact ⟨ret_bool E.out.symm, below3 w _ _ _⟩
    · have E : Hid (wrdOk (sizes.length : Nat) slots (code.length : Nat) ⟨7, r, 0, b, n⟩ = false) := wrd_7.trans (wok_no (by simp [zb]))
      have yb : (b == 0) = false := by simpa using zb
      go_enter Tryd.func43, Tryd.ntmps43
      go_wp2_with (go_at_call 35; refine (IB.out _ _ _).mono ?_; rintro e1 w1 ⟨rfl, rfl⟩)
      go_ret
      exact ⟨ret_bool E.out.symm, below3 w _ _ _⟩
  · have E : Hid (wrdOk (sizes.length : Nat) slots (code.length : Nat) ⟨7, r, a, b, n⟩ = false) := wrd_7.trans (wok_no (by simp [za]))
    have ya : (a == 0) = false := by simpa using za
    go_enter Tryd.func43, Tryd.ntmps43
    go_wp2_with (go_at_call 35; refine (IB.out _ _ _).mono ?_; rintro e1 w1 ⟨rfl, rfl⟩)
    go_ret
    exact ⟨ret_bool E.out.symm, below3 w _ _ _⟩
end Go.Proofs.YtheholgdfmipbaaDoor
