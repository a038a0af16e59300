/- The contracts of impl.wordOk and impl.ImageOk. -/
import Derived.Test.YtheholgdfmipbaaDoorImgI0
import Derived.Test.YtheholgdfmipbaaDoorImgI1
import Derived.Test.YtheholgdfmipbaaDoorImgI2
namespace Go.Proofs.YtheholgdfmipbaaDoor
open Go.ChangeShapes Go.WideShapes Go.ChangeAt Go.RowKit
set_option maxHeartbeats 4000000 in
set_option maxRecDepth 100000 in
/-- A register that is none. -/
theorem wordOk_no (m : Img) (op r a b n : Int) (w : World) (B : Nat) (v : Array Value) (h : ImgIs w B v m) (hno : (belI r 16 && belI a 16 && belI b 16) = false) :
    Calls Tryd.prog 43 #[.agg v, .agg #[.int .i64 op, .int .i64 r, .int .i64 a, .int .i64 b, .int .i64 n]] w fun en w' => en = .returned (.bool false) ∧ Below w.heap.size w w' := by
  obtain ⟨sizes, params, slots, code⟩ := m
  obtain ⟨us, cs, ub, cb, rfl, _, _, _⟩ := h
  have IB := hideP isBelow_any
  simp only at *
  cases hr : belI r 16
  · clear hno
    go_enter Tryd.func43, Tryd.ntmps43
    go_wp2_with (go_at_call 35; refine (IB.out _ _ _).mono ?_; rintro e1 w1 ⟨rfl, rfl⟩)
    go_ret
    exact ⟨rfl, below2 w _ _⟩
  · cases ha : belI a 16
    · clear hno
      go_enter Tryd.func43, Tryd.ntmps43
      go_wp2_with (go_at_call 35; refine (IB.out _ _ _).mono ?_; rintro e1 w1 ⟨rfl, rfl⟩)
      go_ret
      exact ⟨rfl, below2 w _ _⟩
    · have hb : belI b 16 = false := by rw [hr, ha] at hno; simpa using hno
      clear hno
      go_enter Tryd.func43, Tryd.ntmps43
      go_wp2_with (go_at_call 35; refine (IB.out _ _ _).mono ?_; rintro e1 w1 ⟨rfl, rfl⟩)
      go_ret
      exact ⟨rfl, below2 w _ _⟩
theorem impl_wordOk (m : Img) (x : Wrd) (w : World) (B B2 : Nat) (v v2 : Array Value) (h : ImgIs w B v m) (hx : WrdIs w B2 v2 x) :
    Calls Tryd.prog 43 #[.agg v, .agg v2] w fun en w' => en = .returned (.bool (wrdOk (m.sizes.length : Nat) m.slots (m.code.length : Nat) x)) ∧ Below w.heap.size w w' := by
  obtain ⟨op, r, a, b, n⟩ := x
  obtain ⟨rfl, _⟩ := hx
  simp only
  by_cases hno : (belI r 16 && belI a 16 && belI b 16) = false
  · have E : wrdOk (m.sizes.length : Nat) m.slots (m.code.length : Nat) ⟨op, r, a, b, n⟩ = false := by unfold wrdOk; simp only; rw [hno]; rfl
    rw [E]
    exact wordOk_no m op r a b n w B v h hno
  · have hy : (belI r 16 && belI a 16 && belI b 16) = true := by revert hno; cases (belI r 16 && belI a 16 && belI b 16) <;> simp
    simp only [Bool.and_eq_true] at hy
    obtain ⟨⟨hr, ha⟩, hb⟩ := hy
    by_cases h0 : op = 0; · subst h0; exact wordOk_0 m r a b n w B v h hr ha hb
    by_cases h1 : op = 1; · subst h1; exact wordOk_1 m r a b n w B v h hr ha hb
    by_cases h2 : op = 2; · subst h2; exact wordOk_2 m r a b n w B v h hr ha hb
    by_cases h3 : op = 3; · subst h3; exact wordOk_3 m r a b n w B v h hr ha hb
    by_cases h4 : op = 4; · subst h4; exact wordOk_4 m r a b n w B v h hr ha hb
    by_cases h5 : op = 5; · subst h5; exact wordOk_5 m r a b n w B v h hr ha hb
    by_cases h6 : op = 6; · subst h6; exact wordOk_6 m r a b n w B v h hr ha hb
    by_cases h7 : op = 7; · subst h7; exact wordOk_7 m r a b n w B v h hr ha hb
    by_cases h8 : op = 8; · subst h8; exact wordOk_8 m r a b n w B v h hr ha hb
    by_cases h9 : op = 9; · subst h9; exact wordOk_9 m r a b n w B v h hr ha hb
    by_cases h10 : op = 10; · subst h10; exact wordOk_10 m r a b n w B v h hr ha hb
    by_cases h11 : op = 11; · subst h11; exact wordOk_11 m r a b n w B v h hr ha hb
    exact wordOk_x m op r a b n w B v h hr ha hb h0 h1 h2 h3 h4 h5 h6 h7 h8 h9 h10 h11
theorem lastOk_at {l : List Wrd} {k : Nat} (hk : k < l.length) (he : k + 1 = l.length) : lastOk l = (l[k].op == 10 || l[k].op == 8) := by
  unfold lastOk
  rw [List.getLast?_eq_getElem?, show l.length - 1 = k by omega, List.getElem?_eq_getElem hk]
theorem imgOk_eq {sizes : List Int} {params slots : Int} {code : List Wrd} (h1 : regOk sizes = true) (h2 : parOk params slots = true) (h3 : slots ≤ 1000) (h4 : 1 ≤ code.length) (h5 : code.length ≤ 6000) :
    imgOk ⟨sizes, params, slots, code⟩ = (code.all (wrdOk (sizes.length : Nat) slots (code.length : Nat)) && lastOk code) := by
  unfold imgOk
  simp only
  rw [h1, h2, decide_eq_true h3, decide_eq_true (And.intro h4 h5)]
  rfl
set_option maxHeartbeats 4000000 in
set_option maxRecDepth 100000 in
theorem impl_imageOk (m : Img) (w : World) (B : Nat) (v : Array Value) (h : ImgIs w B v m) :
    Calls Tryd.prog 27 #[.agg v] w fun en w' => en = .returned (.bool (imgOk m)) ∧ Below w.heap.size w w' := by
  obtain ⟨sizes, params, slots, code⟩ := m
  have hG := hideP h
  obtain ⟨us, cs, ub, cb, rfl, _, hz, hb⟩ := h
  simp only at *
  have hm := maxLen_lt
  have hl := hb.1
  have HB := hideP hb
  have al : Hid (Below w.heap.size w (w.alloc (.cells #[.slice us sizes.length cs, .int .i64 params, .int .i64 slots, .slice ub code.length cb] 33))) := (Below.refl _ _).alloc (Nat.le_refl _) _
  have RO := hideP (regionsOk_any sizes (w.alloc (.cells #[.slice us sizes.length cs, .int .i64 params, .int .i64 slots, .slice ub code.length cb] 33)) B us cs (hz.stays al.out))
  have PO := hideP paramsOk_any
  clear hz hb
  by_cases hbad : (regOk sizes && parOk params slots && decide (slots ≤ 1000) && decide (1 ≤ code.length ∧ code.length ≤ 6000)) = false
  · have E : Hid (imgOk ⟨sizes, params, slots, code⟩ = false) := by show _ = _; unfold imgOk; simp only; rw [hbad]; rfl
    rw [E.out]
    cases hr : regOk sizes
    · clear hbad
      go_enter Tryd.func27, Tryd.ntmps27
      go_wp2_with (go_at_call 41; refine RO.out.mono ?_; rintro e1 w1 ⟨rfl, rfl⟩)
      go_ret
      exact ⟨rfl, al.out⟩
    · cases hp : parOk params slots
      · clear hbad
        go_enter Tryd.func27, Tryd.ntmps27
        go_wp2_with (first | (go_at_call 41; refine RO.out.mono ?_; rintro e1 w1 ⟨rfl, rfl⟩) | (go_at_call 42; refine (PO.out _ _ _).mono ?_; rintro e2 w2 ⟨rfl, rfl⟩))
        go_ret
        exact ⟨rfl, al.out⟩
      · by_cases hs : slots ≤ 1000
        · have hc : ¬ (1 ≤ code.length ∧ code.length ≤ 6000) := by rw [hr, hp, decide_eq_true hs] at hbad; simpa using hbad
          have n1 : ¬ (1000 : Int) < slots := by omega
          clear hbad
          by_cases hc1 : code.length < 1
          · have n2 : (code.length : Int) < 1 := by omega
            go_enter Tryd.func27, Tryd.ntmps27
            go_wp2_with (first | (go_at_call 41; refine RO.out.mono ?_; rintro e1 w1 ⟨rfl, rfl⟩) | (go_at_call 42; refine (PO.out _ _ _).mono ?_; rintro e2 w2 ⟨rfl, rfl⟩))
            go_ret
            exact ⟨rfl, al.out⟩
          · have n2 : ¬ (code.length : Int) < 1 := by omega
            have n3 : (6000 : Int) < (code.length : Int) := by omega
            go_enter Tryd.func27, Tryd.ntmps27
            go_wp2_with (first | (go_at_call 41; refine RO.out.mono ?_; rintro e1 w1 ⟨rfl, rfl⟩) | (go_at_call 42; refine (PO.out _ _ _).mono ?_; rintro e2 w2 ⟨rfl, rfl⟩))
            go_ret
            exact ⟨rfl, al.out⟩
        · have n1 : (1000 : Int) < slots := by omega
          clear hbad
          go_enter Tryd.func27, Tryd.ntmps27
          go_wp2_with (first | (go_at_call 41; refine RO.out.mono ?_; rintro e1 w1 ⟨rfl, rfl⟩) | (go_at_call 42; refine (PO.out _ _ _).mono ?_; rintro e2 w2 ⟨rfl, rfl⟩))
          go_ret
          exact ⟨rfl, al.out⟩
  · have hy : (regOk sizes && parOk params slots && decide (slots ≤ 1000) && decide (1 ≤ code.length ∧ code.length ≤ 6000)) = true := by revert hbad; cases (regOk sizes && parOk params slots && decide (slots ≤ 1000) && decide (1 ≤ code.length ∧ code.length ≤ 6000)) <;> simp
    simp only [Bool.and_eq_true, decide_eq_true_eq] at hy
    obtain ⟨⟨⟨hr, hp⟩, hs⟩, hc1, hc2⟩ := hy
    clear hbad
    obtain ⟨R, hR⟩ : ∃ R, imgOk ⟨sizes, params, slots, code⟩ = R := ⟨_, rfl⟩
    have E := hideP (hR.symm.trans (imgOk_eq hr hp hs hc1 hc2))
    rw [hR]
    clear hR
    have n1 : ¬ (1000 : Int) < slots := by omega
    have n2 : ¬ (code.length : Int) < 1 := by omega
    have n3 : ¬ (6000 : Int) < (code.length : Int) := by omega
    have WO : Hid (∀ W' x2 y2, Below w.heap.size w W' → WrdIs W' 0 x2 y2 → Calls Tryd.prog 43 #[.agg #[.slice us sizes.length cs, .int .i64 params, .int .i64 slots, .slice ub code.length cb], .agg x2] W' fun en w' => en = .returned (.bool (wrdOk (sizes.length : Nat) slots (code.length : Nat) y2)) ∧ Below W'.heap.size W' w') := fun W' x2 y2 hW' hx => impl_wordOk (⟨sizes, params, slots, code⟩ : Img) y2 W' B 0 _ _ (ImgKeeps.stays hG.out hW') hx
    have Q1 : Hid ((w.alloc (.cells #[.slice us sizes.length cs, .int .i64 params, .int .i64 slots, .slice ub code.length cb] 33)).heap[w.heap.size]? = some (.cells #[.slice us sizes.length cs, .int .i64 params, .int .i64 slots, .slice ub code.length cb] 33)) := by show (w.heap.push _)[w.heap.size]? = _; exact Array.getElem?_push_size
    go_enter Tryd.func27, Tryd.ntmps27
    go_wp2_with (first | (go_at_call 41; refine RO.out.mono ?_; rintro e1 w1 ⟨rfl, rfl⟩) | (go_at_call 42; refine (PO.out _ _ _).mono ?_; rintro e2 w2 ⟨rfl, rfl⟩))
    obtain ⟨WG, hWG⟩ : ∃ WG, (w.alloc (.cells #[.slice us sizes.length cs, .int .i64 params, .int .i64 slots, .slice ub code.length cb] 33)) = WG := ⟨_, rfl⟩
    rw [hWG] at al Q1 ⊢
    clear hWG RO PO
    go_loopg [36] code.length (fun gk i wr => ∃ j : Nat, gk + j = code.length ∧ i = .int .i64 j ∧ Hid ((code.take j).all (wrdOk (sizes.length : Nat) slots (code.length : Nat)) = true) ∧ Hid (Below WG.heap.size WG wr))
    case atStart => exact ⟨0, by simp, rfl, show _ = _ by simp, Below.refl _ _⟩
    case round =>
      obtain ⟨j, hj, rfl, hok, hbr⟩ := hrel
      have bw := below_trans al.out hbr.out
      have gg := (cells_of ((hbr.out.block _ (Array.getElem?_eq_some_iff.1 Q1.out).1).trans Q1.out)).1
      have p0 := gg 0
      have p1 := gg 1
      have p2 := gg 2
      have p3 := gg 3
      simp at p0 p1 p2 p3
      have hw0 : w.heap.size < wr.heap.size := Nat.lt_of_lt_of_le (Array.getElem?_eq_some_iff.1 Q1.out).1 hbr.out.size
      by_cases hlt : j < code.length
      · obtain ⟨b, o, y0, y1, y2, y3, y4, rfl, _, hbi, hy, r0, r1, r2, r3, r4, hxx⟩ := Wrd_get (HB.out.stays WrdKeeps bw) j hlt
        have tk := allW_take (wrdOk (sizes.length : Nat) slots (code.length : Nat)) code j hlt
        have no := allW_no (wrdOk (sizes.length : Nat) slots (code.length : Nat)) code j hlt
        rw [hy] at tk no
        rw [hok.out, Bool.true_and] at tk
        have WX := hideP (fun W' hW' => WO.out W' _ _ hW' hxx)
        obtain ⟨r, hr9⟩ : ∃ r, wrdOk (sizes.length : Nat) slots (code.length : Nat) ⟨y0, y1, y2, y3, y4⟩ = r := ⟨_, rfl⟩
        rw [hr9] at tk no WX
        have TK := hideP tk
        have NO := hideP no
        have BWr := hideP (bw.alloc bw.size (.cells #[.int .i64 y0, .int .i64 y1, .int .i64 y2, .int .i64 y3, .int .i64 y4] 47))
        have BR := hideP (hbr.out.alloc hbr.out.size (.cells #[.int .i64 y0, .int .i64 y1, .int .i64 y2, .int .i64 y3, .int .i64 y4] 47))
        clear gg hy hxx tk no bw hr9
        go_wp2_with fail
        refine (WX.out _ BWr.out).mono ?_
        rintro e1 w1 ⟨rfl, bel1⟩
        have BB := hideP (below_trans BWr.out bel1)
        have BC := hideP (below_trans BR.out bel1)
        clear bel1
        cases r
        · go_wp2
          go_ret
          exact ⟨ret_bool (by rw [E.out, NO.out (by first | rfl | trivial)]; rfl), BB.out⟩
        · go_wp2
          go_roundg (code.length - (j + 1))
          case rel => exact ⟨j + 1, by omega, by go_num, TK.out, BC.out⟩
          case measure => omega
      · have hjn : j = code.length := by omega
        subst hjn
        rw [List.take_length] at hok
        have E3 : Hid (R = lastOk code) := by show _ = _; rw [E.out, hok.out, Bool.true_and]
        obtain ⟨k, hk⟩ : ∃ k, code.length = k + 1 := ⟨code.length - 1, by omega⟩
        have hkl : k < code.length := by omega
        obtain ⟨b, o, y0, y1, y2, y3, y4, rfl, _, hbi, hy, r0, r1, r2, r3, r4, hxx⟩ := Wrd_get (HB.out.stays WrdKeeps bw) k hkl
        have LO := hideP (lastOk_at hkl hk.symm)
        rw [hy] at LO
        have BW := hideP bw
        have ek : ((code.length : Int) - 1) = (k : Int) := by omega
        clear gg hy hxx bw hok
        by_cases ha : y0 = 10
        · subst ha
          go_wp2
          go_ret
          exact ⟨ret_bool (by rw [E3.out, LO.out]; rfl), BW.out.alloc BW.out.size _⟩
        · have ha1 : (y0 == 10) = false := by simpa using ha
          go_wp2
          go_ret
          exact ⟨ret_bool (by rw [E3.out, LO.out, ha1]; rfl), BW.out.alloc BW.out.size _⟩
end Go.Proofs.YtheholgdfmipbaaDoor
