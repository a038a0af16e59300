/- The contracts of impl.isThereAlready and impl.aim. -/
import Derived.Test.YtfoelnblnfcaiaaPeeP
import Derived.Test.YtfoelnblnfcaiaaCpI
import Derived.Test.YtfoelnblnfcaiaaSetH
namespace Go.Proofs.Ytfoelnblnfcaiaa
open Go.ChangeShapes Go.WideShapes Go.ChangeAt Go.RowKit
theorem ret_b {a b : Bool} (h : b = a) : Ending.returned (.bool a) = Ending.returned (.bool b) := by rw [h]
theorem but_of_below {g : Nat} {w w' : World} (h : Below w.heap.size w w') : But g w w' := ⟨h.os, h.tape, h.output, h.size, fun k hk _ => h.block k hk⟩
theorem alr_any (op r a b n op2 r2 a2 b2 n2 : Int) (w : World) :
    Calls Try.prog 41 #[.agg #[.int .i64 op, .int .i64 r, .int .i64 a, .int .i64 b, .int .i64 n], .agg #[.int .i64 op2, .int .i64 r2, .int .i64 a2, .int .i64 b2, .int .i64 n2]] w fun e w' => e = .returned (.bool (alrW ⟨op, r, a, b, n⟩ ⟨op2, r2, a2, b2, n2⟩)) ∧ Below w.heap.size w w' := by
  have AL := hideP (below2 w (.cells #[.int .i64 op, .int .i64 r, .int .i64 a, .int .i64 b, .int .i64 n] 44) (.cells #[.int .i64 op2, .int .i64 r2, .int .i64 a2, .int .i64 b2, .int .i64 n2] 44))
  have E : Hid (alrW ⟨op, r, a, b, n⟩ ⟨op2, r2, a2, b2, n2⟩ = (decide (op = 2) && (decide (op2 = 1) && (decide (r = r2) && decide (n = n2))))) := by
    show _ = _
    unfold alrW
    rw [Bool.eq_iff_iff]
    simp
  by_cases h1 : op = 2
  · by_cases h2 : op2 = 1
    · by_cases h3 : r = r2
      · subst h1 h2 h3
        go_enter Try.func41, Try.ntmps41
        go_wp2
        go_ret
        exact ⟨ret_b (by rw [E.out, Bool.eq_iff_iff]; simp), AL.out⟩
      · subst h1 h2
        have h3' : (r == r2) = false := by simpa using h3
        go_enter Try.func41, Try.ntmps41
        go_wp2
        go_ret
        exact ⟨ret_b (by rw [E.out]; simp [h3]), AL.out⟩
    · subst h1
      have h2' : (op2 == 1) = false := by simpa using h2
      go_enter Try.func41, Try.ntmps41
      go_wp2
      go_ret
      exact ⟨ret_b (by rw [E.out]; simp [h2]), AL.out⟩
  · have h1' : (op == 2) = false := by simpa using h1
    go_enter Try.func41, Try.ntmps41
    go_wp2
    go_ret
    exact ⟨ret_b (by rw [E.out]; simp [h1]), AL.out⟩
set_option maxHeartbeats 8000000 in
set_option maxRecDepth 100000 in
theorem aim_any (l : List Wrd) (num : List Int) (w : World) (B B2 g n cap g2 n2 cap2 : Nat) (h : OwnE WrE w B (.slice (some ⟨g, 0, none⟩) n cap) l) (h2 : OwnI w B2 (.slice (some ⟨g2, 0, none⟩) n2 cap2) num) (hl : l.length ≤ 6000)
    (hg : ∀ x ∈ l, goesW x = true → 0 ≤ x.n ∧ x.n < (num.length : Int)) :
    Calls Try.prog 42 #[.slice (some ⟨g, 0, none⟩) n cap, .slice (some ⟨g2, 0, none⟩) n2 cap2] w fun e w' => e = .returned (.tuple #[]) ∧ OwnE WrE w' B (.slice (some ⟨g, 0, none⟩) n cap) (l.map (aimX num)) ∧ But g w w' := by
  have hne := h.ne_int h2
  have hn : n = l.length := by obtain ⟨g', cap', cur, hv, _⟩ := h.parts WrOk; cases hv; rfl
  have hn2 : n2 = num.length := by obtain ⟨g', cap', cur, hv, _⟩ := h2.parts; cases hv; rfl
  subst hn hn2
  have hm := maxLen_lt
  have HL := hideP h
  have HN := hideP h2
  have HG := hideP hg
  have A0 : Hid (amL num l 0 = l) := amL_zero _ _
  clear h h2 hg
  go_enter Try.func42, Try.ntmps42
  go_wp2
  go_loopg [8] l.length (fun gk i wr => ∃ j : Nat, gk + j = l.length ∧ i = .int .i64 j ∧ Hid (OwnE WrE wr B (.slice (some ⟨g, 0, none⟩) l.length cap) (amL num l j)) ∧ Hid (But g w wr))
  case atStart => exact ⟨0, by simp, rfl, by rw [A0.out]; exact HL.out, But.refl _ _⟩
  case round =>
    obtain ⟨j, hj, rfl, ho, hbw⟩ := hrel
    by_cases hlt : j < l.length
    · have hjl : j < (amL num l j).length := by rw [amL_len]; exact hlt
      obtain ⟨x, hx⟩ : ∃ x, l[j] = x := ⟨_, rfl⟩
      have HX : Hid (l[j] = x) := hx
      obtain ⟨y0, y1, y2, y3, y4⟩ := x
      have hxa : (amL num l j)[j] = ⟨y0, y1, y2, y3, y4⟩ := (amL_at hlt).trans hx
      obtain ⟨r0, r1, r2, r3, r4, r5, r6⟩ := OwnE.w5 ho.out hjl hxa
      have HXA := hideP hxa
      have al := (Below.refl wr.heap.size wr).alloc (Nat.le_refl _) (.cells #[.int .i64 y0, .int .i64 y1, .int .i64 y2, .int .i64 y3, .int .i64 y4] 44)
      have AL := hideP al
      have NX : Hid ((wr.alloc (.cells #[.int .i64 y0, .int .i64 y1, .int .i64 y2, .int .i64 y3, .int .i64 y4] 44)).heap[wr.heap.size]? = some (.cells #[.int .i64 y0, .int .i64 y1, .int .i64 y2, .int .i64 y3, .int .i64 y4] 44)) := by show (wr.heap.push _)[wr.heap.size]? = _; exact Array.getElem?_push_size
      clear hx hxa al r5
      go_wp2_with fail
      refine (goes_any y0 y1 y2 y3 y4 _).mono ?_
      rintro e2 w2 ⟨rfl, b2⟩
      have BA := hideP (below_trans AL.out b2)
      have OO2 := hideP (ho.out.stays BA.out)
      have BB2 : Hid (But g w w2) := hbw.out.twice (but_of_below BA.out)
      have NY := hideP (keepW NX.out b2)
      have q4 := (cells_of NY.out).1 4
      simp at q4
      have hlw : wr.heap.size < w2.heap.size := (Array.getElem?_eq_some_iff.1 NY.out).1
      clear b2 r0 r1 r2 r3 r4 NX NY AL
      have hjl2 : j < (amL num l (j + 1)).length := by rw [amL_len]; exact hlt
      cases hq : goesW ⟨y0, y1, y2, y3, y4⟩
      · have U : Hid (amL num l (j + 1) = amL num l j) := amL_same hlt (by rw [HX.out]; exact hq)
        clear q4 hjl2 HXA hjl
        go_wp2
        go_roundg (l.length - (j + 1))
        case rel => exact ⟨j + 1, by omega, by go_num, by rw [U.out]; exact OO2.out, BB2.out⟩
        case measure => omega
      · have hy := HG.out l[j] (List.getElem_mem hlt) (by rw [HX.out]; exact hq)
        rw [HX.out] at hy
        simp only at hy
        obtain ⟨k, rfl⟩ := Int.eq_ofNat_of_zero_le hy.1
        have hk : k < num.length := by omega
        obtain ⟨z, hz⟩ : ∃ z, num[k] = z := ⟨_, rfl⟩
        have x0 := ints_at (HN.out.butG BB2.out (by simp [Value.ownBlock]; omega)) k hk
        rw [hz] at x0
        have U : Hid (amL num l (j + 1) = (amL num l j).set j ⟨(amL num l j)[j].op, (amL num l j)[j].r, (amL num l j)[j].a, (amL num l j)[j].b, z⟩) := by
          show _ = _
          rw [amL_succ hlt, HXA.out, HX.out]
          unfold aimX
          rw [if_pos hq]
          simp only [Int.toNat_natCast, List.getElem?_eq_getElem hk, hz, Option.getD_some]
        obtain ⟨s0, s1, s2, s3, s4, s5, s6⟩ := OwnE.w5 OO2.out hjl HXA.out
        have f4 := s5 (j * 5 + 4)
        have O3 := hideP (OwnE.setN OO2.out hjl z)
        have B3 := hideP (BB2.out.set (j * 5 + 4) (.int .i64 z))
        clear s0 s1 s2 s3 s5 hz hq hy
        go_wp2
        go_roundg (l.length - (j + 1))
        case rel => exact ⟨j + 1, by omega, by go_num, by rw [U.out]; exact O3.out, B3.out⟩
        case measure => omega
    · have hjn : j = l.length := by omega
      subst hjn
      go_wp2
      go_end0
      exact ⟨rfl, by rw [← amL_all]; exact ho.out, hbw.out⟩
end Go.Proofs.Ytfoelnblnfcaiaa
