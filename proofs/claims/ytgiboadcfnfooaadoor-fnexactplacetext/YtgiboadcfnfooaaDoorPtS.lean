/- A place's text, as a list of bytes; the contract of spec.PlaceText. -/
import Derived.Test.YtgiboadcfnfooaaDoorEndPlain
import Derived.Test.YtgiboadcfnfooaaDoorDec
import Derived.Test.YtgiboadcfnfooaaDoorPlaceO
namespace Go.Proofs.YtgiboadcfnfooaaDoor
open Go.ChangeShapes Go.WideShapes Go.ChangeAt Go.RowKit
def baseL (b : Int) : List UInt8 := if b = -1 then [] else 98 :: (Lib.itoa b ++ [43])
def ptL (p : Plc) : List UInt8 := if p.region = -1 then [45] else 114 :: (Lib.itoa p.region ++ (91 :: (baseL p.pi ++ (baseL p.pj ++ (Lib.itoa p.off ++ [93])))))
/-- A number's text, as a text of which the bytes are known. -/
theorem spec_decO (n : Int) (w : World) (h : I64 n) :
    Calls Tryd.prog 7 #[.int .i64 n] w fun e w' => ∃ s : ByteArray, e = .returned (.string s) ∧ Hid (s.data.toList = Lib.itoa n) ∧ s.size ≤ 21 ∧ w' = w :=
  (spec_dec n w h.1 h.2).mono fun e w' ⟨he, hw⟩ => ⟨_, he, by show _ = _; simp, by have := itoa_len h.1 h.2; simpa [ByteArray.size] using this, hw⟩
set_option maxRecDepth 100000 in
set_option maxHeartbeats 4000000 in
theorem spec_placeText (p : Plc) (hp : p.wf) (w : World) :
    Calls Tryd.prog 4 #[.agg #[.int .i64 p.region, .int .i64 p.pi, .int .i64 p.pj, .int .i64 p.off]] w fun e w' => e = .returned (.string ⟨(ptL p).toArray⟩) ∧ Below w.heap.size w w' := by
  obtain ⟨r, i, j, o⟩ := p
  obtain ⟨hr, hi, hj, ho⟩ := hp
  simp only at *
  have DR := hideP (fun W => spec_decO r W hr)
  have DI := hideP (fun W => spec_decO i W hi)
  have DJ := hideP (fun W => spec_decO j W hj)
  have DO := hideP (fun W => spec_decO o W ho)
  have BW := hideP ((Below.refl w.heap.size w).alloc (Nat.le_refl _) (.cells #[.int .i64 r, .int .i64 i, .int .i64 j, .int .i64 o] 25))
  clear hr hi hj ho
  by_cases h0 : r = -1
  · subst h0
    go_enter Tryd.func4, Tryd.ntmps4
    go_wp2
    go_ret
    exact ⟨ret_str (by simp [ptL]), BW.out⟩
  · have E : Hid (ptL ⟨r, i, j, o⟩ = 114 :: (Lib.itoa r ++ (91 :: (baseL i ++ (baseL j ++ (Lib.itoa o ++ [93])))))) := if_neg h0
    go_enter Tryd.func4, Tryd.ntmps4
    go_wp2_with fail
    refine (DR.out _).mono ?_
    rintro e1 w1 ⟨s1, rfl, S1, z1, hw1⟩
    have hw2 := hw1.symm
    subst hw2
    clear hw1 DR
    by_cases hi : i = -1
    · subst hi
      by_cases hj : j = -1
      · subst hj
        go_wp2_with fail
        refine (DO.out _).mono ?_
        rintro e4 w4 ⟨s4, rfl, S4, z4, hw4⟩
        have hw5 := hw4.symm
        subst hw5
        clear hw4
        go_wp2
        go_ret
        exact ⟨ret_str (mk_of (by rw [E.out]; simp [S1.out, S4.out, baseL])), BW.out⟩
      · have bj : Hid (baseL j = 98 :: (Lib.itoa j ++ [43])) := if_neg hj
        go_wp2_with fail
        refine (DJ.out _).mono ?_
        rintro e3 w3 ⟨s3, rfl, S3, z3, hw3⟩
        have hw5 := hw3.symm
        subst hw5
        clear hw3 DJ
        go_wp2_with fail
        refine (DO.out _).mono ?_
        rintro e4 w4 ⟨s4, rfl, S4, z4, hw4⟩
        have hw5 := hw4.symm
        subst hw5
        clear hw4
        go_wp2
        go_ret
        exact ⟨ret_str (mk_of (by rw [E.out, bj.out]; simp [S1.out, S3.out, S4.out, baseL])), BW.out⟩
    · have bi : Hid (baseL i = 98 :: (Lib.itoa i ++ [43])) := if_neg hi
      go_wp2_with fail
      refine (DI.out _).mono ?_
      rintro e2 w2 ⟨s2, rfl, S2, z2, hw2⟩
      have hw5 := hw2.symm
      subst hw5
      clear hw2 DI
      by_cases hj : j = -1
      · subst hj
        go_wp2_with fail
        refine (DO.out _).mono ?_
        rintro e4 w4 ⟨s4, rfl, S4, z4, hw4⟩
        have hw5 := hw4.symm
        subst hw5
        clear hw4
        go_wp2
        go_ret
        exact ⟨ret_str (mk_of (by rw [E.out, bi.out]; simp [S1.out, S2.out, S4.out, baseL])), BW.out⟩
      · have bj : Hid (baseL j = 98 :: (Lib.itoa j ++ [43])) := if_neg hj
        go_wp2_with fail
        refine (DJ.out _).mono ?_
        rintro e3 w3 ⟨s3, rfl, S3, z3, hw3⟩
        have hw5 := hw3.symm
        subst hw5
        clear hw3 DJ
        go_wp2_with fail
        refine (DO.out _).mono ?_
        rintro e4 w4 ⟨s4, rfl, S4, z4, hw4⟩
        have hw5 := hw4.symm
        subst hw5
        clear hw4
        go_wp2
        go_ret
        exact ⟨ret_str (mk_of (by rw [E.out, bi.out, bj.out]; simp [S1.out, S2.out, S3.out, S4.out])), BW.out⟩
end Go.Proofs.YtgiboadcfnfooaaDoor
