/- The walk of the law FnExactPrefix. -/
import Derived.Test.YtfoaplihindeaaiIntsEq
namespace Go.Proofs.Ytfoaplihindeaai
open Go.ChangeShapes Go.WideShapes Go.ChangeAt Go.RowKit
namespace PrefixLaw
/-- Whether xs is how ys begins. -/
def pre (xs ys : List Int) : Bool := decide (xs.length ≤ ys.length) && (xs == ys.take xs.length)
set_option maxHeartbeats 1000000 in
theorem spec_prefix (xs ys : List Int) (w : World) (a1 a2 : Option Addr) (h1 : IntsGet w a1 xs) (h2 : IntsGet w a2 ys) :
    Calls Try.prog 10 #[.slice a1 xs.length xs.length, .slice a2 ys.length ys.length] w fun en w' => en = .returned (.bool (pre xs ys)) ∧ ∃ q, w' = w.drewN q := by
  have hm := maxLen_lt
  have hl1 := h1.1
  have hl2 := h2.1
  by_cases hle : xs.length ≤ ys.length
  · have ht : (ys.take xs.length).length = xs.length := by rw [List.length_take]; omega
    have h3 := h2.take xs.length hle
    obtain ⟨zs, hz⟩ : ∃ zs, ys.take xs.length = zs := ⟨_, rfl⟩
    have E : Hid (pre xs ys = (xs == zs)) := by unfold pre; rw [decide_eq_true hle, hz]; rfl
    rw [hz] at ht h3
    have C := hideP (l02Ints_any xs zs w a1 a2 xs.length ys.length h1 h3)
    rw [ht] at C
    clear h1 h2 h3 hz ht
    go_enter Try.func10, Try.ntmps10
    go_wp2_with fail
    refine C.out.mono ?_
    rintro e1 w1 ⟨rfl, q, rfl⟩
    go_wp2
    go_ret
    exact ⟨ret_bool E.out.symm, q, rfl⟩
  · have E : Hid (pre xs ys = false) := by unfold pre; rw [decide_eq_false hle]; rfl
    have hle' : ¬ (xs.length : Int) ≤ (ys.length : Int) := by omega
    clear h1 h2
    go_enter Try.func10, Try.ntmps10
    go_wp2
    go_ret
    exact ⟨ret_bool E.out.symm, 0, rfl⟩
set_option maxHeartbeats 1000000 in
theorem impl_prefix (xs ys : List Int) (w : World) (a1 a2 : Option Addr) (h1 : IntsGet w a1 xs) (h2 : IntsGet w a2 ys) :
    Calls Try.prog 12 #[.slice a1 xs.length xs.length, .slice a2 ys.length ys.length] w fun en w' => en = .returned (.bool (pre xs ys)) ∧ ∃ q, w' = w.drewN q := by
  have hm := maxLen_lt
  have hl1 := h1.1
  have hl2 := h2.1
  by_cases hle : xs.length ≤ ys.length
  · have ht : (ys.take xs.length).length = xs.length := by rw [List.length_take]; omega
    have h3 := h2.take xs.length hle
    obtain ⟨zs, hz⟩ : ∃ zs, ys.take xs.length = zs := ⟨_, rfl⟩
    have E : Hid (pre xs ys = (xs == zs)) := by unfold pre; rw [decide_eq_true hle, hz]; rfl
    rw [hz] at ht h3
    have C := hideP (slicesEqual_any xs zs w a1 a2 xs.length ys.length h1 h3)
    rw [ht] at C
    clear h1 h2 h3 hz ht
    go_enter Try.func12, Try.ntmps12
    go_wp2_with fail
    refine C.out.mono ?_
    rintro e1 w1 ⟨rfl, q, rfl⟩
    go_wp2
    go_ret
    exact ⟨ret_bool E.out.symm, q, rfl⟩
  · have E : Hid (pre xs ys = false) := by unfold pre; rw [decide_eq_false hle]; rfl
    have hle' : ¬ (xs.length : Int) ≤ (ys.length : Int) := by omega
    clear h1 h2
    go_enter Try.func12, Try.ntmps12
    go_wp2
    go_ret
    exact ⟨ret_bool E.out.symm, 0, rfl⟩

set_option maxHeartbeats 2000000 in
theorem walk (xs ys : List Int) (a1 a2 : Option Addr) (c1 c2 : Nat) (w : World) (h1 : IntsIs w 0 a1 xs) (h2 : IntsIs w 0 a2 ys) :
    Calls Try.prog 4 #[.slice a1 xs.length c1, .slice a2 ys.length c2] w fun en w' => en = .returned (.bool true) ∧ Below w.heap.size w w' := by
  have hm := maxLen_lt
  have hl1 := h1.1
  have hl2 := h2.1
  by_cases hx : xs.length ≤ 1048576
  · by_cases hy : ys.length ≤ 1048576
    · have TX : Hid (∀ W, Below w.heap.size w W → _) := fun W hW => toIntS_any xs W 0 a1 c1 (h1.stays hW) hx
      have TY : Hid (∀ W, Below w.heap.size w W → _) := fun W hW => toIntS_any ys W 0 a2 c2 (h2.stays hW) hy
      clear h1 h2
      go_enter Try.func4, Try.ntmps4
      go_wp2_with fail
      refine (TX.out _ (Below.refl _ _)).mono ?_
      rintro e1 w1 ⟨g1, rfl, i1, bel1⟩
      have I1 := hideP i1
      have HW1 := hideP bel1
      clear i1 bel1
      go_wp2_with fail
      refine (TY.out _ HW1.out).mono ?_
      rintro e1 w2 ⟨g2, rfl, i2, bel2⟩
      have J1 := hideP (I1.out.stays bel2)
      have J2 := hideP i2
      have HW2 := hideP (below_trans HW1.out bel2)
      clear i2 bel2 I1 HW1
      go_wp2_with fail
      refine (spec_prefix xs ys _ _ _ J1.out.sees J2.out.sees).mono ?_
      rintro e1 w3 ⟨rfl, q3, rfl⟩
      have HW3 := hideP (below_dn HW2.out q3)
      obtain ⟨w3, hw3⟩ : ∃ w3, w2.drewN q3 = w3 := ⟨_, rfl⟩
      rw [hw3] at HW3 ⊢
      clear hw3 J1 J2 HW2
      go_wp2_with fail
      refine (TX.out _ HW3.out).mono ?_
      rintro e1 w4 ⟨g4, rfl, i4, bel4⟩
      have I4 := hideP i4
      have HW4 := hideP (below_trans HW3.out bel4)
      clear i4 bel4 HW3
      go_wp2_with fail
      refine (TY.out _ HW4.out).mono ?_
      rintro e1 w5 ⟨g5, rfl, i5, bel5⟩
      have I5 := hideP (I4.out.stays bel5)
      have J5 := hideP i5
      have HW5 := hideP (below_trans HW4.out bel5)
      clear i5 bel5 I4 HW4
      go_wp2_with fail
      refine (impl_prefix xs ys _ _ _ I5.out.sees J5.out.sees).mono ?_
      rintro e1 w6 ⟨rfl, q6, rfl⟩
      have dr := below_dn (Below.refl w5.heap.size w5) q6
      have HW6 := hideP (below_dn HW5.out q6)
      have I6 := hideP (I5.out.stays dr)
      have J6 := hideP (J5.out.stays dr)
      obtain ⟨w6, hw6⟩ : ∃ w6, w5.drewN q6 = w6 := ⟨_, rfl⟩
      rw [hw6] at HW6 I6 J6 ⊢
      clear hw6 HW5 I5 J5 dr
      go_wp2_with fail
      refine (TX.out _ HW6.out).mono ?_
      rintro e1 w7 ⟨g7, rfl, i7, bel7⟩
      have I7 := hideP i7
      have K7 := hideP (I6.out.stays bel7)
      have J7 := hideP (J6.out.stays bel7)
      have HW7 := hideP (below_trans HW6.out bel7)
      clear i7 bel7 I6 J6 HW6
      go_wp2_with fail
      refine (eqIntS_same xs _ _ _ _ _ _ _ K7.out I7.out).mono ?_
      rintro e1 w8 ⟨rfl, bel8⟩
      have J8 := hideP (J7.out.stays bel8)
      have HW8 := hideP (below_trans HW7.out bel8)
      clear bel8 I7 J7 K7 HW7
      go_wp2_with fail
      refine (TY.out _ HW8.out).mono ?_
      rintro e1 w9 ⟨g9, rfl, i9, bel9⟩
      have I9 := hideP i9
      have J9 := hideP (J8.out.stays bel9)
      have HW9 := hideP (below_trans HW8.out bel9)
      clear i9 bel9 J8 HW8
      go_wp2_with fail
      refine (eqIntS_same ys _ _ _ _ _ _ _ J9.out I9.out).mono ?_
      rintro e1 w10 ⟨rfl, bel10⟩
      have HW10 := hideP (below_trans HW9.out bel10)
      clear bel10 I9 J9 HW9
      go_wp2
      go_ret
      exact ⟨rfl, HW10.out⟩
    · clear h1 h2
      go_enter Try.func4, Try.ntmps4
      go_wp2_with fail
      go_ret
      exact ⟨rfl, Below.refl _ _⟩
  · clear h1 h2
    go_enter Try.func4, Try.ntmps4
    go_wp2_with fail
    go_ret
    exact ⟨rfl, Below.refl _ _⟩
end PrefixLaw
end Go.Proofs.Ytfoaplihindeaai
