/- The contracts of both ShowExp. -/
import Derived.Test.YtfoaplihindeaagDoorShowS
import Derived.Test.YtfoaplihindeaagDoorShowI
import Derived.Test.YtfoaplihindeaagDoorExpOkS
import Derived.Test.YtfoaplihindeaagDoorExpOkI
namespace Go.Proofs.YtfoaplihindeaagDoor
open Go.ChangeShapes Go.WideShapes Go.ChangeAt Go.RowKit
/-- The text of an expression that is one of p, else the empty text. -/
def showL (p : Pr) (e : Ex) : List UInt8 := if exOk (p.sizes.length : Nat) p.vars 30 e = true then e.tx else []
set_option maxHeartbeats 1000000 in
theorem spec_showExp (p : Pr) (e : Ex) (w : World) (B1 B2 : Nat) (v1 v2 : Array Value) (h1 : PrIs w B1 v1 p) (h2 : ExIs w B2 v2 e) (hR : In64 ((p.sizes.length : Nat) : Int)) (hV : In64 p.vars) (hs : e.sz ≤ 1048576) :
    Calls Tryd.prog 11 #[.agg v1, .agg v2] w fun en w' => en = .returned (.string ⟨(showL p e).toArray⟩) ∧ Below w.heap.size w w' := by
  have OK := hideP (fun W (hW : Below w.heap.size w W) => spec_expOk p e W B1 B2 v1 v2 (h1.stays hW) (h2.stays hW))
  obtain ⟨a1, c1, b1, d1, rfl, _, _⟩ := h1
  by_cases hok : exOk (p.sizes.length : Nat) p.vars 30 e = true
  · have SH := hideP (fun W (hW : Below w.heap.size w W) => l02Show_any e W B2 v2 _ _ _ (h2.stays hW) hR hV hok hs)
    have E : Hid (showL p e = e.tx) := by show _ = _; unfold showL; rw [if_pos hok]
    rw [hok] at OK
    obtain ⟨k, n, b, t, kids⟩ := e
    obtain ⟨a2, c2, rfl, _, _⟩ := h2.out
    clear h2 hok hR hV hs
    go_enter Tryd.func11, Tryd.ntmps11
    go_wp2_with fail
    refine (OK.out _ (below2 w _ _)).mono ?_
    rintro e1 w1 ⟨rfl, bel1⟩
    obtain ⟨q1, q2, hz, hw⟩ := two bel1
    have f0 := (cells_of q2).1 0
    have f1 := (cells_of q2).1 1
    have f2 := (cells_of q2).1 2
    have f3 := (cells_of q2).1 3
    have f4 := (cells_of q2).1 4
    simp at f0 f1 f2 f3 f4
    have HW := hideP hw
    clear bel1 q1 q2 hw OK
    go_wp2_with fail
    refine (SH.out _ HW.out).mono ?_
    rintro e1 w2 ⟨rfl, bel2⟩
    have HW2 := hideP (below_trans HW.out bel2)
    clear bel2 f0 f1 f2 f3 f4 SH
    go_wp2
    go_ret
    exact ⟨ret_str (by rw [E.out]), HW2.out⟩
  · have E : Hid (showL p e = []) := by show _ = _; unfold showL; rw [if_neg hok]
    rw [Bool.not_eq_true] at hok
    rw [hok] at OK
    obtain ⟨k, n, b, t, kids⟩ := e
    obtain ⟨a2, c2, rfl, _, _⟩ := h2.out
    clear h2 hok hR hV hs
    go_enter Tryd.func11, Tryd.ntmps11
    go_wp2_with fail
    refine (OK.out _ (below2 w _ _)).mono ?_
    rintro e1 w1 ⟨rfl, bel1⟩
    have HW := hideP (two bel1).2.2.2
    clear bel1 OK
    go_wp2
    go_ret
    exact ⟨ret_str (by rw [E.out]), HW.out⟩
set_option maxHeartbeats 1000000 in
theorem impl_showExp (p : Pr) (e : Ex) (w : World) (B1 B2 : Nat) (v1 v2 : Array Value) (h1 : PrIs w B1 v1 p) (h2 : ExIs w B2 v2 e) (hR : In64 ((p.sizes.length : Nat) : Int)) (hV : In64 p.vars) (hs : e.sz ≤ 1048576) (ht : Tab w) :
    Calls Tryd.prog 13 #[.agg v1, .agg v2] w fun en w' => en = .returned (.string ⟨(showL p e).toArray⟩) ∧ Below w.heap.size w w' := by
  have OK := hideP (fun W (hW : Below w.heap.size w W) => impl_expOk p e W B1 B2 v1 v2 (h1.stays hW) (h2.stays hW))
  obtain ⟨a1, c1, b1, d1, rfl, _, _⟩ := h1
  by_cases hok : exOk (p.sizes.length : Nat) p.vars 30 e = true
  · have SH := hideP (fun W (hW : Below w.heap.size w W) => expText_any e W B2 v2 _ _ _ (h2.stays hW) hR hV hok hs (tab_below ht hW))
    have E : Hid (showL p e = e.tx) := by show _ = _; unfold showL; rw [if_pos hok]
    rw [hok] at OK
    obtain ⟨k, n, b, t, kids⟩ := e
    obtain ⟨a2, c2, rfl, _, _⟩ := h2.out
    clear h2 hok hR hV hs ht
    go_enter Tryd.func13, Tryd.ntmps13
    go_wp2_with fail
    refine (OK.out _ (below2 w _ _)).mono ?_
    rintro e1 w1 ⟨rfl, bel1⟩
    obtain ⟨q1, q2, hz, hw⟩ := two bel1
    have f0 := (cells_of q2).1 0
    have f1 := (cells_of q2).1 1
    have f2 := (cells_of q2).1 2
    have f3 := (cells_of q2).1 3
    have f4 := (cells_of q2).1 4
    simp at f0 f1 f2 f3 f4
    have HW := hideP hw
    clear bel1 q1 q2 hw OK
    go_wp2_with fail
    refine (SH.out _ HW.out).mono ?_
    rintro e1 w2 ⟨rfl, bel2⟩
    have HW2 := hideP (below_trans HW.out bel2)
    clear bel2 f0 f1 f2 f3 f4 SH
    go_wp2
    go_ret
    exact ⟨ret_str (by rw [E.out]), HW2.out⟩
  · have E : Hid (showL p e = []) := by show _ = _; unfold showL; rw [if_neg hok]
    rw [Bool.not_eq_true] at hok
    rw [hok] at OK
    obtain ⟨k, n, b, t, kids⟩ := e
    obtain ⟨a2, c2, rfl, _, _⟩ := h2.out
    clear h2 hok hR hV hs ht
    go_enter Tryd.func13, Tryd.ntmps13
    go_wp2_with fail
    refine (OK.out _ (below2 w _ _)).mono ?_
    rintro e1 w1 ⟨rfl, bel1⟩
    have HW := hideP (two bel1).2.2.2
    clear bel1 OK
    go_wp2
    go_ret
    exact ⟨ret_str (by rw [E.out]), HW.out⟩
end Go.Proofs.YtfoaplihindeaagDoor
