/- The walk of the law FnExactPlaceText. -/
import Derived.Test.YtgiboadcfnfooaaDoorPtI
namespace Go.Proofs.YtgiboadcfnfooaaDoor
open Go.ChangeShapes Go.WideShapes Go.ChangeAt Go.RowKit
namespace PlaceTextLaw
theorem below3T (w : World) (o1 o2 o3 : Obj) : Below w.heap.size w (((w.alloc o1).alloc o2).alloc o3) :=
  (((Below.refl _ _).alloc (Nat.le_refl _) _).alloc (by simp) _).alloc (by simp; omega) _
set_option maxHeartbeats 1000000 in
theorem toPl (r i j o : Int) (w : World) :
    Calls Tryd.prog 5 #[.agg #[.int .i64 r, .int .i64 i, .int .i64 j, .int .i64 o]] w fun en w' => en = .returned (.agg #[.int .i64 r, .int .i64 i, .int .i64 j, .int .i64 o]) ∧ Below w.heap.size w w' := by
  go_enter Tryd.func5, Tryd.ntmps5
  go_wp2
  try simp only [Exit.inBlock, Exit.then]
  refine bodyPost_ret (v := .agg #[.int .i64 r, .int .i64 i, .int .i64 j, .int .i64 o]) (by simp [results, Tryd.results5, go_sem]) rfl ⟨rfl, ?_⟩
  exact below3T w _ _ _
set_option maxRecDepth 100000 in
set_option maxHeartbeats 4000000 in
theorem walk (x0 : Plc) (v0 : Array Value) (w : World) (h0 : PlcIs w 0 v0 x0) (htab : TabT w) :
    Calls Tryd.prog 3 #[.agg v0] w fun en w' => en = .returned (.bool true) ∧ Below w.heap.size w w' := by
  obtain ⟨rfl, wf⟩ := h0
  obtain ⟨r, hr⟩ : ∃ r : ByteArray, ⟨(ptL x0).toArray⟩ = r := ⟨_, rfl⟩
  have SO : Hid (∀ W, Calls Tryd.prog 4 #[.agg #[.int .i64 x0.region, .int .i64 x0.pi, .int .i64 x0.pj, .int .i64 x0.off]] W fun e w' => e = .returned (.string r) ∧ Below W.heap.size W w') := fun W => hr ▸ spec_placeText x0 wf W
  have IO : Hid (∀ W, Below w.heap.size w W → Calls Tryd.prog 6 #[.agg #[.int .i64 x0.region, .int .i64 x0.pi, .int .i64 x0.pj, .int .i64 x0.off]] W fun e w' => e = .returned (.string r) ∧ Below W.heap.size W w') := fun W hW => hr ▸ impl_placeText x0 wf W (tab_below htab hW)
  obtain ⟨a, b, c, d⟩ := x0
  simp only at *
  have TP := hideP (fun W => toPl a b c d W)
  have BW := hideP ((Below.refl w.heap.size w).alloc (Nat.le_refl _) (.cells #[.int .i64 a, .int .i64 b, .int .i64 c, .int .i64 d] 23))
  have Q := hideP (heap_alloc_new w (.cells #[.int .i64 a, .int .i64 b, .int .i64 c, .int .i64 d] 23))
  clear hr htab wf
  go_enter Tryd.func3, Tryd.ntmps3
  go_wp2_with fail
  refine (TP.out _).mono ?_
  rintro e1 w1 ⟨rfl, bel1⟩
  replace BW := hideP (below_trans BW.out bel1)
  replace Q := hideP ((bel1.block w.heap.size (Array.getElem?_eq_some_iff.1 Q.out).1).trans Q.out)
  clear bel1
  go_wp2_with fail
  refine (SO.out _).mono ?_
  rintro e2 w2 ⟨rfl, bel2⟩
  replace BW := hideP (below_trans BW.out bel2)
  replace Q := hideP ((bel2.block w.heap.size (Array.getElem?_eq_some_iff.1 Q.out).1).trans Q.out)
  clear bel2 SO
  have q0 := (cellsT Q.out).1 0
  have q1 := (cellsT Q.out).1 1
  have q2 := (cellsT Q.out).1 2
  have q3 := (cellsT Q.out).1 3
  simp at q0 q1 q2 q3
  go_wp2_with fail
  refine (TP.out _).mono ?_
  rintro e3 w3 ⟨rfl, bel3⟩
  replace BW := hideP (below_trans BW.out bel3)
  clear bel3 q0 q1 q2 q3 Q
  go_wp2_with fail
  refine (IO.out _ BW.out).mono ?_
  rintro e4 w4 ⟨rfl, bel4⟩
  replace BW := hideP (below_trans BW.out bel4)
  clear bel4 IO
  go_wp2
  go_ret
  exact ⟨rfl, BW.out⟩
end PlaceTextLaw
end Go.Proofs.YtgiboadcfnfooaaDoor
