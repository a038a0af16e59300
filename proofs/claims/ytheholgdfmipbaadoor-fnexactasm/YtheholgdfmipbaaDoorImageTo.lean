/- The contracts of toImage and toImageS: a copy in new memory (written by wip/mkshape.py). -/
import Derived.Test.YtheholgdfmipbaaDoorImageD
import Derived.Test.YtheholgdfmipbaaDoorWordTo
namespace Go.Proofs.YtheholgdfmipbaaDoor
open Go.ChangeShapes Go.WideShapes Go.ChangeAt Go.RowKit
set_option maxHeartbeats 1000000 in
theorem toImage_any (x : Img) (w : World) (B : Nat) (v : Array Value) (h : ImgIs w B v x) (hs : x.sz ≤ 1048576) :
    Calls Tryd.prog 11 #[.agg v] w fun en w' => ∃ v', en = .returned (.agg v') ∧ ImgIs w' w.heap.size v' x ∧ Below w.heap.size w w' := by
  obtain ⟨sizes, params, slots, code⟩ := x
  obtain ⟨usizes, csizes, ucode, ccode, rfl, ok, hsizes, hcode⟩ := h
  simp only [Img.sz, slSz] at *
  have Hsizes := hideP hsizes
  have Hcode := hideP hcode
  clear hsizes hcode
  go_enter Tryd.func11, Tryd.ntmps11
  go_wp2_with fail
  refine (toIntS_any sizes _ B usizes csizes (Hsizes.out.stays (below3 w _ _ _)) (by omega)).mono ?_
  rintro y1 w1 ⟨gsizes, rfl, hx1, bel1⟩
  obtain ⟨q1, q2, q3, hz, hw⟩ := three bel1
  have hB3 : (((w.alloc (.cells #[.slice usizes sizes.length csizes, .int .i64 params, .int .i64 slots, .slice ucode code.length ccode] 28)).alloc (.cells #[.slice none 0 0, .int .i64 0, .int .i64 0, .slice none 0 0] 33)).alloc (.cells #[.slice none 0 0, .int .i64 0, .int .i64 0, .slice none 0 0] 33)).heap.size = w.heap.size + 3 := by simp
  rw [hB3] at hx1
  have HXsizes := hideP hx1
  have HW1 := hideP hw
  have Q1 := hideP q1
  have Q2 := hideP q2
  have Q3 := hideP q3
  clear bel1 q1 q2 q3 hx1 hw hB3
  have r1 := (cells_of Q1.out).1 1
  have r2 := (cells_of Q1.out).1 2
  have r3 := (cells_of Q1.out).1 3
  have s0 := (cells_of Q3.out).1 0
  have s1 := (cells_of Q3.out).1 1
  have s2 := (cells_of Q3.out).1 2
  have f3 := (cells_of Q3.out).2
  simp at r1 r2 r3 s0 s1 s2
  go_wp2_with fail
  have hw' : Below w.heap.size w (((w1.setCell ⟨w.heap.size + 1 + 1, 0, none⟩ (.slice (some ⟨gsizes, 0, none⟩) sizes.length sizes.length)).setCell ⟨w.heap.size + 1 + 1, 1, none⟩ (.int .i64 params)).setCell ⟨w.heap.size + 1 + 1, 2, none⟩ (.int .i64 slots)) := (((HW1.out.setCell (p := ⟨w.heap.size + 1 + 1, 0, none⟩) (show w.heap.size ≤ w.heap.size + 1 + 1 by omega) _).setCell (p := ⟨w.heap.size + 1 + 1, 1, none⟩) (show w.heap.size ≤ w.heap.size + 1 + 1 by omega) _).setCell (p := ⟨w.heap.size + 1 + 1, 2, none⟩) (show w.heap.size ≤ w.heap.size + 1 + 1 by omega) _)
  refine (toWordS_any code _ B ucode ccode (Hcode.out.stays WrdKeeps hw') (by first | omega | (unfold slSz; omega))).mono ?_
  rintro y2 w2 ⟨gcode, rfl, hx, bel⟩
  rw [size_set, size_set, size_set] at hx
  have q1 := (bel.block _ (by have h0 := (Array.getElem?_eq_some_iff.1 Q1.out).1; simpa [size_set] using h0)).trans ((Below.heap_setCell _ ⟨w.heap.size + 1 + 1, 2, none⟩ _ _ (by show _ ≠ w.heap.size + 1 + 1; omega)).trans ((Below.heap_setCell _ ⟨w.heap.size + 1 + 1, 1, none⟩ _ _ (by show _ ≠ w.heap.size + 1 + 1; omega)).trans ((Below.heap_setCell _ ⟨w.heap.size + 1 + 1, 0, none⟩ _ _ (by show _ ≠ w.heap.size + 1 + 1; omega)).trans Q1.out)))
  have q2 := (bel.block _ (by have h0 := (Array.getElem?_eq_some_iff.1 Q2.out).1; simpa [size_set] using h0)).trans ((Below.heap_setCell _ ⟨w.heap.size + 1 + 1, 2, none⟩ _ _ (by show _ ≠ w.heap.size + 1 + 1; omega)).trans ((Below.heap_setCell _ ⟨w.heap.size + 1 + 1, 1, none⟩ _ _ (by show _ ≠ w.heap.size + 1 + 1; omega)).trans ((Below.heap_setCell _ ⟨w.heap.size + 1 + 1, 0, none⟩ _ _ (by show _ ≠ w.heap.size + 1 + 1; omega)).trans Q2.out)))
  have q3 := (bel.block _ (by have h0 := (Array.getElem?_eq_some_iff.1 Q3.out).1; simpa [size_set] using h0)).trans (heap_setCell_same _ _ _ _ _ _ (heap_setCell_same _ _ _ _ _ _ (heap_setCell_same _ _ _ _ _ _ Q3.out)))
  simp at q3
  have hsizes := ((HXsizes.out.but (g := w.heap.size + 1 + 1) (by omega) ((((But.refl _ _).set _ _).set _ _).set _ _)).stays bel)
  have hw2 : Below w.heap.size w w2 := hw'.trans (bel.mono (by simp; omega))
  have hz2 : w1.heap.size ≤ w2.heap.size := by have := bel.size; simpa [size_set] using this
  have HXcode := hideP (hx.mono WrdKeeps (show w.heap.size + 3 ≤ w1.heap.size by omega))
  replace HXsizes := hideP hsizes
  have HW2 := hideP hw2
  replace Q1 := hideP q1
  replace Q2 := hideP q2
  replace Q3 := hideP q3
  clear bel q1 q2 q3 hx hw2 hw' f3 r1 r2 r3 s0 s1 s2 hsizes
  obtain ⟨c1, _⟩ := cells_of Q1.out
  obtain ⟨c2, f2⟩ := cells_of Q2.out
  obtain ⟨c3, f3⟩ := cells_of Q3.out
  have a0' := c2 0
  have b0' := c3 0
  have a1' := c2 1
  have b1' := c3 1
  have a2' := c2 2
  have b2' := c3 2
  have a3' := c2 3
  have b3' := c3 3
  simp at a0' b0' a1' b1' a2' b2' a3' b3'
  clear Q1 Q2 Q3 c1 c2 c3
  go_wp2
  try simp only [Exit.inBlock, Exit.then]
  refine bodyPost_ret (v := .agg #[.slice (some ⟨gsizes, 0, none⟩) sizes.length sizes.length, .int .i64 params, .int .i64 slots, .slice (some ⟨gcode, 0, none⟩) code.length code.length]) (by simp [results, Tryd.results11, go_sem, a0', a1', a2', a3']) rfl ⟨_, rfl, ⟨_, _, _, _, rfl, ok, ?_, ?_⟩, ?_⟩
  · exact (((HXsizes.out.but (g := w.heap.size + 1 + 1) (by omega) ((But.refl _ _).set _ _)).but (g := w.heap.size + 1) (by omega) (((((But.refl _ _).set _ _).set _ _).set _ _).set _ _)).mono (by omega))
  · exact (((HXcode.out.but WrdKeeps (g := w.heap.size + 1 + 1) (by omega) ((But.refl _ _).set _ _)).but WrdKeeps (g := w.heap.size + 1) (by omega) (((((But.refl _ _).set _ _).set _ _).set _ _).set _ _)).mono WrdKeeps (by omega))
  · exact (((((HW2.out.setCell (show w.heap.size ≤ w.heap.size + 1 + 1 by omega) _).setCell (show w.heap.size ≤ w.heap.size + 1 by omega) _).setCell (show w.heap.size ≤ w.heap.size + 1 by omega) _).setCell (show w.heap.size ≤ w.heap.size + 1 by omega) _).setCell (show w.heap.size ≤ w.heap.size + 1 by omega) _)
/-- The copy, its cells named. -/
theorem toImage_in {sizes : List Int} {params : Int} {slots : Int} {code : List Wrd} (w : World) (B : Nat) (v : Array Value) (h : ImgIs w B v ⟨sizes, params, slots, code⟩) (hs : (⟨sizes, params, slots, code⟩ : Img).sz ≤ 1048576) (W : World) (bel : Below w.heap.size w W) :
    Calls Tryd.prog 11 #[.agg v] W fun en w' => ∃ usizes_ csizes_ ucode_ ccode_, en = .returned (.agg #[.slice usizes_ sizes.length csizes_, .int .i64 params, .int .i64 slots, .slice ucode_ code.length ccode_]) ∧ ImgIs w' W.heap.size #[.slice usizes_ sizes.length csizes_, .int .i64 params, .int .i64 slots, .slice ucode_ code.length ccode_] ⟨sizes, params, slots, code⟩ ∧ Below W.heap.size W w' :=
  (toImage_any ⟨sizes, params, slots, code⟩ W B v (ImgKeeps.stays h bel) hs).mono fun en w' ⟨v', he, hp, hb⟩ => by
    have h1 := hp
    obtain ⟨usizes_, csizes_, ucode_, ccode_, rfl, _⟩ := h1
    exact ⟨usizes_, csizes_, ucode_, ccode_, he, hp, hb⟩
end Go.Proofs.YtheholgdfmipbaaDoor
