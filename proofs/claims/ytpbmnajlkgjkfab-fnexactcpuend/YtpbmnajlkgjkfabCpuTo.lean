/- The contracts of toCpu and toCpuS: a copy in new memory (written by wip/mkshape.py). -/
import Derived.Test.YtpbmnajlkgjkfabCpuD
import Derived.Test.YtpbmnajlkgjkfabIntSTo
namespace Go.Proofs.Ytpbmnajlkgjkfab
open Go.ChangeShapes Go.WideShapes Go.ChangeAt Go.RowKit
set_option maxHeartbeats 1000000 in
theorem toCpu_any (x : Cp) (w : World) (B : Nat) (v : Array Value) (h : CpIs w B v x) (hs : x.sz ≤ 1048576) :
    Calls Try.prog 6 #[.agg v] w fun en w' => ∃ v', en = .returned (.agg v') ∧ CpIs w' w.heap.size v' x ∧ Below w.heap.size w w' := by
  obtain ⟨pos, regs, slots, mem, input, out, code, over, val⟩ := x
  obtain ⟨uregs, cregs, uslots, cslots, umem, cmem, uinput, cinput, uout, cout, rfl, ok, hregs, hslots, hmem, hinput, hout⟩ := h
  simp only [Cp.sz, slSz] at *
  have Hregs := hideP hregs
  have Hslots := hideP hslots
  have Hmem := hideP hmem
  have Hinput := hideP hinput
  have Hout := hideP hout
  clear hregs hslots hmem hinput hout
  go_enter Try.func6, Try.ntmps6
  go_wp2_with fail
  refine (toIntS_any regs _ B uregs cregs (Hregs.out.stays (below3 w _ _ _)) (by omega)).mono ?_
  rintro y1 w1 ⟨gregs, rfl, hx1, bel1⟩
  obtain ⟨q1, q2, q3, hz, hw⟩ := three bel1
  have hB3 : (((w.alloc (.cells #[.int .i64 pos, .slice uregs regs.length cregs, .slice uslots slots.length cslots, .slice umem mem.length cmem, .slice uinput input.length cinput, .slice uout out.length cout, .int .i64 code, .bool over, .int .i64 val] 25)).alloc (.cells #[.int .i64 0, .slice none 0 0, .slice none 0 0, .slice none 0 0, .slice none 0 0, .slice none 0 0, .int .i64 0, .bool false, .int .i64 0] 30)).alloc (.cells #[.int .i64 pos, .slice none 0 0, .slice none 0 0, .slice none 0 0, .slice none 0 0, .slice none 0 0, .int .i64 0, .bool false, .int .i64 0] 30)).heap.size = w.heap.size + 3 := by simp
  rw [hB3] at hx1
  have HXregs := hideP hx1
  have HW1 := hideP hw
  have Q1 := hideP q1
  have Q2 := hideP q2
  have Q3 := hideP q3
  clear bel1 q1 q2 q3 hx1 hw hB3
  have r2 := (cells_of Q1.out).1 2
  have s1 := (cells_of Q3.out).1 1
  have f3 := (cells_of Q3.out).2
  simp at r2 s1
  go_wp2_with fail
  have hw' : Below w.heap.size w (w1.setCell ⟨w.heap.size + 1 + 1, 1, none⟩ (.slice (some ⟨gregs, 0, none⟩) regs.length regs.length)) := (HW1.out.setCell (p := ⟨w.heap.size + 1 + 1, 1, none⟩) (show w.heap.size ≤ w.heap.size + 1 + 1 by omega) _)
  refine (toIntS_any slots _ B uslots cslots (Hslots.out.stays hw') (by omega)).mono ?_
  rintro y2 w2 ⟨gslots, rfl, hx, bel⟩
  rw [size_set] at hx
  have q1 := (bel.block _ (by have h0 := (Array.getElem?_eq_some_iff.1 Q1.out).1; simpa [size_set] using h0)).trans ((Below.heap_setCell _ ⟨w.heap.size + 1 + 1, 1, none⟩ _ _ (by show _ ≠ w.heap.size + 1 + 1; omega)).trans Q1.out)
  have q2 := (bel.block _ (by have h0 := (Array.getElem?_eq_some_iff.1 Q2.out).1; simpa [size_set] using h0)).trans ((Below.heap_setCell _ ⟨w.heap.size + 1 + 1, 1, none⟩ _ _ (by show _ ≠ w.heap.size + 1 + 1; omega)).trans Q2.out)
  have q3 := (bel.block _ (by have h0 := (Array.getElem?_eq_some_iff.1 Q3.out).1; simpa [size_set] using h0)).trans (heap_setCell_same _ _ _ _ _ _ Q3.out)
  simp at q3
  have hregs := ((HXregs.out.but (g := w.heap.size + 1 + 1) (by omega) ((But.refl _ _).set _ _)).stays bel)
  have hw2 : Below w.heap.size w w2 := hw'.trans (bel.mono (by simp; omega))
  have hz2 : w1.heap.size ≤ w2.heap.size := by have := bel.size; simpa [size_set] using this
  have HXslots := hideP (hx.mono (show w.heap.size + 3 ≤ w1.heap.size by omega))
  replace HXregs := hideP hregs
  have HW2 := hideP hw2
  replace Q1 := hideP q1
  replace Q2 := hideP q2
  replace Q3 := hideP q3
  clear bel q1 q2 q3 hx hw2 hw' f3 r2 s1 hregs
  have r3 := (cells_of Q1.out).1 3
  have s2 := (cells_of Q3.out).1 2
  have f3 := (cells_of Q3.out).2
  simp at r3 s2
  go_wp2_with fail
  have hw' : Below w.heap.size w (w2.setCell ⟨w.heap.size + 1 + 1, 2, none⟩ (.slice (some ⟨gslots, 0, none⟩) slots.length slots.length)) := (HW2.out.setCell (p := ⟨w.heap.size + 1 + 1, 2, none⟩) (show w.heap.size ≤ w.heap.size + 1 + 1 by omega) _)
  refine (toIntSS_any mem _ B umem cmem (Hmem.out.stays RwKeeps hw') (by first | omega | (unfold slSz; omega))).mono ?_
  rintro y3 w3 ⟨gmem, rfl, hx, bel⟩
  rw [size_set] at hx
  have q1 := (bel.block _ (by have h0 := (Array.getElem?_eq_some_iff.1 Q1.out).1; simpa [size_set] using h0)).trans ((Below.heap_setCell _ ⟨w.heap.size + 1 + 1, 2, none⟩ _ _ (by show _ ≠ w.heap.size + 1 + 1; omega)).trans Q1.out)
  have q2 := (bel.block _ (by have h0 := (Array.getElem?_eq_some_iff.1 Q2.out).1; simpa [size_set] using h0)).trans ((Below.heap_setCell _ ⟨w.heap.size + 1 + 1, 2, none⟩ _ _ (by show _ ≠ w.heap.size + 1 + 1; omega)).trans Q2.out)
  have q3 := (bel.block _ (by have h0 := (Array.getElem?_eq_some_iff.1 Q3.out).1; simpa [size_set] using h0)).trans (heap_setCell_same _ _ _ _ _ _ Q3.out)
  simp at q3
  have hregs := ((HXregs.out.but (g := w.heap.size + 1 + 1) (by omega) ((But.refl _ _).set _ _)).stays bel)
  have hslots := ((HXslots.out.but (g := w.heap.size + 1 + 1) (by omega) ((But.refl _ _).set _ _)).stays bel)
  have hw3 : Below w.heap.size w w3 := hw'.trans (bel.mono (by simp; omega))
  have hz3 : w2.heap.size ≤ w3.heap.size := by have := bel.size; simpa [size_set] using this
  have HXmem := hideP (hx.mono RwKeeps (show w.heap.size + 3 ≤ w2.heap.size by omega))
  replace HXregs := hideP hregs
  replace HXslots := hideP hslots
  have HW3 := hideP hw3
  replace Q1 := hideP q1
  replace Q2 := hideP q2
  replace Q3 := hideP q3
  clear bel q1 q2 q3 hx hw3 hw' f3 r3 s2 hregs hslots
  have r4 := (cells_of Q1.out).1 4
  have s3 := (cells_of Q3.out).1 3
  have f3 := (cells_of Q3.out).2
  simp at r4 s3
  go_wp2_with fail
  have hw' : Below w.heap.size w (w3.setCell ⟨w.heap.size + 1 + 1, 3, none⟩ (.slice (some ⟨gmem, 0, none⟩) mem.length mem.length)) := (HW3.out.setCell (p := ⟨w.heap.size + 1 + 1, 3, none⟩) (show w.heap.size ≤ w.heap.size + 1 + 1 by omega) _)
  refine (toIntS_any input _ B uinput cinput (Hinput.out.stays hw') (by omega)).mono ?_
  rintro y4 w4 ⟨ginput, rfl, hx, bel⟩
  rw [size_set] at hx
  have q1 := (bel.block _ (by have h0 := (Array.getElem?_eq_some_iff.1 Q1.out).1; simpa [size_set] using h0)).trans ((Below.heap_setCell _ ⟨w.heap.size + 1 + 1, 3, none⟩ _ _ (by show _ ≠ w.heap.size + 1 + 1; omega)).trans Q1.out)
  have q2 := (bel.block _ (by have h0 := (Array.getElem?_eq_some_iff.1 Q2.out).1; simpa [size_set] using h0)).trans ((Below.heap_setCell _ ⟨w.heap.size + 1 + 1, 3, none⟩ _ _ (by show _ ≠ w.heap.size + 1 + 1; omega)).trans Q2.out)
  have q3 := (bel.block _ (by have h0 := (Array.getElem?_eq_some_iff.1 Q3.out).1; simpa [size_set] using h0)).trans (heap_setCell_same _ _ _ _ _ _ Q3.out)
  simp at q3
  have hregs := ((HXregs.out.but (g := w.heap.size + 1 + 1) (by omega) ((But.refl _ _).set _ _)).stays bel)
  have hslots := ((HXslots.out.but (g := w.heap.size + 1 + 1) (by omega) ((But.refl _ _).set _ _)).stays bel)
  have hmem := ((HXmem.out.but RwKeeps (g := w.heap.size + 1 + 1) (by omega) ((But.refl _ _).set _ _)).stays RwKeeps bel)
  have hw4 : Below w.heap.size w w4 := hw'.trans (bel.mono (by simp; omega))
  have hz4 : w3.heap.size ≤ w4.heap.size := by have := bel.size; simpa [size_set] using this
  have HXinput := hideP (hx.mono (show w.heap.size + 3 ≤ w3.heap.size by omega))
  replace HXregs := hideP hregs
  replace HXslots := hideP hslots
  replace HXmem := hideP hmem
  have HW4 := hideP hw4
  replace Q1 := hideP q1
  replace Q2 := hideP q2
  replace Q3 := hideP q3
  clear bel q1 q2 q3 hx hw4 hw' f3 r4 s3 hregs hslots hmem
  have r5 := (cells_of Q1.out).1 5
  have s4 := (cells_of Q3.out).1 4
  have f3 := (cells_of Q3.out).2
  simp at r5 s4
  go_wp2_with fail
  have hw' : Below w.heap.size w (w4.setCell ⟨w.heap.size + 1 + 1, 4, none⟩ (.slice (some ⟨ginput, 0, none⟩) input.length input.length)) := (HW4.out.setCell (p := ⟨w.heap.size + 1 + 1, 4, none⟩) (show w.heap.size ≤ w.heap.size + 1 + 1 by omega) _)
  refine (toIntS_any out _ B uout cout (Hout.out.stays hw') (by omega)).mono ?_
  rintro y5 w5 ⟨gout, rfl, hx, bel⟩
  rw [size_set] at hx
  have q1 := (bel.block _ (by have h0 := (Array.getElem?_eq_some_iff.1 Q1.out).1; simpa [size_set] using h0)).trans ((Below.heap_setCell _ ⟨w.heap.size + 1 + 1, 4, none⟩ _ _ (by show _ ≠ w.heap.size + 1 + 1; omega)).trans Q1.out)
  have q2 := (bel.block _ (by have h0 := (Array.getElem?_eq_some_iff.1 Q2.out).1; simpa [size_set] using h0)).trans ((Below.heap_setCell _ ⟨w.heap.size + 1 + 1, 4, none⟩ _ _ (by show _ ≠ w.heap.size + 1 + 1; omega)).trans Q2.out)
  have q3 := (bel.block _ (by have h0 := (Array.getElem?_eq_some_iff.1 Q3.out).1; simpa [size_set] using h0)).trans (heap_setCell_same _ _ _ _ _ _ Q3.out)
  simp at q3
  have hregs := ((HXregs.out.but (g := w.heap.size + 1 + 1) (by omega) ((But.refl _ _).set _ _)).stays bel)
  have hslots := ((HXslots.out.but (g := w.heap.size + 1 + 1) (by omega) ((But.refl _ _).set _ _)).stays bel)
  have hmem := ((HXmem.out.but RwKeeps (g := w.heap.size + 1 + 1) (by omega) ((But.refl _ _).set _ _)).stays RwKeeps bel)
  have hinput := ((HXinput.out.but (g := w.heap.size + 1 + 1) (by omega) ((But.refl _ _).set _ _)).stays bel)
  have hw5 : Below w.heap.size w w5 := hw'.trans (bel.mono (by simp; omega))
  have hz5 : w4.heap.size ≤ w5.heap.size := by have := bel.size; simpa [size_set] using this
  have HXout := hideP (hx.mono (show w.heap.size + 3 ≤ w4.heap.size by omega))
  replace HXregs := hideP hregs
  replace HXslots := hideP hslots
  replace HXmem := hideP hmem
  replace HXinput := hideP hinput
  have HW5 := hideP hw5
  replace Q1 := hideP q1
  replace Q2 := hideP q2
  replace Q3 := hideP q3
  clear bel q1 q2 q3 hx hw5 hw' f3 r5 s4 hregs hslots hmem hinput
  obtain ⟨c1, _⟩ := cells_of Q1.out
  obtain ⟨c2, f2⟩ := cells_of Q2.out
  obtain ⟨c3, f3⟩ := cells_of Q3.out
  have r6 := c1 6
  have r7 := c1 7
  have r8 := c1 8
  have a0' := c2 0
  have b0' := c3 0
  have a1' := c2 1
  have b1' := c3 1
  have a2' := c2 2
  have b2' := c3 2
  have a3' := c2 3
  have b3' := c3 3
  have a4' := c2 4
  have b4' := c3 4
  have a5' := c2 5
  have b5' := c3 5
  have a6' := c2 6
  have b6' := c3 6
  have a7' := c2 7
  have b7' := c3 7
  have a8' := c2 8
  have b8' := c3 8
  simp at r6 r7 r8 a0' b0' a1' b1' a2' b2' a3' b3' a4' b4' a5' b5' a6' b6' a7' b7' a8' b8'
  clear Q1 Q2 Q3 c1 c2 c3
  go_wp2
  try simp only [Exit.inBlock, Exit.then]
  refine bodyPost_ret (v := .agg #[.int .i64 pos, .slice (some ⟨gregs, 0, none⟩) regs.length regs.length, .slice (some ⟨gslots, 0, none⟩) slots.length slots.length, .slice (some ⟨gmem, 0, none⟩) mem.length mem.length, .slice (some ⟨ginput, 0, none⟩) input.length input.length, .slice (some ⟨gout, 0, none⟩) out.length out.length, .int .i64 code, .bool over, .int .i64 val]) (by simp [results, Try.results6, go_sem, a0', a1', a2', a3', a4', a5', a6', a7', a8']) rfl ⟨_, rfl, ⟨_, _, _, _, _, _, _, _, _, _, rfl, ok, ?_, ?_, ?_, ?_, ?_⟩, ?_⟩
  · exact (((HXregs.out.but (g := w.heap.size + 1 + 1) (by omega) (((((But.refl _ _).set _ _).set _ _).set _ _).set _ _)).but (g := w.heap.size + 1) (by omega) ((((((((((But.refl _ _).set _ _).set _ _).set _ _).set _ _).set _ _).set _ _).set _ _).set _ _).set _ _)).mono (by omega))
  · exact (((HXslots.out.but (g := w.heap.size + 1 + 1) (by omega) (((((But.refl _ _).set _ _).set _ _).set _ _).set _ _)).but (g := w.heap.size + 1) (by omega) ((((((((((But.refl _ _).set _ _).set _ _).set _ _).set _ _).set _ _).set _ _).set _ _).set _ _).set _ _)).mono (by omega))
  · exact (((HXmem.out.but RwKeeps (g := w.heap.size + 1 + 1) (by omega) (((((But.refl _ _).set _ _).set _ _).set _ _).set _ _)).but RwKeeps (g := w.heap.size + 1) (by omega) ((((((((((But.refl _ _).set _ _).set _ _).set _ _).set _ _).set _ _).set _ _).set _ _).set _ _).set _ _)).mono RwKeeps (by omega))
  · exact (((HXinput.out.but (g := w.heap.size + 1 + 1) (by omega) (((((But.refl _ _).set _ _).set _ _).set _ _).set _ _)).but (g := w.heap.size + 1) (by omega) ((((((((((But.refl _ _).set _ _).set _ _).set _ _).set _ _).set _ _).set _ _).set _ _).set _ _).set _ _)).mono (by omega))
  · exact (((HXout.out.but (g := w.heap.size + 1 + 1) (by omega) (((((But.refl _ _).set _ _).set _ _).set _ _).set _ _)).but (g := w.heap.size + 1) (by omega) ((((((((((But.refl _ _).set _ _).set _ _).set _ _).set _ _).set _ _).set _ _).set _ _).set _ _).set _ _)).mono (by omega))
  · exact (((((((((((((HW5.out.setCell (show w.heap.size ≤ w.heap.size + 1 + 1 by omega) _).setCell (show w.heap.size ≤ w.heap.size + 1 + 1 by omega) _).setCell (show w.heap.size ≤ w.heap.size + 1 + 1 by omega) _).setCell (show w.heap.size ≤ w.heap.size + 1 + 1 by omega) _).setCell (show w.heap.size ≤ w.heap.size + 1 by omega) _).setCell (show w.heap.size ≤ w.heap.size + 1 by omega) _).setCell (show w.heap.size ≤ w.heap.size + 1 by omega) _).setCell (show w.heap.size ≤ w.heap.size + 1 by omega) _).setCell (show w.heap.size ≤ w.heap.size + 1 by omega) _).setCell (show w.heap.size ≤ w.heap.size + 1 by omega) _).setCell (show w.heap.size ≤ w.heap.size + 1 by omega) _).setCell (show w.heap.size ≤ w.heap.size + 1 by omega) _).setCell (show w.heap.size ≤ w.heap.size + 1 by omega) _)
/-- The copy, its cells named. -/
theorem toCpu_in {pos : Int} {regs : List Int} {slots : List Int} {mem : List Rw} {input : List Int} {out : List Int} {code : Int} {over : Bool} {val : Int} (w : World) (B : Nat) (v : Array Value) (h : CpIs w B v ⟨pos, regs, slots, mem, input, out, code, over, val⟩) (hs : (⟨pos, regs, slots, mem, input, out, code, over, val⟩ : Cp).sz ≤ 1048576) (W : World) (bel : Below w.heap.size w W) :
    Calls Try.prog 6 #[.agg v] W fun en w' => ∃ uregs_ cregs_ uslots_ cslots_ umem_ cmem_ uinput_ cinput_ uout_ cout_, en = .returned (.agg #[.int .i64 pos, .slice uregs_ regs.length cregs_, .slice uslots_ slots.length cslots_, .slice umem_ mem.length cmem_, .slice uinput_ input.length cinput_, .slice uout_ out.length cout_, .int .i64 code, .bool over, .int .i64 val]) ∧ CpIs w' W.heap.size #[.int .i64 pos, .slice uregs_ regs.length cregs_, .slice uslots_ slots.length cslots_, .slice umem_ mem.length cmem_, .slice uinput_ input.length cinput_, .slice uout_ out.length cout_, .int .i64 code, .bool over, .int .i64 val] ⟨pos, regs, slots, mem, input, out, code, over, val⟩ ∧ Below W.heap.size W w' :=
  (toCpu_any ⟨pos, regs, slots, mem, input, out, code, over, val⟩ W B v (CpKeeps.stays h bel) hs).mono fun en w' ⟨v', he, hp, hb⟩ => by
    have h1 := hp
    obtain ⟨uregs_, cregs_, uslots_, cslots_, umem_, cmem_, uinput_, cinput_, uout_, cout_, rfl, _⟩ := h1
    exact ⟨uregs_, cregs_, uslots_, cslots_, umem_, cmem_, uinput_, cinput_, uout_, cout_, he, hp, hb⟩
end Go.Proofs.Ytpbmnajlkgjkfab
