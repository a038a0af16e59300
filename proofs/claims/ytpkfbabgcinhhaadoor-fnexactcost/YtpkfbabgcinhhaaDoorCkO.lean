/- What the law's measure gives of an image. -/
import Derived.Test.YtpkfbabgcinhhaaDoorCkB
namespace Go.Proofs.YtpkfbabgcinhhaaDoor
theorem code_sz {m : Img} {n : Nat} (h : m.sz ≤ n) : m.code.length ≤ n := by unfold Img.sz slSz at h; omega
theorem sizes_sz {m : Img} {n : Nat} (h : m.sz ≤ n) : m.sizes.length ≤ n := by unfold Img.sz slSz at h; omega
end Go.Proofs.YtpkfbabgcinhhaaDoor

/- The contracts of szWord and szWordS (written by wip/mkshape.py). -/
namespace Go.Proofs.YtpkfbabgcinhhaaDoor
open Go.ChangeShapes Go.WideShapes Go.ChangeAt Go.RowKit
theorem Wrd_sum : ∀ (l : List Wrd), slSum Wrd.sz l = 0
  | [] => rfl
  | e :: l => by rw [slSum, Wrd_sum l]; rfl
set_option maxHeartbeats 1000000 in
theorem szWordS_any (es : List Wrd) (w : World) (B : Nat) (a' : Option Addr) (cap L : Nat) (h : SlIs WrdIs 5 w B a' es) (hL : L ≤ 1048576) :
    Calls Tryd.prog 20 #[.slice a' es.length cap, .int .i64 L] w fun en w' => en = .returned (.int .i64 (szR (slSz Wrd.sz es) L)) ∧ Below w.heap.size w w' := by
  have hm := maxLen_lt
  have hl := h.1
  have e0 : slSz Wrd.sz es = es.length := by unfold slSz; rw [Wrd_sum]; rfl
  rw [e0]
  clear e0 h
  by_cases h0 : L < es.length
  · have e1 : szR es.length L = -1 := szR_neg h0
    rw [e1]
    clear e1
    go_enter Tryd.func20, Tryd.ntmps20
    go_wp2
    go_ret
    exact ⟨rfl, Below.refl _ _⟩
  · have e1 : szR es.length L = ((L - es.length : Nat) : Int) := szR_pos (by omega)
    rw [e1]
    clear e1
    go_enter Tryd.func20, Tryd.ntmps20
    go_wp2
    go_ret
    exact ⟨ret_int (by omega), Below.refl _ _⟩
end Go.Proofs.YtpkfbabgcinhhaaDoor

/- The contracts of szImage and szImageS (written by wip/mkshape.py). -/
namespace Go.Proofs.YtpkfbabgcinhhaaDoor
open Go.ChangeShapes Go.WideShapes Go.ChangeAt Go.RowKit
set_option maxHeartbeats 1000000 in
theorem szImage_any (x : Img) (w : World) (B : Nat) (v : Array Value) (L : Nat) (h : ImgIs w B v x) (hL : L ≤ 1048576) :
    Calls Tryd.prog 5 #[.agg v, .int .i64 L] w fun en w' => en = .returned (.int .i64 (szR x.sz L)) ∧ Below w.heap.size w w' := by
  obtain ⟨sizes, params, slots, code⟩ := x
  obtain ⟨usizes, csizes, ucode, ccode, rfl, _, hsizes, hcode⟩ := h
  have hm := maxLen_lt
  simp only [Img.sz] at *
  have Hsizes := hideP hsizes
  have Hcode := hideP hcode
  clear hsizes hcode
  go_enter Tryd.func5, Tryd.ntmps5
  go_wp2_with fail
  refine (szIntS_any _ usizes sizes.length csizes (L) Hsizes.out.1 (by omega)).mono ?_
  rintro e1 w1 ⟨rfl, rfl⟩
  have hw1 := hideP ((Below.refl w.heap.size w).alloc (Nat.le_refl _) (.cells #[.slice usizes sizes.length csizes, .int .i64 params, .int .i64 slots, .slice ucode code.length ccode] 25))
  by_cases hs0 : sizes.length ≤ L
  · rw [szR_pos hs0]
    go_wp2_with fail
    refine (szWordS_any code _ B ucode ccode (L - sizes.length) (Hcode.out.stays WrdKeeps hw1.out) (by omega)).mono ?_
    rintro e2 w2 ⟨rfl, bel2⟩
    have hw2 := hideP (hw1.out.trans (bel2.mono (by first | exact hw1.out.size | (have := hw1.out.size; simp at this ⊢; omega))))
    clear bel2
    by_cases hs1 : slSz Wrd.sz code ≤ L - sizes.length
    · rw [szR_pos hs1]
      have HS0 := hideP hs0
      have HS1 := hideP hs1
      clear hs0 hs1
      go_wp2
      go_ret
      exact ⟨ret_int (by have := HS0.out; have := HS1.out; rw [szR_pos (show sizes.length + (slSz Wrd.sz code) ≤ L by omega)]; first | done | omega), hw2.out⟩
    · rw [szR_neg (by omega)]
      have E1 : Hid (szR (sizes.length + (slSz Wrd.sz code)) L = -1) := szR_neg (by omega)
      clear hs0 hs1
      go_wp2
      go_ret
      exact ⟨ret_int E1.out.symm, hw2.out⟩
  · rw [szR_neg (by omega)]
    have E1 : Hid (szR (sizes.length + (slSz Wrd.sz code)) L = -1) := szR_neg (by omega)
    clear hs0
    go_wp2
    go_ret
    exact ⟨ret_int E1.out.symm, hw1.out⟩
end Go.Proofs.YtpkfbabgcinhhaaDoor

/- The contracts of toWord and toWordS: a copy in new memory (written by wip/mkshape.py). -/
namespace Go.Proofs.YtpkfbabgcinhhaaDoor
open Go.ChangeShapes Go.WideShapes Go.ChangeAt Go.RowKit
set_option maxHeartbeats 1000000 in
theorem toWord_any (x : Wrd) (w : World) (B : Nat) (v : Array Value) (h : WrdIs w B v x) :
    Calls Tryd.prog 36 #[.agg v] w fun en w' => ∃ v', en = .returned (.agg v') ∧ WrdIs w' w.heap.size v' x ∧ Below w.heap.size w w' := by
  obtain ⟨op, r, a, b, n⟩ := x
  obtain ⟨rfl, ok⟩ := h
  simp only at *
  go_enter Tryd.func36, Tryd.ntmps36
  go_wp2
  try simp only [Exit.inBlock, Exit.then]
  refine bodyPost_ret (v := .agg #[.int .i64 op, .int .i64 r, .int .i64 a, .int .i64 b, .int .i64 n]) (by simp [results, Tryd.results36, go_sem]) rfl ⟨_, rfl, ⟨rfl, ok⟩, ?_⟩
  first | exact below3 w _ _ _ | exact below2 w _ _ | exact (Below.refl _ _).alloc (Nat.le_refl _) _
/-- The copy, its cells named. -/
theorem toWord_in {op : Int} {r : Int} {a : Int} {b : Int} {n : Int} (w : World) (B : Nat) (v : Array Value) (h : WrdIs w B v ⟨op, r, a, b, n⟩) (W : World) (bel : Below w.heap.size w W) :
    Calls Tryd.prog 36 #[.agg v] W fun en w' => en = .returned (.agg #[.int .i64 op, .int .i64 r, .int .i64 a, .int .i64 b, .int .i64 n]) ∧ WrdIs w' W.heap.size #[.int .i64 op, .int .i64 r, .int .i64 a, .int .i64 b, .int .i64 n] ⟨op, r, a, b, n⟩ ∧ Below W.heap.size W w' :=
  (toWord_any ⟨op, r, a, b, n⟩ W B v (WrdKeeps.stays h bel)).mono fun en w' ⟨v', he, hp, hb⟩ => by
    have h1 := hp
    obtain ⟨rfl, _⟩ := h1
    exact ⟨he, hp, hb⟩
theorem infoWord : (Tryd.prog.info? 73).map (fun i => (i.zero, i.size, i.bytes)) = some (some (.agg #[.int .i64 0, .int .i64 0, .int .i64 0, .int .i64 0, .int .i64 0]), 5, 40) := by kernel_rfl
set_option maxHeartbeats 1000000 in
theorem toWordS_any (es : List Wrd) (w : World) (B : Nat) (a' : Option Addr) (cap : Nat) (h : SlIs WrdIs 5 w B a' es) (hs : es.length ≤ 1048576) :
    Calls Tryd.prog 22 #[.slice a' es.length cap] w fun en w' => ∃ g, en = .returned (.slice (some ⟨g, 0, none⟩) es.length es.length) ∧ SlIs WrdIs 5 w' w.heap.size (some ⟨g, 0, none⟩) es ∧ Below w.heap.size w w' := by
  have hl0 := h.1
  have hl : es.length ≤ 1048576 := hs
  have hmk := make_n (P := Tryd.prog) Tryd.underlying30 infoWord es.length hl (by decide)
  have H := hideP h
  have HS := hideP hs
  clear h hs
  go_enter Tryd.func22, Tryd.ntmps22
  go_wp2
  clear hmk
  go_loopw [4] (fun i wr => ∃ j : Nat, j ≤ es.length ∧ i = .int .i64 j ∧ Built WrdIs 5 73 wr w.heap.size es j ∧ Below w.heap.size w wr) (fun i _ => es.length - (intOf i).toNat)
  case atStart => exact ⟨0, Nat.zero_le _, rfl, built_start WrdIs w _ 5 _ es, (Below.refl _ _).alloc (Nat.le_refl _) _⟩
  case round =>
    obtain ⟨j, hj, rfl, hbt, bel⟩ := hrel
    by_cases hlt : j < es.length
    · obtain ⟨b', o', op, r, a, b, n, rfl, _, hb, he, k0, k1, k2, k3, k4, hx⟩ := Wrd_get (H.out.stays WrdKeeps bel) j hlt
      have HE := hideP he
      have HX := hideP hx
      have HB := hideP bel
      have HT := hideP hbt
      have hg := hbt.lt
      have hsz := bel.size
      clear he hx bel hbt
      go_wp2_with fail
      refine (toWord_any es[j] _ B _ (by rw [HE.out]; exact HX.out)).mono ?_
      rintro e1 w1 ⟨v', rfl, hx1, bel1⟩
      have hx2 := hx1
      rw [HE.out] at hx2
      obtain ⟨rfl, _⟩ := hx2
      simp only at hx1
      have hb1 := HT.out.on WrdKeeps bel1
      obtain ⟨hce, hfz⟩ := hb1.cells
      obtain ⟨d0, hd0⟩ := hce (j * 5) (by omega)
      obtain ⟨d1, hd1⟩ := hce (j * 5 + 1) (by omega)
      obtain ⟨d2, hd2⟩ := hce (j * 5 + 2) (by omega)
      obtain ⟨d3, hd3⟩ := hce (j * 5 + 3) (by omega)
      obtain ⟨d4, hd4⟩ := hce (j * 5 + 4) (by omega)
      have HB1 := hideP hb1
      have HX1 := hideP (WrdKeeps.mono hx1 (show w.heap.size + 1 ≤ wr.heap.size by omega))
      have hw1 : Hid (Below w.heap.size w w1) := HB.out.trans (bel1.mono hsz)
      clear bel1 k0 k1 k2 k3 k4 hb1 hx1 hce
      go_wp2
      go_roundw
      case rel => exact ⟨j + 1, by omega, by go_num, HB1.out.step WrdKeeps hlt (l := [.int .i64 op, .int .i64 r, .int .i64 a, .int .i64 b, .int .i64 n]) rfl HX1.out, sets_below (Nat.le_refl _) [.int .i64 op, .int .i64 r, .int .i64 a, .int .i64 b, .int .i64 n] _ _ hw1.out⟩
      case measure => simp [intOf]; omega
    · have hjn : j = es.length := by omega
      subst hjn
      go_wp2
      go_ret
      exact ⟨_, rfl, hbt.is WrdKeeps hl0 (Nat.le_refl _), bel⟩
end Go.Proofs.YtpkfbabgcinhhaaDoor

/- The contracts of toImage and toImageS: a copy in new memory (written by wip/mkshape.py). -/
namespace Go.Proofs.YtpkfbabgcinhhaaDoor
open Go.ChangeShapes Go.WideShapes Go.ChangeAt Go.RowKit
set_option maxHeartbeats 1000000 in
theorem toImage_any (x : Img) (w : World) (B : Nat) (v : Array Value) (h : ImgIs w B v x) (hs : x.sz ≤ 1048576) :
    Calls Tryd.prog 7 #[.agg v] w fun en w' => ∃ v', en = .returned (.agg v') ∧ ImgIs w' w.heap.size v' x ∧ Below w.heap.size w w' := by
  obtain ⟨sizes, params, slots, code⟩ := x
  obtain ⟨usizes, csizes, ucode, ccode, rfl, ok, hsizes, hcode⟩ := h
  simp only [Img.sz, slSz] at *
  have Hsizes := hideP hsizes
  have Hcode := hideP hcode
  clear hsizes hcode
  go_enter Tryd.func7, Tryd.ntmps7
  go_wp2_with fail
  refine (toIntS_any sizes _ B usizes csizes (Hsizes.out.stays (below3 w _ _ _)) (by omega)).mono ?_
  rintro y1 w1 ⟨gsizes, rfl, hx1, bel1⟩
  obtain ⟨q1, q2, q3, hz, hw⟩ := three bel1
  have hB3 : (((w.alloc (.cells #[.slice usizes sizes.length csizes, .int .i64 params, .int .i64 slots, .slice ucode code.length ccode] 25)).alloc (.cells #[.slice none 0 0, .int .i64 0, .int .i64 0, .slice none 0 0] 32)).alloc (.cells #[.slice none 0 0, .int .i64 0, .int .i64 0, .slice none 0 0] 32)).heap.size = w.heap.size + 3 := by simp
  rw [hB3] at hx1
  have HXsizes := hideP hx1
  have HW1 := hideP hw
  have Q1 := hideP q1
  have Q2 := hideP q2
  have Q3 := hideP q3
  clear bel1 q1 q2 q3 hx1 hw hB3
  have r1 := (cells_of Q1.out).1 1
  have r2 := (cells_of Q1.out).1 2
  have r3 := (cells_of Q1.out).1 3
  have s0 := (cells_of Q3.out).1 0
  have s1 := (cells_of Q3.out).1 1
  have s2 := (cells_of Q3.out).1 2
  have f3 := (cells_of Q3.out).2
  simp at r1 r2 r3 s0 s1 s2
  go_wp2_with fail
  have hw' : Below w.heap.size w (((w1.setCell ⟨w.heap.size + 1 + 1, 0, none⟩ (.slice (some ⟨gsizes, 0, none⟩) sizes.length sizes.length)).setCell ⟨w.heap.size + 1 + 1, 1, none⟩ (.int .i64 params)).setCell ⟨w.heap.size + 1 + 1, 2, none⟩ (.int .i64 slots)) := (((HW1.out.setCell (p := ⟨w.heap.size + 1 + 1, 0, none⟩) (show w.heap.size ≤ w.heap.size + 1 + 1 by omega) _).setCell (p := ⟨w.heap.size + 1 + 1, 1, none⟩) (show w.heap.size ≤ w.heap.size + 1 + 1 by omega) _).setCell (p := ⟨w.heap.size + 1 + 1, 2, none⟩) (show w.heap.size ≤ w.heap.size + 1 + 1 by omega) _)
  refine (toWordS_any code _ B ucode ccode (Hcode.out.stays WrdKeeps hw') (by first | omega | (unfold slSz; omega))).mono ?_
  rintro y2 w2 ⟨gcode, rfl, hx, bel⟩
  rw [size_set, size_set, size_set] at hx
  have q1 := (bel.block _ (by have h0 := (Array.getElem?_eq_some_iff.1 Q1.out).1; simpa [size_set] using h0)).trans ((Below.heap_setCell _ ⟨w.heap.size + 1 + 1, 2, none⟩ _ _ (by show _ ≠ w.heap.size + 1 + 1; omega)).trans ((Below.heap_setCell _ ⟨w.heap.size + 1 + 1, 1, none⟩ _ _ (by show _ ≠ w.heap.size + 1 + 1; omega)).trans ((Below.heap_setCell _ ⟨w.heap.size + 1 + 1, 0, none⟩ _ _ (by show _ ≠ w.heap.size + 1 + 1; omega)).trans Q1.out)))
  have q2 := (bel.block _ (by have h0 := (Array.getElem?_eq_some_iff.1 Q2.out).1; simpa [size_set] using h0)).trans ((Below.heap_setCell _ ⟨w.heap.size + 1 + 1, 2, none⟩ _ _ (by show _ ≠ w.heap.size + 1 + 1; omega)).trans ((Below.heap_setCell _ ⟨w.heap.size + 1 + 1, 1, none⟩ _ _ (by show _ ≠ w.heap.size + 1 + 1; omega)).trans ((Below.heap_setCell _ ⟨w.heap.size + 1 + 1, 0, none⟩ _ _ (by show _ ≠ w.heap.size + 1 + 1; omega)).trans Q2.out)))
  have q3 := (bel.block _ (by have h0 := (Array.getElem?_eq_some_iff.1 Q3.out).1; simpa [size_set] using h0)).trans (heap_setCell_same _ _ _ _ _ _ (heap_setCell_same _ _ _ _ _ _ (heap_setCell_same _ _ _ _ _ _ Q3.out)))
  simp at q3
  have hsizes := ((HXsizes.out.but (g := w.heap.size + 1 + 1) (by omega) ((((But.refl _ _).set _ _).set _ _).set _ _)).stays bel)
  have hw2 : Below w.heap.size w w2 := hw'.trans (bel.mono (by simp; omega))
  have hz2 : w1.heap.size ≤ w2.heap.size := by have := bel.size; simpa [size_set] using this
  have HXcode := hideP (hx.mono WrdKeeps (show w.heap.size + 3 ≤ w1.heap.size by omega))
  replace HXsizes := hideP hsizes
  have HW2 := hideP hw2
  replace Q1 := hideP q1
  replace Q2 := hideP q2
  replace Q3 := hideP q3
  clear bel q1 q2 q3 hx hw2 hw' f3 r1 r2 r3 s0 s1 s2 hsizes
  obtain ⟨c1, _⟩ := cells_of Q1.out
  obtain ⟨c2, f2⟩ := cells_of Q2.out
  obtain ⟨c3, f3⟩ := cells_of Q3.out
  have a0' := c2 0
  have b0' := c3 0
  have a1' := c2 1
  have b1' := c3 1
  have a2' := c2 2
  have b2' := c3 2
  have a3' := c2 3
  have b3' := c3 3
  simp at a0' b0' a1' b1' a2' b2' a3' b3'
  clear Q1 Q2 Q3 c1 c2 c3
  go_wp2
  try simp only [Exit.inBlock, Exit.then]
  refine bodyPost_ret (v := .agg #[.slice (some ⟨gsizes, 0, none⟩) sizes.length sizes.length, .int .i64 params, .int .i64 slots, .slice (some ⟨gcode, 0, none⟩) code.length code.length]) (by simp [results, Tryd.results7, go_sem, a0', a1', a2', a3']) rfl ⟨_, rfl, ⟨_, _, _, _, rfl, ok, ?_, ?_⟩, ?_⟩
  · exact (((HXsizes.out.but (g := w.heap.size + 1 + 1) (by omega) ((But.refl _ _).set _ _)).but (g := w.heap.size + 1) (by omega) (((((But.refl _ _).set _ _).set _ _).set _ _).set _ _)).mono (by omega))
  · exact (((HXcode.out.but WrdKeeps (g := w.heap.size + 1 + 1) (by omega) ((But.refl _ _).set _ _)).but WrdKeeps (g := w.heap.size + 1) (by omega) (((((But.refl _ _).set _ _).set _ _).set _ _).set _ _)).mono WrdKeeps (by omega))
  · exact (((((HW2.out.setCell (show w.heap.size ≤ w.heap.size + 1 + 1 by omega) _).setCell (show w.heap.size ≤ w.heap.size + 1 by omega) _).setCell (show w.heap.size ≤ w.heap.size + 1 by omega) _).setCell (show w.heap.size ≤ w.heap.size + 1 by omega) _).setCell (show w.heap.size ≤ w.heap.size + 1 by omega) _)
/-- The copy, its cells named. -/
theorem toImage_in {sizes : List Int} {params : Int} {slots : Int} {code : List Wrd} (w : World) (B : Nat) (v : Array Value) (h : ImgIs w B v ⟨sizes, params, slots, code⟩) (hs : (⟨sizes, params, slots, code⟩ : Img).sz ≤ 1048576) (W : World) (bel : Below w.heap.size w W) :
    Calls Tryd.prog 7 #[.agg v] W fun en w' => ∃ usizes_ csizes_ ucode_ ccode_, en = .returned (.agg #[.slice usizes_ sizes.length csizes_, .int .i64 params, .int .i64 slots, .slice ucode_ code.length ccode_]) ∧ ImgIs w' W.heap.size #[.slice usizes_ sizes.length csizes_, .int .i64 params, .int .i64 slots, .slice ucode_ code.length ccode_] ⟨sizes, params, slots, code⟩ ∧ Below W.heap.size W w' :=
  (toImage_any ⟨sizes, params, slots, code⟩ W B v (ImgKeeps.stays h bel) hs).mono fun en w' ⟨v', he, hp, hb⟩ => by
    have h1 := hp
    obtain ⟨usizes_, csizes_, ucode_, ccode_, rfl, _⟩ := h1
    exact ⟨usizes_, csizes_, ucode_, ccode_, he, hp, hb⟩
end Go.Proofs.YtpkfbabgcinhhaaDoor

/- The contracts of eqWord and eqWordS of two that are alike (written by wip/mkshape.py). -/
namespace Go.Proofs.YtpkfbabgcinhhaaDoor
open Go.ChangeShapes Go.WideShapes Go.ChangeAt Go.RowKit
set_option maxHeartbeats 1000000 in
theorem eqWord_same (x : Wrd) (w : World) (B1 B2 : Nat) (v1 v2 : Array Value) (h1 : WrdIs w B1 v1 x) (h2 : WrdIs w B2 v2 x) :
    Calls Tryd.prog 46 #[.agg v1, .agg v2] w fun en w' => en = .returned (.bool true) ∧ Below w.heap.size w w' := by
  obtain ⟨op, r, a, b, n⟩ := x
  obtain ⟨rfl, _⟩ := h1
  obtain ⟨rfl, _⟩ := h2
  simp only at *
  go_enter Tryd.func46, Tryd.ntmps46
  go_wp2
  go_ret
  exact ⟨rfl, below2 w _ _⟩
set_option maxHeartbeats 1000000 in
theorem eqWordS_same (es : List Wrd) (w : World) (B1 B2 : Nat) (a1 a2 : Option Addr) (z1 z2 : Nat) (h1 : SlIs WrdIs 5 w B1 a1 es) (h2 : SlIs WrdIs 5 w B2 a2 es) :
    Calls Tryd.prog 26 #[.slice a1 es.length z1, .slice a2 es.length z2] w fun en w' => en = .returned (.bool true) ∧ Below w.heap.size w w' := by
  have hm := maxLen_lt
  have hl := h1.1
  have H1 := hideP h1
  have H2 := hideP h2
  clear h1 h2
  go_enter Tryd.func26, Tryd.ntmps26
  go_wp2
  go_loopw [5] (fun i wr => ∃ j : Nat, j ≤ es.length ∧ i = .int .i64 j ∧ Below w.heap.size w wr) (fun i _ => es.length - (intOf i).toNat)
  case atStart => exact ⟨0, Nat.zero_le _, rfl, Below.refl _ _⟩
  case round =>
    obtain ⟨j, hj, rfl, bel⟩ := hrel
    by_cases hlt : j < es.length
    · obtain ⟨b', o', op, r, a, b, n, rfl, _, hb, he, k0, k1, k2, k3, k4, hx⟩ := Wrd_get (H1.out.stays WrdKeeps bel) j hlt
      obtain ⟨b2, o2, op', r', a', b', n', rfl, _, hb2, he2, m0, m1, m2, m3, m4, hx2⟩ := Wrd_get (H2.out.stays WrdKeeps bel) j hlt
      have heq := he.symm.trans he2
      simp only [Wrd.mk.injEq] at heq
      obtain ⟨rfl, rfl, rfl, rfl, rfl⟩ := heq
      have IHj : Hid (∀ (W : World), Below wr.heap.size wr W → Calls Tryd.prog 46 #[.agg #[.int .i64 op, .int .i64 r, .int .i64 a, .int .i64 b, .int .i64 n], .agg #[.int .i64 op, .int .i64 r, .int .i64 a, .int .i64 b, .int .i64 n]] W fun en w' => en = .returned (.bool true) ∧ Below W.heap.size W w') :=
        fun W hW => eqWord_same _ W B1 B2 _ _ (WrdKeeps.stays hx hW) (WrdKeeps.stays hx2 hW)
      have HB := hideP bel
      have hsz := bel.size
      clear he he2 hx hx2 bel
      go_wp2
      go_region_with (go_at_call 46; refine (IHj.out _ (by first | exact Below.refl _ _ | exact (Below.refl _ _).drew | exact (Below.refl _ _).drew.drew)).mono ?_; rintro e1 w1 ⟨rfl, bel1⟩)
      all_goals
        have hw1 : Below w.heap.size w w1 := by first | exact HB.out.trans (bel1.mono hsz) | exact HB.out.drew.trans (bel1.mono hsz) | exact HB.out.drew.drew.trans (bel1.mono hsz)
        clear bel1 k0 k1 k2 k3 k4 m0 m1 m2 m3 m4
        go_wp2
        go_roundw
        case rel => exact ⟨j + 1, by omega, by go_num, hw1⟩
        case measure => simp [intOf]; omega
    · go_wp2
      go_ret
      exact ⟨rfl, bel⟩
end Go.Proofs.YtpkfbabgcinhhaaDoor

/- The contracts of eqImage and eqImageS of two that are alike (written by wip/mkshape.py). -/
namespace Go.Proofs.YtpkfbabgcinhhaaDoor
open Go.ChangeShapes Go.WideShapes Go.ChangeAt Go.RowKit
set_option maxHeartbeats 1000000 in
theorem eqImage_same (x : Img) (w : World) (B1 B2 : Nat) (v1 v2 : Array Value) (h1 : ImgIs w B1 v1 x) (h2 : ImgIs w B2 v2 x) :
    Calls Tryd.prog 11 #[.agg v1, .agg v2] w fun en w' => en = .returned (.bool true) ∧ Below w.heap.size w w' := by
  obtain ⟨sizes, params, slots, code⟩ := x
  obtain ⟨usizes1, csizes1, ucode1, ccode1, rfl, _, hsizes1, hcode1⟩ := h1
  obtain ⟨usizes2, csizes2, ucode2, ccode2, rfl, _, hsizes2, hcode2⟩ := h2
  simp only at *
  have Hsizes1 := hideP hsizes1
  have Hsizes2 := hideP hsizes2
  have Hcode1 := hideP hcode1
  have Hcode2 := hideP hcode2
  clear hsizes1 hsizes2 hcode1 hcode2
  go_enter Tryd.func11, Tryd.ntmps11
  go_wp2_with fail
  refine (eqIntS_same sizes _ B1 B2 usizes1 usizes2 csizes1 csizes2 (Hsizes1.out.stays (below2 w _ _)) (Hsizes2.out.stays (below2 w _ _))).mono ?_
  rintro y1 w1 ⟨rfl, bel1⟩
  obtain ⟨q1, q2, hz, hw⟩ := two bel1
  have HW1 := hideP hw
  have Q1 := hideP q1
  have Q2 := hideP q2
  clear bel1 q1 q2 hw
  have p1 := (cells_of Q1.out).1 1
  have r1 := (cells_of Q2.out).1 1
  have p2 := (cells_of Q1.out).1 2
  have r2 := (cells_of Q2.out).1 2
  have p3 := (cells_of Q1.out).1 3
  have r3 := (cells_of Q2.out).1 3
  simp at p1 r1 p2 r2 p3 r3
  go_wp2_with fail
  refine (eqWordS_same code _ B1 B2 ucode1 ucode2 ccode1 ccode2 (Hcode1.out.stays WrdKeeps HW1.out) (Hcode2.out.stays WrdKeeps HW1.out)).mono ?_
  rintro y2 w2 ⟨rfl, bel2⟩
  have HW2 := hideP (below_trans HW1.out bel2)
  have Q1 := hideP ((bel2.block _ (Array.getElem?_eq_some_iff.1 Q1.out).1).trans Q1.out)
  have Q2 := hideP ((bel2.block _ (Array.getElem?_eq_some_iff.1 Q2.out).1).trans Q2.out)
  clear bel2 p1 r1 p2 r2 p3 r3
  go_wp2
  go_ret
  exact ⟨rfl, HW2.out⟩
end Go.Proofs.YtpkfbabgcinhhaaDoor
