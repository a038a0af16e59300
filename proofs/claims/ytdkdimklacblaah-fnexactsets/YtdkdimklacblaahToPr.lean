/- The contracts of toIntS and toProgram: a copy in new memory. -/
import Derived.Test.YtdkdimklacblaahTo
namespace Go.Proofs.Ytdkdimklacblaah
open Go.ChangeShapes Go.WideShapes Go.ChangeAt Go.RowKit

/-- The first j numbers stand in the new block g. -/
def BuiltI (wr : World) (g : Nat) (zs : List Int) (j : Nat) : Prop :=
  ∃ cur, wr.heap[g]? = some (.cells cur 3 (0, 0)) ∧ cur.size = zs.length ∧ ∀ (i : Nat) (h : i < zs.length), i < j → cur[i]? = some (.int .i64 zs[i])
theorem BuiltI.step {wr : World} {g : Nat} {zs : List Int} {j : Nat} (hj : j < zs.length) (h : BuiltI wr g zs j) : BuiltI (wr.setCell ⟨g, j, none⟩ (.int .i64 zs[j])) g zs (j + 1) := by
  obtain ⟨cur, h1, h2, h3⟩ := h
  refine ⟨_, heap_setCell_same _ g _ _ _ _ h1, by simpa using h2, fun i hi hij => ?_⟩
  rw [Array.getElem?_setIfInBounds]
  by_cases he : j = i
  · subst he; rw [if_pos rfl, if_pos (by omega)]
  · rw [if_neg he]; exact h3 i hi (by omega)
theorem IntsIs.get {w : World} {B : Nat} {a : Option Addr} {zs : List Int} (h : IntsIs w B a zs) (i : Nat) (hi : i < zs.length) : ∃ b o, a = some ⟨b, o, none⟩ ∧ B ≤ b ∧ b < w.heap.size ∧ w.cell? ⟨b, o + i, none⟩ = some (.int .i64 zs[i]) := by
  rcases h.2 with h0 | ⟨b, o, ha, hB, hb, _, hc⟩
  · omega
  · exact ⟨b, o, ha, hB, hb, hc i hi⟩
theorem IntsIs.but {w w' : World} {B g : Nat} {a : Option Addr} {zs : List Int} (h : IntsIs w B a zs) (hg : g < B) (hb : But g w w') : IntsIs w' B a zs := by
  refine ⟨h.1, ?_⟩
  rcases h.2 with h0 | ⟨b, o, ha, hB, hbs, hp, hc⟩
  · exact Or.inl h0
  · exact Or.inr ⟨b, o, ha, hB, Nat.lt_of_lt_of_le hbs hb.size, fun h0 => let ⟨cs, T, h⟩ := hp h0; ⟨cs, T, (hb.block b hbs (by omega)).trans h⟩, fun i hi => (hb.cell hbs (by omega)).trans (hc i hi)⟩
theorem IntsIs.mono {w : World} {B B' : Nat} {a : Option Addr} {zs : List Int} (h : IntsIs w B a zs) (hB : B' ≤ B) : IntsIs w B' a zs := by
  refine ⟨h.1, ?_⟩
  rcases h.2 with h0 | ⟨b, o, ha, hb, hl, hp, hr⟩
  · exact Or.inl h0
  · exact Or.inr ⟨b, o, ha, Nat.le_trans hB hb, hl, fun h0 => hp (by omega), hr⟩
set_option maxHeartbeats 1000000 in
theorem toIntS_any (zs : List Int) (w : World) (B : Nat) (a : Option Addr) (cap : Nat) (h : IntsIs w B a zs) (hl : zs.length ≤ 1048576) :
    Calls Try.prog 33 #[.slice a zs.length cap] w fun en w' => ∃ g, en = .returned (.slice (some ⟨g, 0, none⟩) zs.length zs.length) ∧ IntsIs w' w.heap.size (some ⟨g, 0, none⟩) zs ∧ Below w.heap.size w w' := by
  have hl0 := h.1
  have hmk := make_n (P := Try.prog) Try.underlying22 infoI zs.length hl (by decide)
  have H := hideP h
  clear h
  go_enter Try.func33, Try.ntmps33
  go_wp2
  clear hmk
  go_loopw [4] (fun i wr => ∃ j : Nat, j ≤ zs.length ∧ i = .int .i64 j ∧ BuiltI wr w.heap.size zs j ∧ Below w.heap.size w wr) (fun i _ => zs.length - (intOf i).toNat)
  case atStart => exact ⟨0, Nat.zero_le _, rfl, ⟨_, by show (w.heap.push _)[w.heap.size]? = _; exact Array.getElem?_push_size, by simp [size_madeCells], fun _ _ h => absurd h (Nat.not_lt_zero _)⟩, (Below.refl _ _).alloc (Nat.le_refl _) _⟩
  case round =>
    obtain ⟨j, hj, rfl, hbt, bel⟩ := hrel
    by_cases hlt : j < zs.length
    · obtain ⟨b, o, rfl, _, hb, c0⟩ := (H.out.stays bel).get j hlt
      obtain ⟨z, hz⟩ : ∃ z, zs[j] = z := ⟨_, rfl⟩
      rw [hz] at c0
      obtain ⟨cur, h1, h2, h3⟩ := hbt
      have hd : ∃ v, wr.cell? ⟨w.heap.size, j, none⟩ = some v := ⟨cur[j], by simp [World.cell?, h1, show j < cur.size by omega]⟩
      obtain ⟨d, hd⟩ := hd
      have hf : wr.frozen? ⟨w.heap.size, j, none⟩ = false := by simp [World.frozen?, h1]
      have HT : Hid (BuiltI wr w.heap.size zs j) := ⟨cur, h1, h2, h3⟩
      have HZ := hideP hz
      have HB := hideP bel
      clear h1 h2 h3 hz bel
      go_wp2
      go_roundw
      case rel => exact ⟨j + 1, by omega, by go_num, by have := HT.out.step hlt; rw [HZ.out] at this; exact this, HB.out.setCell (Nat.le_refl _) _⟩
      case measure => simp [intOf]; omega
    · have hjn : j = zs.length := by omega
      subst hjn
      go_wp2
      go_ret
      obtain ⟨cur, h1, h2, h3⟩ := hbt
      exact ⟨_, rfl, ⟨hl0, Or.inr ⟨_, 0, rfl, Nat.le_refl _, (Array.getElem?_eq_some_iff.1 h1).1, fun _ => ⟨cur, _, h1⟩, fun i hi => by simp only [World.cell?, h1, Nat.zero_add]; exact h3 i hi hi⟩⟩, bel⟩
set_option maxHeartbeats 1000000 in
theorem toProgram_any (p : Pr) (w : World) (B : Nat) (v : Array Value) (h : PrIs w B v p) (hs : p.sz ≤ 1048576) :
    Calls Try.prog 10 #[.agg v] w fun en w' => ∃ v', en = .returned (.agg v') ∧ PrIs w' w.heap.size v' p ∧ Below w.heap.size w w' := by
  obtain ⟨a, cap, ab, cb, rfl, hz, hb⟩ := h
  obtain ⟨sizes, params, vars, body⟩ := p
  simp only [Pr.sz] at hs hz hb ⊢
  have HZ := hideP hz
  have HB := hideP hb
  clear hz hb
  go_enter Try.func10, Try.ntmps10
  go_wp2_with fail
  refine (toIntS_any sizes _ B a cap (HZ.out.stays (below3 w _ _ _)) (by omega)).mono ?_
  rintro e1 w1 ⟨g1, rfl, hx1, bel1⟩
  obtain ⟨q1, q2, q3, hz, hw⟩ := three bel1
  have hB3 : (((w.alloc (.cells #[.slice a sizes.length cap, .int .i64 params, .int .i64 vars, .slice ab body.length cb] 25)).alloc (.cells #[.slice none 0 0, .int .i64 0, .int .i64 0, .slice none 0 0] 30)).alloc (.cells #[.slice none 0 0, .int .i64 0, .int .i64 0, .slice none 0 0] 30)).heap.size = w.heap.size + 3 := by simp
  rw [hB3] at hx1
  obtain ⟨c1, _⟩ := cells_of q1
  obtain ⟨c3, f3⟩ := cells_of q3
  have r1 := c1 1
  have r2 := c1 2
  have r3 := c1 3
  have s0 := c3 0
  have s1 := c3 1
  have s2 := c3 2
  simp at r1 r2 r3 s0 s1 s2
  have HX1 := hideP hx1
  have HW := hideP hw
  have Q2 := hideP q2
  have Q3 := hideP q3
  clear bel1 q1 q2 q3 c1 c3 hx1 hw hB3
  go_wp2_with fail
  have hw' : Below w.heap.size w (((w1.setCell ⟨w.heap.size + 1 + 1, 0, none⟩ (.slice (some ⟨g1, 0, none⟩) sizes.length sizes.length)).setCell ⟨w.heap.size + 1 + 1, 1, none⟩ (.int .i64 params)).setCell ⟨w.heap.size + 1 + 1, 2, none⟩ (.int .i64 vars)) := ((HW.out.setCell (show w.heap.size ≤ w.heap.size + 1 + 1 by omega) _).setCell (show w.heap.size ≤ w.heap.size + 1 + 1 by omega) _).setCell (show w.heap.size ≤ w.heap.size + 1 + 1 by omega) _
  refine (toStmtS_any body _ B ab cb (HB.out.stays hw') (by omega)).mono ?_
  rintro e2 w2 ⟨g2, rfl, hx2, bel2⟩
  rw [size_set, size_set, size_set] at hx2
  have q2 := (kept bel2 (b := w.heap.size + 1) (by simp; omega) (by omega)).trans ((Below.heap_setCell _ ⟨w.heap.size + 1 + 1, 1, none⟩ _ _ (by show _ ≠ w.heap.size + 1 + 1; omega)).trans ((Below.heap_setCell _ ⟨w.heap.size + 1 + 1, 0, none⟩ _ _ (by show _ ≠ w.heap.size + 1 + 1; omega)).trans Q2.out))
  have q3 := kept_same bel2 (heap_setCell_same _ _ _ _ _ _ (heap_setCell_same _ _ _ _ _ _ Q3.out))
  simp at q3
  have hx1 : IntsIs w2 (w.heap.size + 3) (some ⟨g1, 0, none⟩) sizes := (HX1.out.but (g := w.heap.size + 1 + 1) (by omega) ((((But.refl _ _).set _ _).set _ _).set _ _)).stays bel2
  have hw2 : Below w.heap.size w w2 := hw'.trans (bel2.mono (by simp; omega))
  have hz2 : w1.heap.size ≤ w2.heap.size := by have := bel2.size; simpa [size_set] using this
  obtain ⟨c2, f2⟩ := cells_of q2
  obtain ⟨c3, f3'⟩ := cells_of q3
  have a0 := c2 0
  have a1 := c2 1
  have a2 := c2 2
  have a3 := c2 3
  have b0 := c3 0
  have b1 := c3 1
  have b2 := c3 2
  have b3 := c3 3
  simp at a0 a1 a2 a3 b0 b1 b2 b3
  have H1 := hideP hx1
  have H2 := hideP (hx2.mono (show w.heap.size + 3 ≤ w1.heap.size by omega))
  have HW2 := hideP hw2
  clear bel2 q2 q3 c2 c3 hx1 hx2 hw2 hw' HX1 HW Q2 Q3 f3 r1 r2 r3 s0 s1 s2
  go_wp2
  try simp only [Exit.inBlock, Exit.then]
  refine bodyPost_ret (v := .agg #[.slice (some ⟨g1, 0, none⟩) sizes.length sizes.length, .int .i64 params, .int .i64 vars, .slice (some ⟨g2, 0, none⟩) body.length body.length]) (by simp [results, Try.results10, go_sem, a0, a1, a2, a3]) rfl ⟨_, rfl, ⟨_, _, _, _, rfl, ?_, ?_⟩, ?_⟩
  · exact ((H1.out.but (g := w.heap.size + 1 + 1) (by omega) ((But.refl _ _).set _ _)).but (g := w.heap.size + 1) (by omega) (((((But.refl _ _).set _ _).set _ _).set _ _).set _ _)).mono (by omega)
  · exact ((H2.out.but (g := w.heap.size + 1 + 1) (by omega) ((But.refl _ _).set _ _)).but (g := w.heap.size + 1) (by omega) (((((But.refl _ _).set _ _).set _ _).set _ _).set _ _)).mono (by omega)
  · exact ((((HW2.out.setCell (show w.heap.size ≤ w.heap.size + 1 + 1 by omega) _).setCell (show w.heap.size ≤ w.heap.size + 1 by omega) _).setCell (show w.heap.size ≤ w.heap.size + 1 by omega) _).setCell (show w.heap.size ≤ w.heap.size + 1 by omega) _).setCell (show w.heap.size ≤ w.heap.size + 1 by omega) _
end Go.Proofs.Ytdkdimklacblaah
