/- The contract of impl.imageCopy. -/
import Derived.Test.YtfoelnblnfcaiaaCpW
namespace Go.Proofs.Ytfoelnblnfcaiaa
open Go.ChangeShapes Go.WideShapes Go.ChangeAt Go.RowKit
theorem keepC {W W' : World} {b : Nat} {o : Obj} (h : W.heap[b]? = some o) (bel : Below W.heap.size W W') : W'.heap[b]? = some o := (bel.block b (Array.getElem?_eq_some_iff.1 h).1).trans h
theorem keepG {W W' : World} {b g : Nat} {o : Obj} (h : W.heap[b]? = some o) (hb : But g W W') (hne : b ≠ g) : W'.heap[b]? = some o := (hb.block b (Array.getElem?_eq_some_iff.1 h).1 hne).trans h
/-- A box of four cells, written anew. -/
def put4 (W : World) (g : Nat) (v0 v1 v2 v3 : Value) : World := (((W.setCell ⟨g, 0, none⟩ v0).setCell ⟨g, 1, none⟩ v1).setCell ⟨g, 2, none⟩ v2).setCell ⟨g, 3, none⟩ v3
theorem put4_box {W : World} {g : Nat} {T : TypeId} {a b c d : Value} (h : W.heap[g]? = some (.cells #[a, b, c, d] T (0, 0))) (v0 v1 v2 v3 : Value) : (put4 W g v0 v1 v2 v3).heap[g]? = some (.cells #[v0, v1, v2, v3] T (0, 0)) := by
  have h0 := heap_setCell_same W g 0 _ T v0 h
  have h1 := heap_setCell_same _ g 1 _ T v1 h0
  have h2 := heap_setCell_same _ g 2 _ T v2 h1
  have h3 := heap_setCell_same _ g 3 _ T v3 h2
  unfold put4
  simpa using h3
theorem put4_but (W : World) (g : Nat) (v0 v1 v2 v3 : Value) : But g W (put4 W g v0 v1 v2 v3) := ((((But.refl g W).set _ _).set _ _).set _ _).set _ _
set_option maxHeartbeats 8000000 in
set_option maxRecDepth 100000 in
theorem imageCopy_any (m : Img) (w : World) (B : Nat) (v : Array Value) (h : ImgIs w B v m) (hn : m.sz ≤ 1048576) :
    Calls Try.prog 38 #[.agg v] w fun en w' => MadeIm w m en w' := by
  have hl1 : m.sizes.length ≤ 1048576 := by unfold Img.sz slSz at hn; omega
  have hl2 : m.code.length ≤ 1048576 := by unfold Img.sz slSz at hn; omega
  obtain ⟨sizes, params, slots, code⟩ := m
  obtain ⟨us, cs, ub, cb, rfl, _, hz, hb⟩ := h
  simp only at *
  have hm := maxLen_lt
  have HZ := hideP hz
  have HB := hideP hb
  have mk1 := make_n (P := Try.prog) Try.underlying22 infoI sizes.length hl1 (by decide)
  have mk2 := make_n (P := Try.prog) Try.underlying28 infoWd code.length hl2 (by decide)
  have GOAL : Hid (∀ gs gc W', OwnI W' w.heap.size (.slice (some ⟨gs, 0, none⟩) sizes.length sizes.length) sizes → OwnE WrE W' w.heap.size (.slice (some ⟨gc, 0, none⟩) code.length code.length) code → Below w.heap.size w W' → MadeIm w ⟨sizes, params, slots, code⟩ (.returned (.agg #[.slice (some ⟨gs, 0, none⟩) sizes.length sizes.length, .int .i64 params, .int .i64 slots, .slice (some ⟨gc, 0, none⟩) code.length code.length])) W') := fun gs gc W' h1 h2 h3 => ⟨gs, _, gc, _, rfl, h1, h2, h3⟩
  have OR1 : Hid (∀ W' g, w.heap.size ≤ g → W'.heap[g]? = some (.cells (rowL (fun i => #[.int .i64 (sizes[i]?.getD 0)]) sizes.length).toArray 3 (0, 0)) → OwnI W' w.heap.size (.slice (some ⟨g, 0, none⟩) sizes.length sizes.length) sizes) := fun W' g h1 h2 => own_row h1 (by omega) h2
  have OR2 : Hid (∀ W' g, w.heap.size ≤ g → W'.heap[g]? = some (.cells (rowL (fun i => (wcs (code[i]?.getD default)).toArray) code.length).toArray 44 (0, 0)) → OwnE WrE W' w.heap.size (.slice (some ⟨g, 0, none⟩) code.length code.length) code) := fun W' g h1 h2 => ownW_row h1 (by omega) h2
  have RW1 : Hid (∀ W', Below w.heap.size w W' → RowAt W' B us sizes.length 1 (fun i => #[.int .i64 (sizes[i]?.getD 0)])) := fun W' bel => ints_row (hz.stays bel)
  have RW2 : Hid (∀ W', Below w.heap.size w W' → RowAt W' B ub code.length 5 (fun i => (wcs (code[i]?.getD default)).toArray)) := fun W' bel => words_row (hb.stays WrdKeeps bel)
  obtain ⟨ns, hns⟩ : ∃ ns, sizes.length = ns := ⟨_, rfl⟩
  obtain ⟨nc, hnc⟩ : ∃ nc, code.length = nc := ⟨_, rfl⟩
  rw [hns, hnc] at GOAL
  rw [hns] at OR1 RW1 mk1 hl1
  rw [hnc] at OR2 RW2 mk2 hl2
  rw [hns, hnc]
  clear hz hb HZ HB hns hnc hn
  have AL := hideP (below2 w (.cells #[.slice us ns cs, .int .i64 params, .int .i64 slots, .slice ub nc cb] 30) (.cells #[.slice none 0 0, .int .i64 0, .int .i64 0, .slice none 0 0] 30))
  have TW := two (w := w) (o1 := .cells #[.slice us ns cs, .int .i64 params, .int .i64 slots, .slice ub nc cb] 30) (o2 := .cells #[.slice none 0 0, .int .i64 0, .int .i64 0, .slice none 0 0] 30) (Below.refl _ _)
  have BX1 := hideP TW.1
  have BX2 := hideP TW.2.1
  clear TW
  go_enter Try.func38, Try.ntmps38
  go_upto_region 1 with fail
  obtain ⟨WA, hWA⟩ : ∃ WA, ((w.alloc (.cells #[.slice us ns cs, .int .i64 params, .int .i64 slots, .slice ub nc cb] 30)).alloc (.cells #[.slice none 0 0, .int .i64 0, .int .i64 0, .slice none 0 0] 30)) = WA := ⟨_, rfl⟩
  rw [hWA] at AL BX1 BX2 ⊢
  clear hWA
  have zA : w.heap.size + 1 < WA.heap.size := (Array.getElem?_eq_some_iff.1 BX2.out).1
  have zB : w.heap.size < WA.heap.size := by omega
  have zC : w.heap.size < WA.heap.size + 1 := by omega
  have p0 := (cells_of BX1.out).1 0
  have p3 := (cells_of BX1.out).1 3
  simp at p0 p3
  go_cut [3, 4] from 5 to 12 (fun s3 s4 wx => ∃ bs bc, s3 = .slice (some ⟨bs, 0, none⟩) ns ns ∧ s4 = .slice (some ⟨bc, 0, none⟩) nc nc ∧ Hid (wx.heap[bs]? = some (.cells (madeCells (Value.int .i64 0).cells (ns * 1)) 3 (0, 0)) ∧ wx.heap[bc]? = some (.cells (madeCells (Value.agg #[.int .i64 0, .int .i64 0, .int .i64 0, .int .i64 0, .int .i64 0]).cells (nc * 5)) 44 (0, 0)) ∧ bs ≠ bc ∧ w.heap.size + 1 < bs ∧ w.heap.size + 1 < bc ∧ Below WA.heap.size WA wx))
  case first =>
    generalize (madeCells (Value.int .i64 0).cells (ns * 1)) = M1 at *
    generalize (madeCells (Value.agg #[.int .i64 0, .int .i64 0, .int .i64 0, .int .i64 0, .int .i64 0]).cells (nc * 5)) = M2 at *
    go_region
    all_goals (go_wp2_with fail; go_meet)
    · have t := two (w := WA) (o1 := .cells M1 3) (o2 := .cells M2 44) (Below.refl _ _).drew
      exact ⟨_, _, rfl, rfl, t.1, t.2.1, by omega, by omega, by omega, t.2.2.2⟩
    · have t := two (w := WA) (o1 := .cells M2 44) (o2 := .cells M1 3) (Below.refl _ _).drew
      exact ⟨_, _, rfl, rfl, t.2.1, t.1, by omega, by omega, by omega, t.2.2.2⟩
  case rest =>
  obtain ⟨bs, bc, rfl, rfl, hc⟩ := hcut
  have H1 := hideP hc.out.1
  have H2 := hideP hc.out.2.1
  obtain ⟨_, _, hne, hbs, hbc, hbw⟩ := hc.out
  have X1 := hideP (keepC BX1.out hbw)
  have X2 := hideP (keepC BX2.out hbw)
  have B0 := hideP (below_trans AL.out hbw)
  have SM1 : Hid ((madeCells (Value.int .i64 0).cells (ns * 1)).size = ns * 1) := size_madeCells _ _
  have SM2 : Hid ((madeCells (Value.agg #[.int .i64 0, .int .i64 0, .int .i64 0, .int .i64 0, .int .i64 0]).cells (nc * 5)).size = nc * 5) := size_madeCells _ _
  generalize (madeCells (Value.int .i64 0).cells (ns * 1)) = M1 at *
  generalize (madeCells (Value.agg #[.int .i64 0, .int .i64 0, .int .i64 0, .int .i64 0, .int .i64 0]).cells (nc * 5)) = M2 at *
  obtain ⟨w3, hw3⟩ : ∃ w3, w3 = wc := ⟨_, rfl⟩
  subst hw3
  clear hc hbw BX1 BX2 AL p0 p3 mk1 mk2 zA zB zC
  have q0 := (cells_of X1.out).1 0
  simp at q0
  go_upto_region 3 with (refine list_copyR _ rfl _ _ 3 22 rfl 1 8 (.int .i64 0) Try.underlying22 infoI (by decide) bs ns ns M1 rfl H1.out SM1.out us cs rfl (fun i => #[.int .i64 (sizes[i]?.getD 0)]) B (RW1.out _ B0.out) (fun i _ u hu => by simp at hu; rw [hu]; rfl) ?_; intro w5 h5 b5)
  have R5 := hideP h5
  have G2 := hideP (keepG H2.out b5 (fun e => hne e.symm))
  have Y1 := hideP (keepG X1.out b5 (by omega))
  have Y2 := hideP (keepG X2.out b5 (by omega))
  have B5 : Hid (Below w.heap.size w w5) := B0.out.trans (b5.below (by omega) B0.out.size)
  have q3 := (cells_of Y1.out).1 3
  simp at q3
  clear h5 b5 q0 X1 X2 B0 H1 H2
  go_upto_region 4 with (refine list_copyR _ rfl _ _ 44 28 rfl 5 40 _ Try.underlying28 infoWd (by decide) bc nc nc M2 rfl G2.out SM2.out ub cb rfl (fun i => (wcs (code[i]?.getD default)).toArray) B (RW2.out _ B5.out) (fun i _ u hu => wcs_one _ u hu) ?_; intro w6 h6 b6)
  have R6 := hideP h6
  have R7 := hideP (keepG R5.out b6 hne)
  have Z1 := hideP (keepG Y1.out b6 (by omega))
  have Z2 := hideP (keepG Y2.out b6 (by omega))
  have B6 : Hid (Below w.heap.size w w6) := B5.out.trans (b6.below (by omega) B5.out.size)
  clear h6 b6 q3 Y1 Y2 B5 R5 G2
  have c0 := (cells_of Z1.out).1 0
  have c1 := (cells_of Z1.out).1 1
  have c2 := (cells_of Z1.out).1 2
  have c3 := (cells_of Z1.out).1 3
  have f1 := (cells_of Z1.out).2
  simp at c0 c1 c2 c3
  have t1 : But w.heap.size w6 ((w6.setCell ⟨w.heap.size, 0, none⟩ (.slice (some ⟨bs, 0, none⟩) ns ns)).setCell ⟨w.heap.size, 3, none⟩ (.slice (some ⟨bc, 0, none⟩) nc nc)) := ((But.refl _ _).set _ _).set _ _
  have V1 : Hid (((w6.setCell ⟨w.heap.size, 0, none⟩ (.slice (some ⟨bs, 0, none⟩) ns ns)).setCell ⟨w.heap.size, 3, none⟩ (.slice (some ⟨bc, 0, none⟩) nc nc)).heap[w.heap.size]? = some (.cells #[.slice (some ⟨bs, 0, none⟩) ns ns, .int .i64 params, .int .i64 slots, .slice (some ⟨bc, 0, none⟩) nc nc] 30 (0, 0))) := by
    have h0 := heap_setCell_same w6 w.heap.size 0 _ _ (.slice (some ⟨bs, 0, none⟩) ns ns) Z1.out
    have h1 := heap_setCell_same _ w.heap.size 3 _ _ (.slice (some ⟨bc, 0, none⟩) nc nc) h0
    show _ = _
    simpa using h1
  have V2 := hideP (keepG Z2.out t1 (by omega))
  have V3 := hideP (keepG R7.out t1 (by omega))
  have V4 := hideP (keepG R6.out t1 (by omega))
  have VB : Hid (Below w.heap.size w ((w6.setCell ⟨w.heap.size, 0, none⟩ (.slice (some ⟨bs, 0, none⟩) ns ns)).setCell ⟨w.heap.size, 3, none⟩ (.slice (some ⟨bc, 0, none⟩) nc nc))) := B6.out.trans (t1.below (Nat.le_refl _) B6.out.size)
  clear t1 Z1 Z2 R6 R7 B6
  go_upto_region 5 with fail
  obtain ⟨w7, hw7⟩ : ∃ w7, ((w6.setCell ⟨w.heap.size, 0, none⟩ (.slice (some ⟨bs, 0, none⟩) ns ns)).setCell ⟨w.heap.size, 3, none⟩ (.slice (some ⟨bc, 0, none⟩) nc nc)) = w7 := ⟨_, rfl⟩
  rw [hw7] at V1 V2 V3 V4 VB ⊢
  clear hw7 c0 c1 c2 c3 f1
  have c0 := (cells_of V1.out).1 0
  have c1 := (cells_of V1.out).1 1
  have c2 := (cells_of V1.out).1 2
  have c3 := (cells_of V1.out).1 3
  have d0 := (cells_of V2.out).1 0
  have d1 := (cells_of V2.out).1 1
  have d2 := (cells_of V2.out).1 2
  have d3 := (cells_of V2.out).1 3
  have f2 := (cells_of V2.out).2
  simp at c0 c1 c2 c3 d0 d1 d2 d3
  have pb := put4_but w7 (w.heap.size + 1) (.slice (some ⟨bs, 0, none⟩) ns ns) (.int .i64 params) (.int .i64 slots) (.slice (some ⟨bc, 0, none⟩) nc nc)
  have P2 := hideP (put4_box V2.out (.slice (some ⟨bs, 0, none⟩) ns ns) (.int .i64 params) (.int .i64 slots) (.slice (some ⟨bc, 0, none⟩) nc nc))
  have P3 := hideP (keepG V3.out pb (by omega))
  have P4 := hideP (keepG V4.out pb (by omega))
  have PB : Hid (Below w.heap.size w (put4 w7 (w.heap.size + 1) (.slice (some ⟨bs, 0, none⟩) ns ns) (.int .i64 params) (.int .i64 slots) (.slice (some ⟨bc, 0, none⟩) nc nc))) := VB.out.trans (pb.below (Nat.le_succ _) VB.out.size)
  clear pb V1 V2 V3 V4 VB
  go_wp2
  refine bodyPost_ret (results_cell_row rfl _ _ (w.heap.size + 1) 30 #[.slice (some ⟨bs, 0, none⟩) ns ns, .int .i64 params, .int .i64 slots, .slice (some ⟨bc, 0, none⟩) nc nc] (0, 0) _ rfl P2.out Try.underlying30 rfl (by kernel_rfl)) rfl ?_
  exact GOAL.out bs bc _ (OR1.out _ bs (by omega) P3.out) (OR2.out _ bc (by omega) P4.out) PB.out
end Go.Proofs.Ytfoelnblnfcaiaa
