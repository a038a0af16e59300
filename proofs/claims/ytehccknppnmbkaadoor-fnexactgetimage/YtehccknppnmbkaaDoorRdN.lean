/- The contract of impl.GetImage. -/
import Derived.Test.YtehccknppnmbkaaDoorRdM
import Derived.Test.YtehccknppnmbkaaDoorIsE
import Derived.Test.YtehccknppnmbkaaDoorImgI
namespace Go.Proofs.YtehccknppnmbkaaDoor
open Go.ChangeShapes Go.WideShapes Go.ChangeAt Go.RowKit
/-- What a call of GetImage hands back. -/
def GetRes (w : World) (s : ByteArray) (en : Ending) (w' : World) : Prop := ∃ v' S C, en = .returned (.tuple #[.agg v', .bool (okI s)]) ∧ ImgIs w' w.heap.size v' (getP s) ∧ MOwn w' v' S C ∧ (∀ c ∈ imL S C, w.heap.size ≤ c.1 ∧ c.1 < w'.heap.size) ∧ (imL S C).length ≤ 50000000 ∧ Below w.heap.size w w'
theorem get_none {w w' : World} {s : ByteArray} (h : okI s = false) (b : Below w.heap.size w w') : GetRes w s (.returned (.tuple #[.agg zC, .bool false])) w' := by
  refine ⟨zC, ⟨0, 0, 0⟩, ⟨0, 0, 0⟩, by rw [h], ?_, ⟨⟨_, _, _, _, _, _, rfl, Or.inl rfl, Or.inl rfl⟩, fun h => absurd h (Nat.lt_irrefl 0), fun h => absurd h (Nat.lt_irrefl 0), fun h => absurd h (Nat.lt_irrefl 0)⟩, ?_, ?_, b⟩
  · have e : getP s = zImg := by unfold getP; rw [h]; rfl
    rw [e]
    refine ⟨none, 0, none, 0, rfl, by unfold Img.wf I64 zImg; decide, ⟨Nat.zero_le _, Or.inl rfl⟩, Nat.zero_le _, fun _ => #[], Or.inl rfl, fun i hi => absurd hi (Nat.not_lt_zero _)⟩
  · intro c hc; simp [imL, intL, wrdL] at hc
  · simp [imL, intL, wrdL]
theorem get_some {w w' : World} {s : ByteArray} (h : okI s = true) {gs cs gc cc : Nat} (h1 : OwnI w' w.heap.size (.slice (some ⟨gs, 0, none⟩) (pI s).sizes.length cs) (pI s).sizes) (h2 : OwnE WrE w' w.heap.size (.slice (some ⟨gc, 0, none⟩) (pI s).code.length cc) (pI s).code) (b : Below w.heap.size w w') :
    GetRes w s (.returned (.tuple #[.agg #[.slice (some ⟨gs, 0, none⟩) (pI s).sizes.length cs, .int .i64 (pI s).params, .int .i64 (pI s).slots, .slice (some ⟨gc, 0, none⟩) (pI s).code.length cc], .bool true])) w' := by
  have e : getP s = pI s := if_pos h
  obtain ⟨o1, o2⟩ := mown_of h1 h2
  refine ⟨_, _, _, by rw [h], by rw [e]; exact img_of h1 h2 (pI_wf s) (pI_code s), o1, o2, ?_, b⟩
  rw [imL_len]
  have k1 : (pI s).sizes.length ≤ 4 := by show (valsI s 1 (kI s)).length ≤ 4; rw [valsI_len]; exact kI_le s
  have k2 : (pI s).code.length ≤ 6000 := by show (wrdsI s (4 + kI s) (cI s)).length ≤ 6000; rw [wrdsI_len]; exact cI_le s
  show (pI s).sizes.length + (pI s).code.length * 5 ≤ _
  omega
set_option maxHeartbeats 8000000 in
set_option maxRecDepth 100000 in
theorem impl_getImage (s : ByteArray) (w : World) (hs : s.size ≤ 1048576) (a : Addr) (hev : w.cell? ⟨0, 0, none⟩ = some (.iface 152 (.pointer (some a)))) :
    Calls Tryd.prog 21 #[.string s] w fun en w' => GetRes w s en w' := by
  have hlt := lt_of_cell hev
  have al := (Below.refl w.heap.size w).alloc (Nat.le_refl _) (.cells zC 32)
  have hev1 : (w.alloc (.cells zC 32)).cell? ⟨0, 0, none⟩ = some (.iface 152 (.pointer (some a))) := (al.cell (p := ⟨0, 0, none⟩) hlt).trans hev
  have CI := hideP (imageIn_any s (w.alloc (.cells zC 32)) hs _ hev1 (fun m W A v h => impl_imageOk m W A v h))
  have Z0 := hideP (newR w (.cells zC 32))
  obtain ⟨W0, hW0⟩ : ∃ W, w.alloc (.cells zC 32) = W := ⟨_, rfl⟩
  have hz0 : W0.heap.size = w.heap.size + 1 := by rw [← hW0]; simp
  rw [hW0] at CI Z0 al hev1
  unfold zC at hW0
  have HAL := hideP al
  have HEV := hideP hev1
  obtain ⟨n, hn⟩ : ∃ n, w.heap.size = n := ⟨_, rfl⟩
  have HNN := hideP hn
  rw [hn] at hz0 Z0 hlt
  clear al hev1 hev
  go_enter Tryd.func21, Tryd.ntmps21
  have HZ := hideP hz0
  clear hz0
  go_wp2_with fail
  refine CI.out.mono ?_
  rintro e1 w1 (⟨hok, gs, cs, gc, cc, rfl, o1, o2, b1⟩ | ⟨hok, rfl, b1⟩)
  · have HOK := hideP hok
    have Z1 := hideP (keepR Z0.out b1)
    have ev1 := (b1.cell (p := ⟨0, 0, none⟩) (lt_of_cell HEV.out)).trans HEV.out
    have BB := hideP (below_trans HAL.out b1)
    rw [HZ.out] at o1 o2
    obtain ⟨m, hm⟩ : ∃ m, pI s = m := ⟨_, rfl⟩
    have HM := hideP hm
    rw [hm] at o1 o2
    simp only [hm]
    clear hm CI
    obtain ⟨sizes, params, slots, code⟩ := m
    simp only at o1 o2 ⊢
    have HO1 := hideP o1
    have HO2 := hideP o2
    clear o1 o2 hok
    have al2 := (Below.refl w1.heap.size w1).alloc (Nat.le_refl _) (.cells #[.slice (some ⟨gs, 0, none⟩) sizes.length cs, .int .i64 params, .int .i64 slots, .slice (some ⟨gc, 0, none⟩) code.length cc] 32)
    have B4 := hideP (newR w1 (.cells #[.slice (some ⟨gs, 0, none⟩) sizes.length cs, .int .i64 params, .int .i64 slots, .slice (some ⟨gc, 0, none⟩) code.length cc] 32))
    have Z2 := hideP (keepR Z1.out al2)
    have ev2 := (al2.cell (p := ⟨0, 0, none⟩) (lt_of_cell ev1)).trans ev1
    have BB2 := hideP (below_trans BB.out al2)
    have N1 := hideP (HO1.out.stays al2)
    have N2 := hideP (HO2.out.stays al2)
    have hl1 : n < w1.heap.size := (Array.getElem?_eq_some_iff.1 Z1.out).1
    obtain ⟨W2, hW2⟩ : ∃ W, w1.alloc (.cells #[.slice (some ⟨gs, 0, none⟩) sizes.length cs, .int .i64 params, .int .i64 slots, .slice (some ⟨gc, 0, none⟩) code.length cc] 32) = W := ⟨_, rfl⟩
    rw [hW2] at B4 Z2 ev2 BB2 N1 N2
    clear al2 ev1 b1 HO1 HO2 Z1 BB
    go_upto_region 2 with fail
    try rw [hW2]
    clear hW2
    go_wp2_with fail
    refine (isNilE W2 _ _).mono ?_
    rintro e3 w3 ⟨rfl, rfl⟩
    have c0 := (cells_of B4.out).1 0
    have c1 := (cells_of B4.out).1 1
    have c2 := (cells_of B4.out).1 2
    have c3 := (cells_of B4.out).1 3
    have r0 := (cells_of Z2.out).1 0
    have r1 := (cells_of Z2.out).1 1
    have r2 := (cells_of Z2.out).1 2
    have r3 := (cells_of Z2.out).1 3
    have f0 := (cells_of Z2.out).2
    simp [zC] at c0 c1 c2 c3 r0 r1 r2 r3
    have pb := put4_but w3 n (.slice (some ⟨gs, 0, none⟩) sizes.length cs) (.int .i64 params) (.int .i64 slots) (.slice (some ⟨gc, 0, none⟩) code.length cc)
    have P2 := hideP (put4_box Z2.out (.slice (some ⟨gs, 0, none⟩) sizes.length cs) (.int .i64 params) (.int .i64 slots) (.slice (some ⟨gc, 0, none⟩) code.length cc))
    have BE := hideP (BB2.out.trans (pb.below (by rw [HNN.out]; exact Nat.le_refl _) BB2.out.size))
    have M1 := hideP (N1.out.butG pb (by intro e; have e1 := own_blk e; have := (N1.out.low gs rfl).1; omega))
    have M2 := hideP (N2.out.butG pb (by intro e; have e1 := own_blk e; have := (N2.out.low gc rfl).1; omega))
    clear pb N1 N2 BB2
    go_wp2
    refine bodyPost_ret (results_cell_row2 rfl _ _ n #[.slice (some ⟨gs, 0, none⟩) sizes.length cs, .int .i64 params, .int .i64 slots, .slice (some ⟨gc, 0, none⟩) code.length cc] rfl (run_loadVar_row _ n _ _ _ (0, 0) _ P2.out Tryd.underlying32 rfl (by kernel_rfl)) (.bool true) rfl) rfl ?_
    have h1 := M1.out.mono (Nat.le_succ n)
    have h2 := M2.out.mono (Nat.le_succ n)
    have key := @get_some w _ s HOK.out gs cs gc cc (by rw [HM.out, HNN.out]; exact h1) (by rw [HM.out, HNN.out]; exact h2) BE.out
    rw [HM.out] at key
    exact key
  · have HOK := hideP hok
    have Z1 := hideP (keepR Z0.out b1)
    have ev1 := (b1.cell (p := ⟨0, 0, none⟩) (lt_of_cell HEV.out)).trans HEV.out
    have BB := hideP (below_trans HAL.out b1)
    have al2 := (Below.refl w1.heap.size w1).alloc (Nat.le_refl _) (.cells zC 32)
    have Z2 := hideP (keepR Z1.out al2)
    have ev2 := (al2.cell (p := ⟨0, 0, none⟩) (lt_of_cell ev1)).trans ev1
    have BB2 := hideP (below_trans BB.out al2)
    obtain ⟨W2, hW2⟩ : ∃ W, w1.alloc (.cells zC 32) = W := ⟨_, rfl⟩
    rw [hW2] at Z2 ev2 BB2
    clear al2 ev1 b1 Z1 BB hok CI
    unfold zC
    go_upto_region 2 with fail
    unfold zC at hW2
    try rw [hW2]
    clear hW2
    go_wp2_with fail
    refine (isSameE a W2).mono ?_
    rintro e3 w3 ⟨rfl, rfl⟩
    have r0 := (cells_of Z2.out).1 0
    have r1 := (cells_of Z2.out).1 1
    have r2 := (cells_of Z2.out).1 2
    have r3 := (cells_of Z2.out).1 3
    have f0 := (cells_of Z2.out).2
    simp [zC] at r0 r1 r2 r3
    have pb := put4_but w3 n (.slice none 0 0) (.int .i64 0) (.int .i64 0) (.slice none 0 0)
    have P2 := hideP (put4_box Z2.out (.slice none 0 0) (.int .i64 0) (.int .i64 0) (.slice none 0 0))
    have BE := hideP (BB2.out.trans (pb.below (by rw [HNN.out]; exact Nat.le_refl _) BB2.out.size))
    clear pb BB2
    go_wp2
    refine bodyPost_ret (results_cell_row2 rfl _ _ n zC rfl (run_loadVar_row _ n _ _ _ (0, 0) _ P2.out Tryd.underlying32 rfl (by kernel_rfl)) (.bool false) rfl) rfl ?_
    exact get_none HOK.out BE.out
end Go.Proofs.YtehccknppnmbkaaDoor
