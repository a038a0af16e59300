/- The walk of the law FnExactGetImage. -/
import Derived.Test.YtehccknppnmbkaaDoorRsS
import Derived.Test.YtehccknppnmbkaaDoorRdN
import Derived.Test.YtehccknppnmbkaaDoorMksW
import Derived.Test.YtehccknppnmbkaaDoorImageEq
import Derived.Deep.RegionHeld3
namespace Go.Proofs.YtehccknppnmbkaaDoor
open Go.ChangeShapes Go.WideShapes Go.ChangeAt Go.RowKit
namespace GetImageLaw
theorem keep {W W' : World} {b : Nat} {o : Obj} (h : W.heap[b]? = some o) (bel : Below W.heap.size W W') : W'.heap[b]? = some o := (bel.block b (Array.getElem?_eq_some_iff.1 h).1).trans h
theorem blk_new (w : World) (o : Obj) : (w.alloc o).heap[w.heap.size]? = some o := by show (w.heap.push o)[w.heap.size]? = _; exact Array.getElem?_push_size
abbrev EvW (w : World) (a : Addr) : Prop := w.cell? ⟨0, 0, none⟩ = some (.iface 152 (.pointer (some a)))
theorem evW_below {w w' : World} {a : Addr} (h : EvW w a) (b : Below w.heap.size w w') : EvW w' a := (b.cell (p := ⟨0, 0, none⟩) (lt_of_cell h)).trans h
set_option maxRecDepth 100000 in
set_option maxHeartbeats 16000000 in
theorem walk (s : ByteArray) (w : World) (hs : s.size ≤ maxLen) (a : Addr) (hev : EvW w a) :
    Calls Tryd.prog 5 #[.string s] w fun en w' => en = .returned (.bool true) ∧ Below w.heap.size w w' := by
  unfold maxLen at hs
  by_cases hb : s.size ≤ 1048576
  · obtain ⟨R, hR⟩ : ∃ R, getP s = R := ⟨_, rfl⟩
    obtain ⟨bo, hbo⟩ : ∃ b, okI s = b := ⟨_, rfl⟩
    have SO : Hid (∀ W, Below w.heap.size w W → Calls Tryd.prog 20 #[.string s] W fun en w' => ∃ v' S C, en = .returned (.tuple #[.agg v', .bool bo]) ∧ ImgIs w' W.heap.size v' R ∧ MOwn w' v' S C ∧ (∀ c ∈ imL S C, W.heap.size ≤ c.1 ∧ c.1 < w'.heap.size) ∧ (imL S C).length ≤ 50000000 ∧ Below W.heap.size W w') := fun W _ => by rw [← hR, ← hbo]; exact spec_getImage s W hb
    have IO : Hid (∀ W, Below w.heap.size w W → Calls Tryd.prog 21 #[.string s] W fun en w' => ∃ v' S C, en = .returned (.tuple #[.agg v', .bool bo]) ∧ ImgIs w' W.heap.size v' R ∧ MOwn w' v' S C ∧ (∀ c ∈ imL S C, W.heap.size ≤ c.1 ∧ c.1 < w'.heap.size) ∧ (imL S C).length ≤ 50000000 ∧ Below W.heap.size W w') := fun W hW => by rw [← hR, ← hbo]; exact impl_getImage s W hb a (evW_below hev hW)
    clear hR hbo hev
    have hbb : (bo != bo) = false := by simp
    obtain ⟨rs, rp, rl, rb⟩ := R
    go_enter Tryd.func5, Tryd.ntmps5
    go_wp2_with fail
    refine (SO.out w (Below.refl _ _)).mono ?_
    rintro y4 w4 ⟨v4, S4, C4, rfl, o4, _, _, _, bel4⟩
    obtain ⟨us4, cs4, ub4, cb4, rfl, _⟩ := id o4
    simp only at o4 ⊢
    have al4 := (Below.refl w4.heap.size w4).alloc (Nat.le_refl _) (.cells #[.slice us4 rs.length cs4, .int .i64 rp, .int .i64 rl, .slice ub4 rb.length cb4] 32)
    have HS := hideP (ImgKeeps.stays (ImgKeeps.mono o4 (Nat.zero_le _)) al4)
    have E4 := hideP (blk_new w4 (.cells #[.slice us4 rs.length cs4, .int .i64 rp, .int .i64 rl, .slice ub4 rb.length cb4] 32))
    have HW := hideP (below_trans bel4 al4)
    have BS := hideP (Below.refl (w4.alloc (.cells #[.slice us4 rs.length cs4, .int .i64 rp, .int .i64 rl, .slice ub4 rb.length cb4] 32)).heap.size (w4.alloc (.cells #[.slice us4 rs.length cs4, .int .i64 rp, .int .i64 rl, .slice ub4 rb.length cb4] 32)))
    have LP : Hid (w.heap.size ≤ (w4.alloc (.cells #[.slice us4 rs.length cs4, .int .i64 rp, .int .i64 rl, .slice ub4 rb.length cb4] 32)).heap.size) := HW.out.size
    clear o4 bel4 SO al4
    go_upto_region 4 with fail
    obtain ⟨wS, hwS⟩ : ∃ wS, w4.alloc (.cells #[.slice us4 rs.length cs4, .int .i64 rp, .int .i64 rl, .slice ub4 rb.length cb4] 32) = wS := ⟨_, rfl⟩
    rw [hwS] at HS E4 BS HW LP ⊢
    clear hwS
    go_wp2_with fail
    refine (IO.out _ HW.out).mono ?_
    rintro y8 w8 ⟨v8, S, C, rfl, i8, o8, low8, len8, bel8⟩
    replace HW := hideP (below_trans HW.out bel8)
    replace BS := hideP (below_trans BS.out bel8)
    obtain ⟨us8, cs8, ub8, cb8, rfl, _⟩ := id i8
    simp only at i8 o8 ⊢
    have al8 := (Below.refl w8.heap.size w8).alloc (Nat.le_refl _) (.cells #[.slice us8 rs.length cs8, .int .i64 rp, .int .i64 rl, .slice ub8 rb.length cb8] 32)
    have HI := hideP (ImgKeeps.stays i8 al8)
    have HO := hideP (o8.stays al8)
    have G1 := hideP (blk_new w8 (.cells #[.slice us8 rs.length cs8, .int .i64 rp, .int .i64 rl, .slice ub8 rb.length cb8] 32))
    have LOW := hideP low8
    have LEN := hideP len8
    have L8 : Hid (wS.heap.size ≤ w8.heap.size) := bel8.size
    replace HW := hideP (below_trans HW.out al8)
    replace BS := hideP (below_trans BS.out al8)
    clear i8 o8 low8 len8 bel8 al8
    go_upto_region 5 with fail
    obtain ⟨wI, hwI⟩ : ∃ wI, w8.alloc (.cells #[.slice us8 rs.length cs8, .int .i64 rp, .int .i64 rl, .slice ub8 rb.length cb8] 32) = wI := ⟨_, rfl⟩
    rw [hwI] at BS G1 HI HO HW ⊢
    clear hwI
    have D0 := keep E4.out BS.out
    have d0 := (cells_of D0).1 0
    have d1 := (cells_of D0).1 1
    have d2 := (cells_of D0).1 2
    have d3 := (cells_of D0).1 3
    simp at d0 d1 d2 d3
    clear D0
    have e0 := (cells_of G1.out).1 0
    have e1 := (cells_of G1.out).1 1
    have e2 := (cells_of G1.out).1 2
    have e3 := (cells_of G1.out).1 3
    simp at e0 e1 e2 e3
    go_wp2_with fail
    refine (eqImage_same (⟨rs, rp, rl, rb⟩ : Img) _ _ _ _ _ HI.out (ImgKeeps.stays HS.out BS.out)).mono ?_
    rintro yn wn ⟨rfl, beln⟩
    have LN : Hid (w8.heap.size < wn.heap.size) := Nat.lt_of_lt_of_le (Array.getElem?_eq_some_iff.1 G1.out).1 beln.size
    replace HW := hideP (below_trans HW.out beln)
    replace BS := hideP (below_trans BS.out beln)
    replace G1 := hideP (keep G1.out beln)
    replace HO := hideP (HO.out.stays beln)
    clear beln d0 d1 d2 d3 e0 e1 e2 e3 HI
    have e0 := (cells_of G1.out).1 0
    have e1 := (cells_of G1.out).1 1
    have e2 := (cells_of G1.out).1 2
    have e3 := (cells_of G1.out).1 3
    simp at e0 e1 e2 e3
    obtain ⟨K, hK⟩ : ∃ K, 1 + (imL S C).length = K := ⟨_, rfl⟩
    have MG : Hid (∀ W, MOwn W #[.slice us8 rs.length cs8, .int .i64 rp, .int .i64 rl, .slice ub8 rb.length cb8] S C → Calls Tryd.prog 14 #[.agg #[.slice us8 rs.length cs8, .int .i64 rp, .int .i64 rl, .slice ub8 rb.length cb8], .int .i64 1] W fun en w' => en = .returned (.int .i64 (K : Int)) ∧ Mks W w' (imL S C) 1) := fun W hW => hK ▸ markImage_mks W 1 _ S C hW (by have := LEN.out; omega)
    have HG : Hid (∀ W, MOwn W #[.slice us8 rs.length cs8, .int .i64 rp, .int .i64 rl, .slice ub8 rb.length cb8] S C → HereW W (imL S C) 1 → Calls Tryd.prog 22 #[.agg #[.slice us8 rs.length cs8, .int .i64 rp, .int .i64 rl, .slice ub8 rb.length cb8], .int .i64 1] W fun en w' => en = .returned (.int .i64 (K : Int)) ∧ Below W.heap.size W w') := fun W hW hE => hK ▸ heldImage_mks W 1 _ S C hW hE (by have := LEN.out; omega)
    clear hK
    go_wp2_with fail
    refine (MG.out _ HO.out).mono ?_
    rintro y7 w7 ⟨rfl, mk7⟩
    have hlo : ∀ c ∈ imL S C, wS.heap.size ≤ c.1 := fun c hc => (LOW.out c hc).1
    have hbl := mk7.below hlo (by have := LN.out; have := L8.out; omega)
    replace HW := hideP (HW.out.trans (hbl.mono LP.out))
    replace BS := hideP (BS.out.trans hbl)
    replace G1 := hideP ((mk7.blk w8.heap.size LN.out (fun o t hm => by have := (LOW.out _ hm).2; simp at this)).trans G1.out)
    replace HO := hideP (HO.out.marked mk7)
    have HE := hideP (show HereW _ _ _ from mk7.here)
    have hk0 : ¬ (K : Int) < 0 := by omega
    clear mk7 hlo hbl LN MG e0 e1 e2 e3
    have e0 := (cells_of G1.out).1 0
    have e1 := (cells_of G1.out).1 1
    have e2 := (cells_of G1.out).1 2
    have e3 := (cells_of G1.out).1 3
    simp at e0 e1 e2 e3
    go_wp2_with fail
    refine (HG.out _ HO.out HE.out).mono ?_
    rintro yh wh ⟨rfl, belh⟩
    replace HW := hideP (below_trans HW.out belh)
    replace BS := hideP (below_trans BS.out belh)
    replace G1 := hideP (keep G1.out belh)
    replace HO := hideP (HO.out.stays belh)
    replace HE := hideP (HE.out.stays belh)
    clear belh e0 e1 e2 e3
    go_wp2_with fail
    refine (IO.out _ HW.out).mono ?_
    rintro yb wb ⟨vb, S2, C2, rfl, ib, _, _, _, belb⟩
    replace HW := hideP (below_trans HW.out belb)
    replace BS := hideP (below_trans BS.out belb)
    replace G1 := hideP (keep G1.out belb)
    replace HO := hideP (HO.out.stays belb)
    replace HE := hideP (HE.out.stays belb)
    obtain ⟨usb, csb, ubb, cbb, rfl, _⟩ := id ib
    simp only at ib ⊢
    have alb := (Below.refl wb.heap.size wb).alloc (Nat.le_refl _) (.cells #[.slice usb rs.length csb, .int .i64 rp, .int .i64 rl, .slice ubb rb.length cbb] 32)
    have HI := hideP (ImgKeeps.stays ib alb)
    have G2 := hideP (blk_new wb (.cells #[.slice usb rs.length csb, .int .i64 rp, .int .i64 rl, .slice ubb rb.length cbb] 32))
    replace HW := hideP (below_trans HW.out alb)
    replace BS := hideP (below_trans BS.out alb)
    replace G1 := hideP (keep G1.out alb)
    replace HO := hideP (HO.out.stays alb)
    replace HE := hideP (HE.out.stays alb)
    clear ib belb alb IO
    go_upto_region 16 with fail
    obtain ⟨wJ, hwJ⟩ : ∃ wJ, wb.alloc (.cells #[.slice usb rs.length csb, .int .i64 rp, .int .i64 rl, .slice ubb rb.length cbb] 32) = wJ := ⟨_, rfl⟩
    rw [hwJ] at BS G1 HO HE G2 HI HW ⊢
    clear hwJ
    have D0 := keep E4.out BS.out
    have d0 := (cells_of D0).1 0
    have d1 := (cells_of D0).1 1
    have d2 := (cells_of D0).1 2
    have d3 := (cells_of D0).1 3
    simp at d0 d1 d2 d3
    clear D0
    have e0 := (cells_of G2.out).1 0
    have e1 := (cells_of G2.out).1 1
    have e2 := (cells_of G2.out).1 2
    have e3 := (cells_of G2.out).1 3
    simp at e0 e1 e2 e3
    go_wp2_with fail
    refine (eqImage_same (⟨rs, rp, rl, rb⟩ : Img) _ _ _ _ _ HI.out (ImgKeeps.stays HS.out BS.out)).mono ?_
    rintro yc wc2 ⟨rfl, belc⟩
    replace HW := hideP (below_trans HW.out belc)
    replace G1 := hideP (keep G1.out belc)
    replace HO := hideP (HO.out.stays belc)
    replace HE := hideP (HE.out.stays belc)
    clear belc d0 d1 d2 d3 e0 e1 e2 e3
    have e0 := (cells_of G1.out).1 0
    have e1 := (cells_of G1.out).1 1
    have e2 := (cells_of G1.out).1 2
    have e3 := (cells_of G1.out).1 3
    simp at e0 e1 e2 e3
    go_wp2_with fail
    refine (HG.out _ HO.out HE.out).mono ?_
    rintro yd wd ⟨rfl, beld⟩
    replace HW := hideP (below_trans HW.out beld)
    clear beld e0 e1 e2 e3
    go_wp2
    go_ret
    exact ⟨rfl, HW.out⟩
  · go_enter Tryd.func5, Tryd.ntmps5
    go_wp2_with fail
    go_ret
    exact ⟨rfl, Below.refl _ _⟩
end GetImageLaw
end Go.Proofs.YtehccknppnmbkaaDoor
