/- The walk of the law FnExactThreads (written by wip/mklawg.py). -/
import Derived.Test.YtobpcfelgobedabThrS
import Derived.Test.YtobpcfelgobedabCelT
import Derived.Test.YtobpcfelgobedabGrOkI
import Derived.Test.YtobpcfelgobedabGrOkS
import Derived.Test.YtobpcfelgobedabMksE
import Derived.Test.YtobpcfelgobedabMkAll
import Derived.Test.YtobpcfelgobedabShAll
import Derived.Deep.CutRange
import Derived.Deep.RegionHeld3
namespace Go.Proofs.Ytobpcfelgobedab
open Go.ChangeShapes Go.WideShapes Go.ChangeAt Go.RowKit
namespace ThreadsLaw
theorem keep {W W' : World} {b : Nat} {o : Obj} (h : W.heap[b]? = some o) (bel : Below W.heap.size W W') : W'.heap[b]? = some o := (bel.block b (Array.getElem?_eq_some_iff.1 h).1).trans h
theorem blk_new (w : World) (o : Obj) : (w.alloc o).heap[w.heap.size]? = some o := by show (w.heap.push o)[w.heap.size]? = _; exact Array.getElem?_push_size
theorem pos_of {W : World} {b : Nat} {o : Obj} (h : W.heap[b]? = some o) : 0 < W.heap.size := Nat.lt_of_le_of_lt (Nat.zero_le _) (Array.getElem?_eq_some_iff.1 h).1
set_option maxRecDepth 100000 in
set_option maxHeartbeats 16000000 in
theorem walk (x0 : Gr) (v0 : Array Value) (w : World) (h0 : GrIs w 0 v0 x0) :
    Calls Try.prog 3 #[.agg v0] w fun en w' => en = .returned (.bool true) ∧ Below w.heap.size w w' := by
  obtain ⟨sizesa, paramsa, varsa, slotsa, blocksa⟩ := x0
  have g0 := h0
  obtain ⟨usizesa1, csizesa1, ublocksa1, cblocksa1, rfl, _⟩ := g0
  simp only at *
  have SP0 : Hid (∀ W, Below w.heap.size w W → _) := fun W hW => szGraph_any (⟨sizesa, paramsa, varsa, slotsa, blocksa⟩ : Gr) W 0 _ 1048576 (GrKeeps.stays h0 hW) (by omega)
  by_cases hp0 : (⟨sizesa, paramsa, varsa, slotsa, blocksa⟩ : Gr).sz ≤ 1048576
  · obtain ⟨L1, hL1⟩ : ∃ L, 1048576 - (⟨sizesa, paramsa, varsa, slotsa, blocksa⟩ : Gr).sz = L := ⟨_, rfl⟩
    have TO0 := hideP (toGraph_in w 0 _ h0 (by omega))
    have HSZ := hideP hp0
    have hl := trivial
    obtain ⟨R, hR⟩ : ∃ R : Gr, thrP ⟨sizesa, paramsa, varsa, slotsa, blocksa⟩ = R := ⟨_, rfl⟩
    have SO : Hid (∀ W A0 x0, Below w.heap.size w W → GrIs W A0 x0 (⟨sizesa, paramsa, varsa, slotsa, blocksa⟩ : Gr) → Calls Try.prog 5 #[.agg x0] W fun en w' => ∃ v', en = .returned (.agg v') ∧ GrIs w' W.heap.size v' R ∧ Below W.heap.size W w') := fun W A0 x0 hbw y0 => by rw [← hR]; exact spec_threads _ W A0 x0 y0 (fun W A v h => spec_graphOk _ W A v h hp0) (fits_of hp0)
    have IO : Hid (∀ W A0 x0, Below w.heap.size w W → GrIs W A0 x0 (⟨sizesa, paramsa, varsa, slotsa, blocksa⟩ : Gr) → 0 < A0 → Calls Try.prog 7 #[.agg x0] W fun en w' => ∃ v' S b o cs, en = .returned (.agg v') ∧ GrIs w' W.heap.size v' R ∧ GOwn w' v' S b o cs ∧ (∀ c ∈ grL S b o cs, W.heap.size ≤ c.1 ∧ c.1 < w'.heap.size) ∧ (grL S b o cs).length ≤ 50000000 ∧ Below W.heap.size W w') := fun W A0 x0 hbw y0 hpos => by rw [← hR]; exact (impl_threads _ W A0 x0 y0 (fun W A v h => impl_graphOk _ W A v h) (fits_of hp0)).mono (fun en w' h => h.few (thrP_few hp0))
    have E0 := hideP (szR_pos hp0)
    have HL1 := hideP hL1
    clear hl hp0 h0 hL1
    obtain ⟨rs, rp, rv, rl, rb⟩ := R
    go_enter Try.func3, Try.ntmps3
    go_wp2_with fail
    refine (SP0.out _ ((Below.refl _ _).alloc (Nat.le_refl _) _)).mono ?_
    rintro y0 wz0 ⟨rfl, belz⟩
    rw [E0.out, HL1.out]
    have P0 := hideP (keep (blk_new w _) belz)
    have HW := hideP (below_new belz)
    clear belz SP0 E0
    have p0 := (cells_of P0.out).1 0
    have p1 := (cells_of P0.out).1 1
    have p2 := (cells_of P0.out).1 2
    have p3 := (cells_of P0.out).1 3
    have p4 := (cells_of P0.out).1 4
    simp at p0 p1 p2 p3 p4
    go_wp2_with fail
    refine (TO0.out _ HW.out).mono ?_
    rintro y3 w3 ⟨usizesa3, csizesa3, ublocksa3, cblocksa3, rfl, hx3, bel3⟩
    replace HW := hideP (below_trans HW.out bel3)
    replace P0 := hideP (keep P0.out bel3)
    have HX3 := hideP hx3
    clear hx3 bel3 p0 p1 p2 p3 p4
    go_wp2_with fail
    refine (SO.out _ _ _ HW.out HX3.out).mono ?_
    rintro y4 w4 ⟨v4, rfl, o4, bel4⟩
    replace HW := hideP (below_trans HW.out bel4)
    replace P0 := hideP (keep P0.out bel4)
    obtain ⟨us4, cs4, ub4, cb4, rfl, _⟩ := id o4
    simp only at o4 ⊢
    have al4 := (Below.refl w4.heap.size w4).alloc (Nat.le_refl _) (.cells #[.slice us4 rs.length cs4, .int .i64 rp, .int .i64 rv, .int .i64 rl, .slice ub4 rb.length cb4] 29)
    have HS := hideP (GrKeeps.stays (GrKeeps.mono o4 (Nat.zero_le _)) al4)
    have E4 := hideP (blk_new w4 (.cells #[.slice us4 rs.length cs4, .int .i64 rp, .int .i64 rv, .int .i64 rl, .slice ub4 rb.length cb4] 29))
    replace HW := hideP (below_trans HW.out al4)
    replace P0 := hideP (keep P0.out al4)
    have BS := hideP (Below.refl (w4.alloc (.cells #[.slice us4 rs.length cs4, .int .i64 rp, .int .i64 rv, .int .i64 rl, .slice ub4 rb.length cb4] 29)).heap.size (w4.alloc (.cells #[.slice us4 rs.length cs4, .int .i64 rp, .int .i64 rv, .int .i64 rl, .slice ub4 rb.length cb4] 29)))
    have hpos : Hid (0 < (w4.alloc (.cells #[.slice us4 rs.length cs4, .int .i64 rp, .int .i64 rv, .int .i64 rl, .slice ub4 rb.length cb4] 29)).heap.size) := pos_of P0.out
    have LP : Hid (w.heap.size < (w4.alloc (.cells #[.slice us4 rs.length cs4, .int .i64 rp, .int .i64 rv, .int .i64 rl, .slice ub4 rb.length cb4] 29)).heap.size) := (Array.getElem?_eq_some_iff.1 P0.out).1
    clear o4 bel4 HX3 SO al4
    go_upto_region 6 with fail
    obtain ⟨wS, hwS⟩ : ∃ wS, w4.alloc (.cells #[.slice us4 rs.length cs4, .int .i64 rp, .int .i64 rv, .int .i64 rl, .slice ub4 rb.length cb4] 29) = wS := ⟨_, rfl⟩
    rw [hwS] at HS E4 BS P0 HW hpos LP ⊢
    clear hwS
    have p0 := (cells_of P0.out).1 0
    have p1 := (cells_of P0.out).1 1
    have p2 := (cells_of P0.out).1 2
    have p3 := (cells_of P0.out).1 3
    have p4 := (cells_of P0.out).1 4
    simp at p0 p1 p2 p3 p4
    go_wp2_with fail
    refine (TO0.out _ HW.out).mono ?_
    rintro yx0 wx0 ⟨usizesax, csizesax, ublocksax, cblocksax, rfl, hx, bel⟩
    replace HW := hideP (below_trans HW.out bel)
    replace P0 := hideP (keep P0.out bel)
    replace BS := hideP (below_trans BS.out bel)
    have LX : Hid (wS.heap.size ≤ wx0.heap.size) := bel.size
    have al := (Below.refl wx0.heap.size wx0).alloc (Nat.le_refl _) (.cells #[.slice usizesax sizesa.length csizesax, .int .i64 paramsa, .int .i64 varsa, .int .i64 slotsa, .slice ublocksax blocksa.length cblocksax] 29)
    have G0 := hideP (blk_new wx0 (.cells #[.slice usizesax sizesa.length csizesax, .int .i64 paramsa, .int .i64 varsa, .int .i64 slotsa, .slice ublocksax blocksa.length cblocksax] 29))
    have HX0 := hideP (GrKeeps.stays hx al)
    have RM := hideP ((GrRoom.of hx hpos.out).stays al)
    replace HW := hideP (below_trans HW.out al)
    replace P0 := hideP (keep P0.out al)
    replace BS := hideP (below_trans BS.out al)
    clear hx bel al p0 p1 p2 p3 p4
    have g0_0 := (cells_of G0.out).1 0
    have g0_1 := (cells_of G0.out).1 1
    have g0_2 := (cells_of G0.out).1 2
    have g0_3 := (cells_of G0.out).1 3
    have g0_4 := (cells_of G0.out).1 4
    simp at g0_0 g0_1 g0_2 g0_3 g0_4
    go_wp2_with fail
    refine (IO.out _ _ _ HW.out HX0.out hpos.out).mono ?_
    rintro y8 w8 ⟨v8, S, gb, go, gc, rfl, i8, o8, low8, len8, bel8⟩
    replace HW := hideP (below_trans HW.out bel8)
    replace P0 := hideP (keep P0.out bel8)
    replace BS := hideP (below_trans BS.out bel8)
    replace G0 := hideP (keep G0.out bel8)
    replace HX0 := hideP (GrKeeps.stays HX0.out bel8)
    replace RM := hideP (RM.out.stays bel8)
    obtain ⟨us8, cs8, ub8, cb8, rfl, _⟩ := id i8
    simp only at i8 o8 ⊢
    have al8 := (Below.refl w8.heap.size w8).alloc (Nat.le_refl _) (.cells #[.slice us8 rs.length cs8, .int .i64 rp, .int .i64 rv, .int .i64 rl, .slice ub8 rb.length cb8] 29)
    have HI := hideP (GrKeeps.stays i8 al8)
    have HO := hideP (o8.stays al8)
    have G1 := hideP (blk_new w8 (.cells #[.slice us8 rs.length cs8, .int .i64 rp, .int .i64 rv, .int .i64 rl, .slice ub8 rb.length cb8] 29))
    have LOW := hideP low8
    have LEN := hideP len8
    have L8 : Hid (wx0.heap.size < w8.heap.size) := by have := bel8.size; simp at this; exact this
    replace HW := hideP (below_trans HW.out al8)
    replace P0 := hideP (keep P0.out al8)
    replace BS := hideP (below_trans BS.out al8)
    replace G0 := hideP (keep G0.out al8)
    replace HX0 := hideP (GrKeeps.stays HX0.out al8)
    replace RM := hideP (RM.out.stays al8)
    clear i8 o8 low8 len8 bel8 al8 g0_0 g0_1 g0_2 g0_3 g0_4
    go_upto_region 8 with fail
    obtain ⟨wI, hwI⟩ : ∃ wI, w8.alloc (.cells #[.slice us8 rs.length cs8, .int .i64 rp, .int .i64 rv, .int .i64 rl, .slice ub8 rb.length cb8] 29) = wI := ⟨_, rfl⟩
    rw [hwI] at P0 BS G0 HX0 RM G1 HI HO HW ⊢
    clear hwI
    have D0 := keep E4.out BS.out
    have d0 := (cells_of D0).1 0
    have d1 := (cells_of D0).1 1
    have d2 := (cells_of D0).1 2
    have d3 := (cells_of D0).1 3
    have d4 := (cells_of D0).1 4
    simp at d0 d1 d2 d3 d4
    clear D0
    have e0 := (cells_of G1.out).1 0
    have e1 := (cells_of G1.out).1 1
    have e2 := (cells_of G1.out).1 2
    have e3 := (cells_of G1.out).1 3
    have e4 := (cells_of G1.out).1 4
    simp at e0 e1 e2 e3 e4
    go_wp2_with fail
    refine (eqGraph_same (⟨rs, rp, rv, rl, rb⟩ : Gr) _ _ _ _ _ HI.out (GrKeeps.stays HS.out BS.out)).mono ?_
    rintro y9 w9 ⟨rfl, bel9⟩
    replace HW := hideP (below_trans HW.out bel9)
    replace P0 := hideP (keep P0.out bel9)
    replace BS := hideP (below_trans BS.out bel9)
    replace G0 := hideP (keep G0.out bel9)
    replace HX0 := hideP (GrKeeps.stays HX0.out bel9)
    replace RM := hideP (RM.out.stays bel9)
    replace G1 := hideP (keep G1.out bel9)
    replace HI := hideP (GrKeeps.stays HI.out bel9)
    replace HO := hideP (HO.out.stays bel9)
    clear bel9 d0 d1 d2 d3 d4 e0 e1 e2 e3 e4
    go_upto_region 10 with fail
    go_cut [31] from 27 to 31 (fun sx wx => sx = .bool false ∧ Hid (Below w9.heap.size w9 wx))
    case first =>
      have e0 := (cells_of G0.out).1
      have l0 : wx0.heap.size < w9.heap.size := (Array.getElem?_eq_some_iff.1 G0.out).1
      have e1 := (cells_of P0.out).1
      have l1 : w.heap.size < w9.heap.size := (Array.getElem?_eq_some_iff.1 P0.out).1
      have SK : Hid (∀ W', Below w9.heap.size w9 W' → W'.cell? ⟨wx0.heap.size, 0, none⟩ = some (.slice usizesax sizesa.length csizesax) ∧ W'.cell? ⟨wx0.heap.size, 1, none⟩ = some (.int .i64 paramsa) ∧ W'.cell? ⟨wx0.heap.size, 2, none⟩ = some (.int .i64 varsa) ∧ W'.cell? ⟨wx0.heap.size, 3, none⟩ = some (.int .i64 slotsa) ∧ W'.cell? ⟨wx0.heap.size, 4, none⟩ = some (.slice ublocksax blocksa.length cblocksax) ∧ W'.cell? ⟨w.heap.size, 0, none⟩ = some (.slice usizesa1 sizesa.length csizesa1) ∧ W'.cell? ⟨w.heap.size, 1, none⟩ = some (.int .i64 paramsa) ∧ W'.cell? ⟨w.heap.size, 2, none⟩ = some (.int .i64 varsa) ∧ W'.cell? ⟨w.heap.size, 3, none⟩ = some (.int .i64 slotsa) ∧ W'.cell? ⟨w.heap.size, 4, none⟩ = some (.slice ublocksa1 blocksa.length cblocksa1)) := fun W' h => ⟨(h.cell (p := ⟨wx0.heap.size, 0, none⟩) l0).trans (e0 0), (h.cell (p := ⟨wx0.heap.size, 1, none⟩) l0).trans (e0 1), (h.cell (p := ⟨wx0.heap.size, 2, none⟩) l0).trans (e0 2), (h.cell (p := ⟨wx0.heap.size, 3, none⟩) l0).trans (e0 3), (h.cell (p := ⟨wx0.heap.size, 4, none⟩) l0).trans (e0 4), (h.cell (p := ⟨w.heap.size, 0, none⟩) l1).trans (e1 0), (h.cell (p := ⟨w.heap.size, 1, none⟩) l1).trans (e1 1), (h.cell (p := ⟨w.heap.size, 2, none⟩) l1).trans (e1 2), (h.cell (p := ⟨w.heap.size, 3, none⟩) l1).trans (e1 3), (h.cell (p := ⟨w.heap.size, 4, none⟩) l1).trans (e1 4)⟩
      clear e0 l0 e1 l1
      go_region_held3 (fun W' => W'.cell? ⟨wx0.heap.size, 0, none⟩ = some (.slice usizesax sizesa.length csizesax) ∧ W'.cell? ⟨wx0.heap.size, 1, none⟩ = some (.int .i64 paramsa) ∧ W'.cell? ⟨wx0.heap.size, 2, none⟩ = some (.int .i64 varsa) ∧ W'.cell? ⟨wx0.heap.size, 3, none⟩ = some (.int .i64 slotsa) ∧ W'.cell? ⟨wx0.heap.size, 4, none⟩ = some (.slice ublocksax blocksa.length cblocksax) ∧ W'.cell? ⟨w.heap.size, 0, none⟩ = some (.slice usizesa1 sizesa.length csizesa1) ∧ W'.cell? ⟨w.heap.size, 1, none⟩ = some (.int .i64 paramsa) ∧ W'.cell? ⟨w.heap.size, 2, none⟩ = some (.int .i64 varsa) ∧ W'.cell? ⟨w.heap.size, 3, none⟩ = some (.int .i64 slotsa) ∧ W'.cell? ⟨w.heap.size, 4, none⟩ = some (.slice ublocksa1 blocksa.length cblocksa1)) (first | exact SK.out _ (Below.refl _ _).drew | exact SK.out _ HBb.out | exact SK.out _ HBa.out) (first
          | (go_at_call 6; refine (TO0.out _ HW.out.drew).mono ?_; rintro yya wya ⟨usizesay, csizesay, ublocksay, cblocksay, rfl, hxa, bela⟩; have HY := hideP hxa; have HBa := hideP ((Below.refl w9.heap.size w9).drew.trans (bela.mono (Nat.le_refl _))); clear bela hxa)
          | (go_at_call 8; refine (eqGraph_same (⟨sizesa, paramsa, varsa, slotsa, blocksa⟩ : Gr) _ _ _ _ _ (GrKeeps.stays HX0.out HBa.out) HY.out).mono ?_; rintro yyb wyb ⟨rfl, belb⟩; have HBb := hideP (HBa.out.trans (belb.mono HBa.out.size)); clear belb))
      all_goals (go_wp2_with fail; go_meet; exact ⟨rfl, HBb⟩)
    case rest =>
    obtain ⟨rfl, hc⟩ := hcut
    replace HW := hideP (below_trans HW.out hc.out)
    replace P0 := hideP (keep P0.out hc.out)
    replace BS := hideP (below_trans BS.out hc.out)
    replace G0 := hideP (keep G0.out hc.out)
    replace HX0 := hideP (GrKeeps.stays HX0.out hc.out)
    replace RM := hideP (RM.out.stays hc.out)
    replace G1 := hideP (keep G1.out hc.out)
    replace HI := hideP (GrKeeps.stays HI.out hc.out)
    replace HO := hideP (HO.out.stays hc.out)
    clear hc
    obtain ⟨wd, hwd⟩ : ∃ wd, wc = wd := ⟨_, rfl⟩
    subst hwd
    clear HX0
    have g0_0 := (cells_of G0.out).1 0
    have g0_1 := (cells_of G0.out).1 1
    have g0_2 := (cells_of G0.out).1 2
    have g0_3 := (cells_of G0.out).1 3
    have g0_4 := (cells_of G0.out).1 4
    simp at g0_0 g0_1 g0_2 g0_3 g0_4
    have LG : Hid (w8.heap.size < wc.heap.size) := (Array.getElem?_eq_some_iff.1 G1.out).1
    go_wp2_with fail
    refine (markGraph_room (⟨sizesa, paramsa, varsa, slotsa, blocksa⟩ : Gr) _ _ _ _ RM.out (by have := LG.out; have := L8.out; omega) HSZ.out).mono ?_
    rintro ym wm ⟨km, rfl, om⟩
    have hup : ∀ k, wx0.heap.size + 1 ≤ k → k < wc.heap.size → wm.heap[k]? = wc.heap[k]? := fun k h1 h2 => om.out k h2 (Or.inr (by omega))
    have hbl := om.below (by have := LX.out; have := LG.out; have := L8.out; omega)
    replace HW := hideP (HW.out.trans (hbl.mono (Nat.le_of_lt LP.out)))
    replace P0 := hideP ((om.out w.heap.size (Array.getElem?_eq_some_iff.1 P0.out).1 (Or.inl LP.out)).trans P0.out)
    replace BS := hideP (BS.out.trans hbl)
    replace G1 := hideP ((hup w8.heap.size (by have := L8.out; omega) LG.out).trans G1.out)
    replace HI := hideP (GrIs.above HI.out om.size (by simpa using hup))
    replace HO := hideP (HO.out.above (fun c hc => by have := (LOW.out c hc).1; simpa using this) hup)
    have hkm : ¬ (km : Int) < 0 := by omega
    clear om RM G0 hup hbl g0_0 g0_1 g0_2 g0_3 g0_4
    have D0 := keep E4.out BS.out
    have d0 := (cells_of D0).1 0
    have d1 := (cells_of D0).1 1
    have d2 := (cells_of D0).1 2
    have d3 := (cells_of D0).1 3
    have d4 := (cells_of D0).1 4
    simp at d0 d1 d2 d3 d4
    clear D0
    have e0 := (cells_of G1.out).1 0
    have e1 := (cells_of G1.out).1 1
    have e2 := (cells_of G1.out).1 2
    have e3 := (cells_of G1.out).1 3
    have e4 := (cells_of G1.out).1 4
    simp at e0 e1 e2 e3 e4
    go_wp2_with fail
    refine (eqGraph_same (⟨rs, rp, rv, rl, rb⟩ : Gr) _ _ _ _ _ HI.out (GrKeeps.stays HS.out BS.out)).mono ?_
    rintro yn wn ⟨rfl, beln⟩
    have LN : Hid (w8.heap.size < wn.heap.size) := Nat.lt_of_lt_of_le (Array.getElem?_eq_some_iff.1 G1.out).1 beln.size
    replace HW := hideP (below_trans HW.out beln)
    replace P0 := hideP (keep P0.out beln)
    replace BS := hideP (below_trans BS.out beln)
    replace G1 := hideP (keep G1.out beln)
    replace HI := hideP (GrKeeps.stays HI.out beln)
    replace HO := hideP (HO.out.stays beln)
    clear beln hkm d0 d1 d2 d3 d4 e0 e1 e2 e3 e4 LG HI
    have e0 := (cells_of G1.out).1 0
    have e1 := (cells_of G1.out).1 1
    have e2 := (cells_of G1.out).1 2
    have e3 := (cells_of G1.out).1 3
    have e4 := (cells_of G1.out).1 4
    simp at e0 e1 e2 e3 e4
    obtain ⟨K, hK⟩ : ∃ K, 1 + (grL S gb go gc).length = K := ⟨_, rfl⟩
    have MG : Hid (∀ W, GOwn W #[.slice us8 rs.length cs8, .int .i64 rp, .int .i64 rv, .int .i64 rl, .slice ub8 rb.length cb8] S gb go gc → Calls Try.prog 9 #[.agg #[.slice us8 rs.length cs8, .int .i64 rp, .int .i64 rv, .int .i64 rl, .slice ub8 rb.length cb8], .int .i64 1] W fun en w' => en = .returned (.int .i64 (K : Int)) ∧ Mks W w' (grL S gb go gc) 1) := fun W hW => hK ▸ markGraph_mks W 1 _ S gb go gc hW (by omega) (by have := LEN.out; omega)
    have HG : Hid (∀ W, GOwn W #[.slice us8 rs.length cs8, .int .i64 rp, .int .i64 rv, .int .i64 rl, .slice ub8 rb.length cb8] S gb go gc → HereIs W (grL S gb go gc) 1 → Calls Try.prog 10 #[.agg #[.slice us8 rs.length cs8, .int .i64 rp, .int .i64 rv, .int .i64 rl, .slice ub8 rb.length cb8], .int .i64 1] W fun en w' => en = .returned (.int .i64 (K : Int)) ∧ Below W.heap.size W w') := fun W hW hE => hK ▸ heldGraph_mks W 1 _ S gb go gc hW hE (by omega) (by have := LEN.out; omega)
    clear hK
    go_wp2_with fail
    refine (MG.out _ HO.out).mono ?_
    rintro y7 w7 ⟨rfl, mk7⟩
    have hlo : ∀ c ∈ grL S gb go gc, wS.heap.size ≤ c.1 := fun c hc => by have := (LOW.out c hc).1; have := LX.out; simp at *; omega
    have hbl := mk7.below hlo (by have := LN.out; have := L8.out; have := LX.out; omega)
    replace HW := hideP (HW.out.trans (hbl.mono (Nat.le_of_lt LP.out)))
    replace P0 := hideP ((hbl.block w.heap.size LP.out).trans P0.out)
    replace BS := hideP (BS.out.trans hbl)
    replace G1 := hideP ((mk7.blk w8.heap.size LN.out (fun o t hm => by have := (LOW.out _ hm).2; simp at this)).trans G1.out)
    replace HO := hideP (HO.out.marked mk7)
    have HE := hideP (show HereIs _ _ _ from mk7.here)
    have hk0 : ¬ (K : Int) < 0 := by omega
    clear mk7 hlo hbl LN MG e0 e1 e2 e3 e4
    have e0 := (cells_of G1.out).1 0
    have e1 := (cells_of G1.out).1 1
    have e2 := (cells_of G1.out).1 2
    have e3 := (cells_of G1.out).1 3
    have e4 := (cells_of G1.out).1 4
    simp at e0 e1 e2 e3 e4
    go_wp2_with fail
    refine (HG.out _ HO.out HE.out).mono ?_
    rintro yh wh ⟨rfl, belh⟩
    replace HW := hideP (below_trans HW.out belh)
    replace P0 := hideP (keep P0.out belh)
    replace BS := hideP (below_trans BS.out belh)
    replace G1 := hideP (keep G1.out belh)
    replace HO := hideP (HO.out.stays belh)
    replace HE := hideP (HE.out.stays belh)
    clear belh e0 e1 e2 e3 e4
    have p0 := (cells_of P0.out).1 0
    have p1 := (cells_of P0.out).1 1
    have p2 := (cells_of P0.out).1 2
    have p3 := (cells_of P0.out).1 3
    have p4 := (cells_of P0.out).1 4
    simp at p0 p1 p2 p3 p4
    go_wp2_with fail
    refine (TO0.out _ HW.out).mono ?_
    rintro ya wa ⟨usizesaa, csizesaa, ublocksaa, cblocksaa, rfl, hxa, bela⟩
    have hposa : Hid (0 < wh.heap.size) := pos_of P0.out
    replace HW := hideP (below_trans HW.out bela)
    replace P0 := hideP (keep P0.out bela)
    replace BS := hideP (below_trans BS.out bela)
    replace G1 := hideP (keep G1.out bela)
    replace HO := hideP (HO.out.stays bela)
    replace HE := hideP (HE.out.stays bela)
    have HXA := hideP hxa
    clear hxa bela p0 p1 p2 p3 p4
    go_wp2_with fail
    refine (IO.out _ _ _ HW.out HXA.out hposa.out).mono ?_
    rintro yb wb ⟨vb, S2, b2, o2, c2, rfl, ib, _, _, _, belb⟩
    replace HW := hideP (below_trans HW.out belb)
    replace P0 := hideP (keep P0.out belb)
    replace BS := hideP (below_trans BS.out belb)
    replace G1 := hideP (keep G1.out belb)
    replace HO := hideP (HO.out.stays belb)
    replace HE := hideP (HE.out.stays belb)
    obtain ⟨usb, csb, ubb, cbb, rfl, _⟩ := id ib
    simp only at ib ⊢
    have alb := (Below.refl wb.heap.size wb).alloc (Nat.le_refl _) (.cells #[.slice usb rs.length csb, .int .i64 rp, .int .i64 rv, .int .i64 rl, .slice ubb rb.length cbb] 29)
    have HI := hideP (GrKeeps.stays ib alb)
    have G2 := hideP (blk_new wb (.cells #[.slice usb rs.length csb, .int .i64 rp, .int .i64 rv, .int .i64 rl, .slice ubb rb.length cbb] 29))
    replace HW := hideP (below_trans HW.out alb)
    replace P0 := hideP (keep P0.out alb)
    replace BS := hideP (below_trans BS.out alb)
    replace G1 := hideP (keep G1.out alb)
    replace HO := hideP (HO.out.stays alb)
    replace HE := hideP (HE.out.stays alb)
    clear ib belb alb HXA IO
    go_upto_region 25 with fail
    obtain ⟨wJ, hwJ⟩ : ∃ wJ, wb.alloc (.cells #[.slice usb rs.length csb, .int .i64 rp, .int .i64 rv, .int .i64 rl, .slice ubb rb.length cbb] 29) = wJ := ⟨_, rfl⟩
    rw [hwJ] at P0 BS G1 HO HE G2 HI HW ⊢
    clear hwJ
    have D0 := keep E4.out BS.out
    have d0 := (cells_of D0).1 0
    have d1 := (cells_of D0).1 1
    have d2 := (cells_of D0).1 2
    have d3 := (cells_of D0).1 3
    have d4 := (cells_of D0).1 4
    simp at d0 d1 d2 d3 d4
    clear D0
    have e0 := (cells_of G2.out).1 0
    have e1 := (cells_of G2.out).1 1
    have e2 := (cells_of G2.out).1 2
    have e3 := (cells_of G2.out).1 3
    have e4 := (cells_of G2.out).1 4
    simp at e0 e1 e2 e3 e4
    go_wp2_with fail
    refine (eqGraph_same (⟨rs, rp, rv, rl, rb⟩ : Gr) _ _ _ _ _ HI.out (GrKeeps.stays HS.out BS.out)).mono ?_
    rintro yc wc2 ⟨rfl, belc⟩
    replace HW := hideP (below_trans HW.out belc)
    replace P0 := hideP (keep P0.out belc)
    replace BS := hideP (below_trans BS.out belc)
    replace G1 := hideP (keep G1.out belc)
    replace HO := hideP (HO.out.stays belc)
    replace HE := hideP (HE.out.stays belc)
    replace G2 := hideP (keep G2.out belc)
    replace HI := hideP (GrKeeps.stays HI.out belc)
    clear belc d0 d1 d2 d3 d4 e0 e1 e2 e3 e4
    have e0 := (cells_of G1.out).1 0
    have e1 := (cells_of G1.out).1 1
    have e2 := (cells_of G1.out).1 2
    have e3 := (cells_of G1.out).1 3
    have e4 := (cells_of G1.out).1 4
    simp at e0 e1 e2 e3 e4
    go_wp2_with fail
    refine (HG.out _ HO.out HE.out).mono ?_
    rintro yd wd ⟨rfl, beld⟩
    replace HW := hideP (below_trans HW.out beld)
    replace P0 := hideP (keep P0.out beld)
    replace BS := hideP (below_trans BS.out beld)
    replace G1 := hideP (keep G1.out beld)
    replace HO := hideP (HO.out.stays beld)
    replace HE := hideP (HE.out.stays beld)
    replace G2 := hideP (keep G2.out beld)
    replace HI := hideP (GrKeeps.stays HI.out beld)
    clear beld e0 e1 e2 e3 e4
    go_wp2
    go_ret
    exact ⟨rfl, HW.out⟩
  · have E0 := hideP (szR_neg (Nat.lt_of_not_le hp0))
    clear hp0 h0 
    go_enter Try.func3, Try.ntmps3
    go_wp2_with fail
    refine (SP0.out _ ((Below.refl _ _).alloc (Nat.le_refl _) _)).mono ?_
    rintro y0 wz0 ⟨rfl, belz⟩
    rw [E0.out]
    have P0 := hideP (keep (blk_new w _) belz)
    have HW := hideP (below_new belz)
    clear belz SP0 E0
    go_wp2
    go_ret
    exact ⟨rfl, HW.out⟩
end ThreadsLaw
end Go.Proofs.Ytobpcfelgobedab
