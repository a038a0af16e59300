/- The walk of the law FnExactChain (written by wip/mklawl.py out of mklawi.py). -/
import Derived.Test.YtobpcfelgobedaaRChaI
import Derived.Test.YtobpcfelgobedaaRChaS
import Derived.Test.YtobpcfelgobedaaRGrOkI
import Derived.Test.YtobpcfelgobedaaRGrOkS
import Derived.Test.YtobpcfelgobedaaRMkAll
import Derived.Test.YtobpcfelgobedaaRShAll
import Derived.Deep.CutRange
import Derived.Deep.RegionHeld3
namespace Go.Proofs.YtobpcfelgobedaaR
open Go.ChangeShapes Go.WideShapes Go.ChangeAt Go.RowKit
namespace ChainLaw
theorem keep {W W' : World} {b : Nat} {o : Obj} (h : W.heap[b]? = some o) (bel : Below W.heap.size W W') : W'.heap[b]? = some o := (bel.block b (Array.getElem?_eq_some_iff.1 h).1).trans h
theorem blk_new (w : World) (o : Obj) : (w.alloc o).heap[w.heap.size]? = some o := by show (w.heap.push o)[w.heap.size]? = _; exact Array.getElem?_push_size
theorem pos_of {W : World} {b : Nat} {o : Obj} (h : W.heap[b]? = some o) : 0 < W.heap.size := Nat.lt_of_le_of_lt (Nat.zero_le _) (Array.getElem?_eq_some_iff.1 h).1
set_option maxRecDepth 100000 in
set_option maxHeartbeats 16000000 in
theorem walk (x0 : Gr) (v0 : Array Value) (L : List Int) (ul : Option Addr) (kl : Nat) (w : World) (h0 : GrIs w 0 v0 x0) (hLs : IntsIs w 0 ul L) (hI : ∀ z ∈ L, I64 z) :
    Calls Try.prog 5 #[.agg v0, .slice ul L.length kl] w fun en w' => en = .returned (.bool true) ∧ Below w.heap.size w w' := by
  obtain ⟨sizesa, paramsa, varsa, slotsa, blocksa⟩ := x0
  have g0 := h0
  obtain ⟨usizesa1, csizesa1, ublocksa1, cblocksa1, rfl, _⟩ := g0
  simp only at *
  have HLs := hideP hLs
  have HNI := hideP hI
  have hmL := maxLen_lt
  have hlL := hLs.1
  clear hLs hI
  rcases Nat.lt_or_ge 1048576 L.length with hLL | hLL
  · have hLn : (1048576 : Int) < (L.length : Int) := by omega
    go_enter Try.func5, Try.ntmps5
    go_wp2
    go_ret
    exact ⟨rfl, (Below.refl _ _).alloc (Nat.le_refl _) _⟩
  have hLn : ¬ (1048576 : Int) < (L.length : Int) := by omega
  have TO1 : Hid (∀ W, Below w.heap.size w W → Calls Try.prog 10 #[.slice ul L.length kl] W fun en w' => ∃ g, en = .returned (.slice (some ⟨g, 0, none⟩) L.length L.length) ∧ IntsIs w' W.heap.size (some ⟨g, 0, none⟩) L ∧ Below W.heap.size W w') := fun W hW => toIntS_any L W 0 ul kl (HLs.out.stays hW) hLL
  have SP0 : Hid (∀ W, Below w.heap.size w W → _) := fun W hW => szGraph_any (⟨sizesa, paramsa, varsa, slotsa, blocksa⟩ : Gr) W 0 _ 1048576 (GrKeeps.stays h0 hW) (by omega)
  by_cases hp0 : (⟨sizesa, paramsa, varsa, slotsa, blocksa⟩ : Gr).sz ≤ 1048576
  · obtain ⟨L1, hL1⟩ : ∃ L, 1048576 - (⟨sizesa, paramsa, varsa, slotsa, blocksa⟩ : Gr).sz = L := ⟨_, rfl⟩
    have TO0 := hideP (toGraph_in w 0 _ h0 (by omega))
    have HSZ := hideP hp0
    obtain ⟨l, hl⟩ : ∃ l, chainP ⟨sizesa, paramsa, varsa, slotsa, blocksa⟩ L = l := ⟨_, rfl⟩
    have hlen : Hid (l.length ≤ 1000000) := by rw [← hl]; exact Nat.le_trans (chainP_few _ _ (fun h => (grOk_blocks h).2)) (by omega)
    have SO : Hid (∀ W A0 x0 A1 u1, Below w.heap.size w W → GrIs W A0 x0 (⟨sizesa, paramsa, varsa, slotsa, blocksa⟩ : Gr) → IntsIs W A1 u1 L → Calls Try.prog 19 #[.agg x0, .slice u1 L.length L.length] W fun en w' => ∃ v', en = .returned v' ∧ OwnI w' W.heap.size v' l ∧ Below W.heap.size W w') := fun W A0 x0 A1 u1 hbw y0 yl => by rw [← hl]; exact spec_chain _ L W A0 A1 x0 u1 _ y0 yl (fun W A v h => spec_graphOk _ W A v h hp0)
    have IO : Hid (∀ W A0 x0 A1 u1, Below w.heap.size w W → GrIs W A0 x0 (⟨sizesa, paramsa, varsa, slotsa, blocksa⟩ : Gr) → IntsIs W A1 u1 L → 0 < A0 → Calls Try.prog 20 #[.agg x0, .slice u1 L.length L.length] W fun en w' => ∃ v', en = .returned v' ∧ OwnI w' W.heap.size v' l ∧ Below W.heap.size W w') := fun W A0 x0 A1 u1 hbw y0 yl hpos => by rw [← hl]; exact impl_chain _ L W A0 A1 x0 u1 _ y0 yl (fun W A v h => impl_graphOk _ W A v h)
    have E0 := hideP (szR_pos hp0)
    have HL1 := hideP hL1
    clear hl hp0 h0 hL1
    go_enter Try.func5, Try.ntmps5
    go_wp2_with fail
    refine (SP0.out _ ((Below.refl _ _).alloc (Nat.le_refl _) _)).mono ?_
    rintro y0 wz0 ⟨rfl, belz⟩
    rw [E0.out, HL1.out]
    have P0 := hideP (keep (blk_new w _) belz)
    have HW := hideP (below_new belz)
    clear belz SP0 E0
    have p0 := (cells_of P0.out).1 0
    have p1 := (cells_of P0.out).1 1
    have p2 := (cells_of P0.out).1 2
    have p3 := (cells_of P0.out).1 3
    have p4 := (cells_of P0.out).1 4
    simp at p0 p1 p2 p3 p4
    go_wp2_with fail
    refine (TO0.out _ HW.out).mono ?_
    rintro y3 w3 ⟨usizesa3, csizesa3, ublocksa3, cblocksa3, rfl, hx3, bel3⟩
    replace HW := hideP (below_trans HW.out bel3)
    replace P0 := hideP (keep P0.out bel3)
    have HX3 := hideP hx3
    clear hx3 bel3 p0 p1 p2 p3 p4
    go_wp2_with fail
    refine (TO1.out _ HW.out).mono ?_
    rintro yl3 wl3 ⟨gl3, rfl, hl3, bel3⟩
    replace HW := hideP (below_trans HW.out bel3)
    replace P0 := hideP (keep P0.out bel3)
    replace HX3 := hideP (GrKeeps.stays HX3.out bel3)
    have HL3 := hideP hl3
    clear hl3 bel3
    go_wp2_with fail
    refine (SO.out _ _ _ _ _ HW.out HX3.out HL3.out).mono ?_
    rintro y4 w4 ⟨v4, rfl, o4, bel4⟩
    replace HW := hideP (below_trans HW.out bel4)
    replace P0 := hideP (keep P0.out bel4)
    obtain ⟨gs, cs, rfl, _⟩ := id o4
    have OS := hideP (o4.mono (Nat.zero_le _))
    have LS := hideP (o4.low gs rfl).2
    clear o4 bel4 HX3 SO
    have hpos : Hid (0 < w4.heap.size) := pos_of P0.out
    have LP : Hid (w.heap.size < w4.heap.size) := (Array.getElem?_eq_some_iff.1 P0.out).1
    have p0 := (cells_of P0.out).1 0
    have p1 := (cells_of P0.out).1 1
    have p2 := (cells_of P0.out).1 2
    have p3 := (cells_of P0.out).1 3
    have p4 := (cells_of P0.out).1 4
    simp at p0 p1 p2 p3 p4
    go_wp2_with fail
    refine (TO0.out _ HW.out).mono ?_
    rintro yx0 wx0 ⟨usizesax, csizesax, ublocksax, cblocksax, rfl, hx, bel⟩
    replace HW := hideP (below_trans HW.out bel)
    replace P0 := hideP (keep P0.out bel)
    replace OS := hideP (OS.out.stays bel)
    have LX : Hid (w4.heap.size ≤ wx0.heap.size) := bel.size
    have al := (Below.refl wx0.heap.size wx0).alloc (Nat.le_refl _) (.cells #[.slice usizesax sizesa.length csizesax, .int .i64 paramsa, .int .i64 varsa, .int .i64 slotsa, .slice ublocksax blocksa.length cblocksax] 30)
    have G0 := hideP (blk_new wx0 (.cells #[.slice usizesax sizesa.length csizesax, .int .i64 paramsa, .int .i64 varsa, .int .i64 slotsa, .slice ublocksax blocksa.length cblocksax] 30))
    have HX0 := hideP (GrKeeps.stays hx al)
    have RM := hideP ((GrRoom.of hx hpos.out).stays al)
    replace HW := hideP (below_trans HW.out al)
    replace P0 := hideP (keep P0.out al)
    replace OS := hideP (OS.out.stays al)
    clear hx bel al p0 p1 p2 p3 p4
    go_wp2_with fail
    refine (TO1.out _ HW.out).mono ?_
    rintro ylx wlx ⟨glx, rfl, hlx, belx⟩
    replace HW := hideP (below_trans HW.out belx)
    replace P0 := hideP (keep P0.out belx)
    replace OS := hideP (OS.out.stays belx)
    replace G0 := hideP (keep G0.out belx)
    replace HX0 := hideP (GrKeeps.stays HX0.out belx)
    replace RM := hideP (RM.out.stays belx)
    obtain ⟨BL, hlx, hBL1, hBL2⟩ : ∃ BL, IntsIs wlx BL (some ⟨glx, 0, none⟩) L ∧ wx0.heap.size < BL ∧ BL ≤ wlx.heap.size := ⟨_, hlx, by simp, belx.size⟩
    have HLX := hideP hlx
    have RL := hideP (IntRoom.of hlx (by omega))
    have LB1 : Hid (wx0.heap.size < BL) := hBL1
    have LB2 : Hid (BL ≤ wlx.heap.size) := hBL2
    have BX := hideP (Below.refl wlx.heap.size wlx)
    clear hlx belx hBL1 hBL2
    have g0_0 := (cells_of G0.out).1 0
    have g0_1 := (cells_of G0.out).1 1
    have g0_2 := (cells_of G0.out).1 2
    have g0_3 := (cells_of G0.out).1 3
    have g0_4 := (cells_of G0.out).1 4
    simp at g0_0 g0_1 g0_2 g0_3 g0_4
    go_wp2_with fail
    refine (IO.out _ _ _ _ _ HW.out HX0.out HLX.out hpos.out).mono ?_
    rintro y8 w8 ⟨v8, rfl, o8, bel8⟩
    replace HW := hideP (below_trans HW.out bel8)
    replace P0 := hideP (keep P0.out bel8)
    replace OS := hideP (OS.out.stays bel8)
    replace G0 := hideP (keep G0.out bel8)
    replace HX0 := hideP (GrKeeps.stays HX0.out bel8)
    replace RM := hideP (RM.out.stays bel8)
    replace HLX := hideP (HLX.out.stays bel8)
    replace RL := hideP (RL.out.stays bel8)
    replace BX := hideP (below_trans BX.out bel8)
    obtain ⟨gi, ci, rfl, _⟩ := id o8
    have LI2 : Hid (wlx.heap.size ≤ gi) := (o8.low gi rfl).1
    have LI : Hid (wx0.heap.size < gi) := by have := LI2.out; have := LB1.out; have := LB2.out; show _ < _; omega
    have OI := hideP (o8.mono (Nat.zero_le _))
    clear o8 bel8 g0_0 g0_1 g0_2 g0_3 g0_4
    go_wp2_with fail
    refine (eqIntS_same l _ _ _ _ _ _ _ OI.out.is.2 OS.out.is.2).mono ?_
    rintro y9 w9 ⟨rfl, bel9⟩
    replace HW := hideP (below_trans HW.out bel9)
    replace P0 := hideP (keep P0.out bel9)
    replace OS := hideP (OS.out.stays bel9)
    replace G0 := hideP (keep G0.out bel9)
    replace HX0 := hideP (GrKeeps.stays HX0.out bel9)
    replace RM := hideP (RM.out.stays bel9)
    replace HLX := hideP (HLX.out.stays bel9)
    replace RL := hideP (RL.out.stays bel9)
    replace BX := hideP (below_trans BX.out bel9)
    replace OI := hideP (OI.out.stays bel9)
    clear bel9
    go_upto_region 13 with fail
    go_cut [42] from 38 to 42 (fun sx wx => sx = .bool false ∧ Hid (Below w9.heap.size w9 wx))
    case first =>
      have e0 := (cells_of G0.out).1
      have l0 : wx0.heap.size < w9.heap.size := (Array.getElem?_eq_some_iff.1 G0.out).1
      have e1 := (cells_of P0.out).1
      have l1 : w.heap.size < w9.heap.size := (Array.getElem?_eq_some_iff.1 P0.out).1
      have SK : Hid (∀ W', Below w9.heap.size w9 W' → W'.cell? ⟨wx0.heap.size, 0, none⟩ = some (.slice usizesax sizesa.length csizesax) ∧ W'.cell? ⟨wx0.heap.size, 1, none⟩ = some (.int .i64 paramsa) ∧ W'.cell? ⟨wx0.heap.size, 2, none⟩ = some (.int .i64 varsa) ∧ W'.cell? ⟨wx0.heap.size, 3, none⟩ = some (.int .i64 slotsa) ∧ W'.cell? ⟨wx0.heap.size, 4, none⟩ = some (.slice ublocksax blocksa.length cblocksax) ∧ W'.cell? ⟨w.heap.size, 0, none⟩ = some (.slice usizesa1 sizesa.length csizesa1) ∧ W'.cell? ⟨w.heap.size, 1, none⟩ = some (.int .i64 paramsa) ∧ W'.cell? ⟨w.heap.size, 2, none⟩ = some (.int .i64 varsa) ∧ W'.cell? ⟨w.heap.size, 3, none⟩ = some (.int .i64 slotsa) ∧ W'.cell? ⟨w.heap.size, 4, none⟩ = some (.slice ublocksa1 blocksa.length cblocksa1)) := fun W' h => ⟨(h.cell (p := ⟨wx0.heap.size, 0, none⟩) l0).trans (e0 0), (h.cell (p := ⟨wx0.heap.size, 1, none⟩) l0).trans (e0 1), (h.cell (p := ⟨wx0.heap.size, 2, none⟩) l0).trans (e0 2), (h.cell (p := ⟨wx0.heap.size, 3, none⟩) l0).trans (e0 3), (h.cell (p := ⟨wx0.heap.size, 4, none⟩) l0).trans (e0 4), (h.cell (p := ⟨w.heap.size, 0, none⟩) l1).trans (e1 0), (h.cell (p := ⟨w.heap.size, 1, none⟩) l1).trans (e1 1), (h.cell (p := ⟨w.heap.size, 2, none⟩) l1).trans (e1 2), (h.cell (p := ⟨w.heap.size, 3, none⟩) l1).trans (e1 3), (h.cell (p := ⟨w.heap.size, 4, none⟩) l1).trans (e1 4)⟩
      clear e0 l0 e1 l1
      go_region_held3 (fun W' => W'.cell? ⟨wx0.heap.size, 0, none⟩ = some (.slice usizesax sizesa.length csizesax) ∧ W'.cell? ⟨wx0.heap.size, 1, none⟩ = some (.int .i64 paramsa) ∧ W'.cell? ⟨wx0.heap.size, 2, none⟩ = some (.int .i64 varsa) ∧ W'.cell? ⟨wx0.heap.size, 3, none⟩ = some (.int .i64 slotsa) ∧ W'.cell? ⟨wx0.heap.size, 4, none⟩ = some (.slice ublocksax blocksa.length cblocksax) ∧ W'.cell? ⟨w.heap.size, 0, none⟩ = some (.slice usizesa1 sizesa.length csizesa1) ∧ W'.cell? ⟨w.heap.size, 1, none⟩ = some (.int .i64 paramsa) ∧ W'.cell? ⟨w.heap.size, 2, none⟩ = some (.int .i64 varsa) ∧ W'.cell? ⟨w.heap.size, 3, none⟩ = some (.int .i64 slotsa) ∧ W'.cell? ⟨w.heap.size, 4, none⟩ = some (.slice ublocksa1 blocksa.length cblocksa1)) (first | exact SK.out _ (Below.refl _ _).drew | exact SK.out _ HBb.out | exact SK.out _ HBa.out) (first
          | (go_at_call 9; refine (TO0.out _ HW.out.drew).mono ?_; rintro yya wya ⟨usizesay, csizesay, ublocksay, cblocksay, rfl, hxa, bela⟩; have HY := hideP hxa; have HBa := hideP ((Below.refl w9.heap.size w9).drew.trans (bela.mono (Nat.le_refl _))); clear bela hxa)
          | (go_at_call 12; refine (eqGraph_same (⟨sizesa, paramsa, varsa, slotsa, blocksa⟩ : Gr) _ _ _ _ _ (GrKeeps.stays HX0.out HBa.out) HY.out).mono ?_; rintro yyb wyb ⟨rfl, belb⟩; have HBb := hideP (HBa.out.trans (belb.mono HBa.out.size)); clear belb))
      all_goals (go_wp2_with fail; go_meet; exact ⟨rfl, HBb⟩)
    case rest =>
    obtain ⟨rfl, hc⟩ := hcut
    replace HW := hideP (below_trans HW.out hc.out)
    replace P0 := hideP (keep P0.out hc.out)
    replace OS := hideP (OS.out.stays hc.out)
    replace G0 := hideP (keep G0.out hc.out)
    replace HX0 := hideP (GrKeeps.stays HX0.out hc.out)
    replace RM := hideP (RM.out.stays hc.out)
    replace HLX := hideP (HLX.out.stays hc.out)
    replace RL := hideP (RL.out.stays hc.out)
    replace BX := hideP (below_trans BX.out hc.out)
    replace OI := hideP (OI.out.stays hc.out)
    clear hc
    obtain ⟨wd, hwd⟩ : ∃ wd, wc = wd := ⟨_, rfl⟩
    subst hwd
    go_wp2_with fail
    refine (TO1.out _ HW.out).mono ?_
    rintro ylz wlz ⟨glz, rfl, hlz, belz⟩
    replace HW := hideP (below_trans HW.out belz)
    replace P0 := hideP (keep P0.out belz)
    replace OS := hideP (OS.out.stays belz)
    replace G0 := hideP (keep G0.out belz)
    replace HX0 := hideP (GrKeeps.stays HX0.out belz)
    replace RM := hideP (RM.out.stays belz)
    replace OI := hideP (OI.out.stays belz)
    replace HLX := hideP (HLX.out.stays belz)
    replace RL := hideP (RL.out.stays belz)
    replace BX := hideP (below_trans BX.out belz)
    have HLZ := hideP hlz
    clear hlz belz
    go_wp2_with fail
    refine (eqIntS_same L _ _ _ _ _ _ _ HLX.out HLZ.out).mono ?_
    rintro yle wle ⟨rfl, bele⟩
    replace HW := hideP (below_trans HW.out bele)
    replace P0 := hideP (keep P0.out bele)
    replace OS := hideP (OS.out.stays bele)
    replace G0 := hideP (keep G0.out bele)
    replace HX0 := hideP (GrKeeps.stays HX0.out bele)
    replace RM := hideP (RM.out.stays bele)
    replace OI := hideP (OI.out.stays bele)
    replace HLX := hideP (HLX.out.stays bele)
    replace RL := hideP (RL.out.stays bele)
    replace BX := hideP (below_trans BX.out bele)
    clear bele HLZ
    clear HX0
    have g0_0 := (cells_of G0.out).1 0
    have g0_1 := (cells_of G0.out).1 1
    have g0_2 := (cells_of G0.out).1 2
    have g0_3 := (cells_of G0.out).1 3
    have g0_4 := (cells_of G0.out).1 4
    simp at g0_0 g0_1 g0_2 g0_3 g0_4
    have LWL : Hid (wlx.heap.size ≤ wle.heap.size) := BX.out.size
    have LG : Hid (wx0.heap.size < wle.heap.size) := (Array.getElem?_eq_some_iff.1 G0.out).1
    go_wp2_with fail
    refine (markGraph_roomK (⟨sizesa, paramsa, varsa, slotsa, blocksa⟩ : Gr) _ _ _ _ RM.out (Nat.le_of_lt LG.out) HSZ.out).mono ?_
    rintro ym wm ⟨km, rfl, hkb, om⟩
    replace HW := hideP (HW.out.trans ((om.below (by have := LX.out; have := LG.out; omega)).mono (Nat.le_of_lt LP.out)))
    replace P0 := hideP ((om.out w.heap.size (Array.getElem?_eq_some_iff.1 P0.out).1 (Or.inl LP.out)).trans P0.out)
    replace OS := hideP (OS.out.over om (fun g hg => Or.inl (by have := own_blk hg; subst this; exact LS.out)))
    replace OI := hideP (OI.out.over om (fun g hg => Or.inr (by have := own_blk hg; subst this; exact Nat.le_of_lt LI.out)))
    replace RL := hideP (RL.out.overA om)
    have om2 : Hid (wle.heap.size ≤ wm.heap.size) := om.size
    have hkm : ¬ (km : Int) < 0 := by omega
    clear om RM G0 LG g0_0 g0_1 g0_2 g0_3 g0_4
    go_wp2_with fail
    refine (markIntS_room L.length _ _ _ km _ _ RL.out (by omega)).mono ?_
    rintro yml wml ⟨rfl, oml⟩
    replace HW := hideP (HW.out.trans ((oml.below (by have := LP.out; have := LX.out; have := LB1.out; have := LB2.out; have := LWL.out; have := om2.out; omega)).mono (by have := LP.out; have := LX.out; have := LB1.out; omega)))
    replace P0 := hideP ((oml.out w.heap.size (Array.getElem?_eq_some_iff.1 P0.out).1 (Or.inl (by have := LP.out; have := LX.out; have := LB1.out; omega))).trans P0.out)
    replace OS := hideP (OS.out.over oml (fun g hg => Or.inl (by have := own_blk hg; subst this; have := LS.out; have := LX.out; have := LB1.out; omega)))
    replace OI := hideP (OI.out.over oml (fun g hg => Or.inr (by have := own_blk hg; subst this; exact LI2.out)))
    have hkm2 : ¬ ((km + L.length : Nat) : Int) < 0 := by omega
    clear oml RL
    go_wp2_with fail
    refine (eqIntS_same l _ _ _ _ _ _ _ OI.out.is.2 OS.out.is.2).mono ?_
    rintro yn wn ⟨rfl, beln⟩
    replace HW := hideP (below_trans HW.out beln)
    replace P0 := hideP (keep P0.out beln)
    replace OS := hideP (OS.out.stays beln)
    replace OI := hideP (OI.out.stays beln)
    clear beln hkm hkm2
    go_wp2_with fail
    refine (markIntS_any l _ 0 1 _ OI.out (by omega) (by have := hlen.out; omega)).mono ?_
    rintro y7 w7 ⟨rfl, o7, g7, hg7, but7⟩
    have hgi := own_blk hg7
    subst hgi
    replace OI := hideP o7
    replace OS := hideP (OS.out.butG but7 (by have := LI.out; have := LS.out; have := LX.out; simp [Value.ownBlock]; omega))
    replace P0 := hideP ((but7.block w.heap.size (Array.getElem?_eq_some_iff.1 P0.out).1 (by have := LI.out; have := LP.out; have := LX.out; omega)).trans P0.out)
    replace HW := hideP (HW.out.trans (but7.below (B := w.heap.size) (by have := LI.out; have := LP.out; have := LX.out; omega) HW.out.size))
    clear o7 hg7 but7
    go_wp2_with fail
    refine (heldIntS_any l.length _ 0 1 _ OI.out (by omega) (by have := hlen.out; omega)).mono ?_
    rintro yh wh ⟨rfl, rfl⟩
    have hk : Hid (((1 + l.length : Nat) : Int) = 1 + (l.length : Int)) := by show _ = _; omega
    have hk0 : ¬ ((1 + l.length : Nat) : Int) < 0 := by omega
    have p0 := (cells_of P0.out).1 0
    have p1 := (cells_of P0.out).1 1
    have p2 := (cells_of P0.out).1 2
    have p3 := (cells_of P0.out).1 3
    have p4 := (cells_of P0.out).1 4
    simp at p0 p1 p2 p3 p4
    go_wp2_with fail
    refine (TO0.out _ HW.out).mono ?_
    rintro ya wa ⟨usizesaa, csizesaa, ublocksaa, cblocksaa, rfl, hxa, bela⟩
    have hposa : Hid (0 < wh.heap.size) := pos_of P0.out
    replace HW := hideP (below_trans HW.out bela)
    replace P0 := hideP (keep P0.out bela)
    replace OS := hideP (OS.out.stays bela)
    replace OI := hideP (OI.out.stays bela)
    have HXA := hideP hxa
    clear hxa bela p0 p1 p2 p3 p4
    go_wp2_with fail
    refine (TO1.out _ HW.out).mono ?_
    rintro yla wla ⟨gla, rfl, hla, bela⟩
    replace HW := hideP (below_trans HW.out bela)
    replace P0 := hideP (keep P0.out bela)
    replace OS := hideP (OS.out.stays bela)
    replace OI := hideP (OI.out.stays bela)
    replace HXA := hideP (GrKeeps.stays HXA.out bela)
    have HLA := hideP hla
    clear hla bela
    go_wp2_with fail
    refine (IO.out _ _ _ _ _ HW.out HXA.out HLA.out hposa.out).mono ?_
    rintro yb wb ⟨vb, rfl, ob, belb⟩
    replace HW := hideP (below_trans HW.out belb)
    replace P0 := hideP (keep P0.out belb)
    replace OS := hideP (OS.out.stays belb)
    replace OI := hideP (OI.out.stays belb)
    obtain ⟨gb, cb, rfl, _⟩ := id ob
    have OB := hideP ob
    clear ob belb HXA IO
    go_wp2_with fail
    refine (eqIntS_same l _ _ _ _ _ _ _ OB.out.is.2 OS.out.is.2).mono ?_
    rintro yc wc2 ⟨rfl, belc⟩
    replace HW := hideP (below_trans HW.out belc)
    replace P0 := hideP (keep P0.out belc)
    replace OS := hideP (OS.out.stays belc)
    replace OI := hideP (OI.out.stays belc)
    clear belc OB
    go_wp2_with fail
    refine (heldIntS_any l.length _ 0 1 _ OI.out (by omega) (by have := hlen.out; omega)).mono ?_
    rintro yd wd ⟨rfl, rfl⟩
    go_wp2
    go_ret
    exact ⟨rfl, HW.out⟩
  · have E0 := hideP (szR_neg (Nat.lt_of_not_le hp0))
    clear hp0 h0 
    go_enter Try.func5, Try.ntmps5
    go_wp2_with fail
    refine (SP0.out _ ((Below.refl _ _).alloc (Nat.le_refl _) _)).mono ?_
    rintro y0 wz0 ⟨rfl, belz⟩
    rw [E0.out]
    have P0 := hideP (keep (blk_new w _) belz)
    have HW := hideP (below_new belz)
    clear belz SP0 E0
    go_wp2
    go_ret
    exact ⟨rfl, HW.out⟩
end ChainLaw
end Go.Proofs.YtobpcfelgobedaaR
