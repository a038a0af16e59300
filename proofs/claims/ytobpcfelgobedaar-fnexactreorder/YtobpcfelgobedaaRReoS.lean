/- The contract of spec.Reorder (written by wip/mkreos.py). -/
import Derived.Test.YtobpcfelgobedaaRPlR
import Derived.Test.YtobpcfelgobedaaRTruO
import Derived.Test.YtobpcfelgobedaaRL04
import Derived.Test.YtobpcfelgobedaaRZerosS
import Derived.Test.YtobpcfelgobedaaRWithB
import Derived.Deep.RegionHeld3
import Derived.Conc.WalkWords
import Derived.Laws.Tables
import Derived.Deep.WholeRow
import Derived.Laws.ByValue
namespace Go.Proofs.YtobpcfelgobedaaR
open Go.ChangeShapes Go.WideShapes Go.ChangeAt Go.RowKit
theorem setRow_newR {W : World} {n : Nat} (h : W.heap.size = n) (c c' : Array Value) (t : TypeId) : (W.alloc (.cells c t)).setRow n c' = W.alloc (.cells c' t) := by subst h; exact World.setRow_alloc_new W c c' t
theorem heap_newR {W : World} {n : Nat} (h : W.heap.size = n) (o : Obj) : (W.alloc o).heap[n]? = some o := by subst h; exact heap_alloc_last W o
/-- The new numbers lie at the beginning of block g. -/
def NumR (w : World) (g : Nat) (l : List Int) : Prop := ∃ cur, w.heap[g]? = some (.cells cur 3 (0, 0)) ∧ l.length ≤ cur.size ∧ ∀ i (h : i < l.length), cur[i]? = some (.int .i64 l[i])
theorem NumR.at {w : World} {g : Nat} {l : List Int} (h : NumR w g l) {i : Nat} (hi : i < l.length) : w.cell? ⟨g, i, none⟩ = some (.int .i64 (l[i]!)) ∧ w.frozen? ⟨g, i, none⟩ = false := by
  obtain ⟨cur, h1, h2, h3⟩ := h
  exact ⟨by simp only [World.cell?, h1, getElem!_pos l i hi]; exact h3 i hi, by simp [World.frozen?, h1]⟩
theorem NumR.set {w : World} {g : Nat} {l : List Int} (h : NumR w g l) (k : Nat) (z : Int) : NumR (w.setCell ⟨g, k, none⟩ (.int .i64 z)) g (l.set k z) := by
  obtain ⟨cur, h1, h2, h3⟩ := h
  refine ⟨cur.setIfInBounds k (.int .i64 z), heap_setCell_same w g k cur _ _ h1, by simpa using h2, fun i hi => ?_⟩
  rw [List.length_set] at hi
  rw [Array.getElem?_setIfInBounds, List.getElem_set]
  split
  · rename_i e
    subst e
    rw [if_pos (by omega)]
  · exact h3 i hi
theorem NumR.keep {w w' : World} {g : Nat} {l : List Int} (h : NumR w g l) (hk : w'.heap[g]? = w.heap[g]?) : NumR w' g l :=
  let ⟨cur, h1, h2⟩ := h
  ⟨cur, hk.trans h1, h2⟩
theorem NumR.lt {w : World} {g : Nat} {l : List Int} (h : NumR w g l) : g < w.heap.size := let ⟨_, h1, _⟩ := h; hltH h1
/-- The box of the copy, the new numbers, the blocks told so far. -/
structure RsAt (w1 : World) (bx : Array Value) (gN : Nat) (N : List Int) (qv : Value) (rows : List BRow) (W : World) : Prop where
  bel : Below w1.heap.size w1 W
  box : W.heap[w1.heap.size]? = some (.cells bx 30 (0, 0))
  num : NumR W gN N
  low : w1.heap.size < gN
  own : OwnE BlE W (w1.heap.size + 1) qv rows
section
variable {w1 W W' : World} {bx : Array Value} {gN : Nat} {N : List Int} {qv v' : Value} {rows rows' : List BRow}
theorem RsAt.big (h : RsAt w1 bx gN N qv rows W) : w1.heap.size + 1 ≤ W.heap.size := hltH h.box
theorem RsAt.stays (h : RsAt w1 bx gN N qv rows W) (b : Below W.heap.size W W') : RsAt w1 bx gN N qv rows W' :=
  ⟨below_trans h.bel b, (b.block _ (hltH h.box)).trans h.box, h.num.keep (b.block _ h.num.lt), h.low, h.own.stays b⟩
theorem RsAt.ne (h : RsAt w1 bx gN N qv rows W) : qv.ownBlock ≠ some gN := by
  obtain ⟨g, cap, cur, rfl, _, hh, _⟩ := h.own.parts BlE_ok
  obtain ⟨c, h1, _⟩ := h.num
  intro e
  have e : g = gN := by simpa [Value.ownBlock] using e
  subst e
  rw [h1] at hh
  injection hh with hh
  injection hh with _ h2
  exact absurd h2 (by decide)
theorem RsAt.grown (h : RsAt w1 bx gN N qv rows W) (o : OwnE BlE W' (w1.heap.size + 1) v' rows') (hg : W.grownBy W' qv.ownBlock) : RsAt w1 bx gN N v' rows' W' :=
  ⟨h.bel.grown hg h.bel.size (fun k hk => by have := h.own.low k hk; omega), (hg.block _ (hltH h.box) (fun e => by have := h.own.low _ e.symm; omega)).trans h.box, h.num.keep (hg.block _ h.num.lt (fun e => h.ne e.symm)), h.low, o⟩
end
theorem rows_isB {w W : World} {B B' g n k q : Nat} {bs : List Blk} {L : List Int} {rows : List BRow} (ho : OwnE BlE W B' (.slice (some ⟨g, 0, none⟩) n k) rows) (hr : RowsOk w B bs L rows) (hE : rows.length = L.length) (hn : L.length ≤ 300) (bel : But q w W) (hq : q < B) : SlIs BlkIs 5 W 0 (some ⟨g, 0, none⟩) (rowB bs L) := by
  have hm := maxLen_lt
  have hlen : (rowB bs L).length = L.length := by simp [rowB]
  obtain ⟨g', cap, cur, hv, _, hh, _, _, _, hx⟩ := ho.parts BlE_ok
  injection hv with e1
  injection e1 with e1
  injection e1 with e1
  subst e1
  refine ⟨by unfold maxLen; omega, fun i => (BlE.cs (rows[i]!)).toArray, Or.inr ⟨g, 0, rfl, Nat.zero_le _, hltH hh, fun h0 => absurd h0 (Nat.lt_irrefl _), fun i hi => ⟨rfl, fun j hj => ?_⟩⟩, fun i hi => ?_⟩
  · have := hx i (by omega) j hj
    simp only [World.cell?, hh, Nat.zero_add, getElem!_pos rows i (show i < rows.length by omega)]
    rw [show BlE.sz = 5 from rfl] at this
    simpa using this
  · have hi' : i < rows.length := by omega
    obtain ⟨h1, h2, h3⟩ := hr i hi'
    have e : (rowB bs L)[i] = rows[i].2.2 := by
      rw [h1]
      simp only [rowB, List.getElem_map, getElem!_pos L i (show i < L.length by omega)]
    rw [e]
    simp only [getElem!_pos rows i hi']
    exact ⟨_, _, rfl, h2, (h3.but InsKeeps hq bel).mono InsKeeps (Nat.zero_le _)⟩
set_option maxRecDepth 100000 in
set_option maxHeartbeats 8000000 in
theorem spec_reorder (x : Gr) (L : List Int) (w : World) (B B2 : Nat) (v : Array Value) (ul : Option Addr) (kl : Nat) (h : GrIs w B v x) (hL : IntsIs w B2 ul L) (GO : OkIs 26 x) (hf : Fits x) :
    Calls Try.prog 14 #[.agg v, .slice ul L.length kl] w fun en w' => ∃ v', en = .returned (.agg v') ∧ GrIs w' 0 v' (reoP x L) ∧ Below w.heap.size w w' := by
  have HG0 := hideP h
  have HL := hideP hL
  obtain ⟨y, hy⟩ : ∃ y, ordP x L = y := ⟨_, rfl⟩
  have HY := hideP hy
  have CY : Hid (∀ W, Below w.heap.size w W → Calls Try.prog 8 #[.agg v, .slice ul L.length kl] W fun en w' => en = .returned (.bool y) ∧ Below W.heap.size W w') := fun W hW => by rw [← hy]; exact spec_orderOk x L W B B2 v ul kl (GrKeeps.stays h hW) (hL.stays hW) GO
  have CC : Hid (∀ W, Below w.heap.size w W → Calls Try.prog 32 #[.agg v] W fun en w' => ∃ v', en = .returned (.agg v') ∧ GrIs w' W.heap.size v' x ∧ Below W.heap.size W w') := fun W hW => spec_copy x W B v (GrKeeps.stays h hW) hf
  obtain ⟨X, hX⟩ : ∃ X, reoP x L = X := ⟨_, rfl⟩
  have HX := hideP hX
  rw [hX]
  have hmL := maxLen_lt
  have hlL := hL.1
  clear hy hX GO hf hL
  obtain ⟨sizes, p, q, r, blocks⟩ := x
  obtain ⟨us, cs, ub, cb, rfl, _⟩ := h
  simp only at *
  have al := below2 w (.cells #[.slice us sizes.length cs, .int .i64 p, .int .i64 q, .int .i64 r, .slice ub blocks.length cb] 30) (.cells #[.slice none 0 0, .int .i64 0, .int .i64 0, .int .i64 0, .slice none 0 0] 30)
  have AL := hideP al
  have TW := hideP (fun w1 => two (w := w) (w1 := w1) (o1 := .cells #[.slice us sizes.length cs, .int .i64 p, .int .i64 q, .int .i64 r, .slice ub blocks.length cb] 30) (o2 := .cells #[.slice none 0 0, .int .i64 0, .int .i64 0, .int .i64 0, .slice none 0 0] 30))
  have hz2 : ((w.alloc (.cells #[.slice us sizes.length cs, .int .i64 p, .int .i64 q, .int .i64 r, .slice ub blocks.length cb] 30)).alloc (.cells #[.slice none 0 0, .int .i64 0, .int .i64 0, .int .i64 0, .slice none 0 0] 30)).heap.size = w.heap.size + 2 := by simp
  have HZ2 := hideP hz2
  clear al hz2
  go_enter Try.func14, Try.ntmps14
  go_wp2_with fail
  refine (CC.out _ AL.out).mono ?_
  rintro e1 w1 ⟨v1, rfl, gi, bel1⟩
  obtain ⟨P1, RR, L1, hw⟩ := TW.out w1 bel1
  rw [HZ2.out] at gi
  obtain ⟨us1, cs1, ub1, cb1, rfl, hwf1, hs1, hb1⟩ := id gi
  simp only at gi hs1 hb1 hwf1 ⊢
  have al2 := (Below.refl w1.heap.size w1).alloc (Nat.le_refl _) (.cells #[.slice us1 sizes.length cs1, .int .i64 p, .int .i64 q, .int .i64 r, .slice ub1 blocks.length cb1] 30)
  have HWb := hideP (below_trans hw al2)
  have A2 := hideP al2
  have PP := hideP P1
  have RP := hideP RR
  have HW1 := hideP hw
  have P2 := hideP ((al2.block _ (hltH P1)).trans P1)
  have R2 := hideP ((al2.block _ (hltH RR)).trans RR)
  have O2 := hideP (blk_newG w1 (.cells #[.slice us1 sizes.length cs1, .int .i64 p, .int .i64 q, .int .i64 r, .slice ub1 blocks.length cb1] 30))
  have HS1 := hideP hs1
  have HB1 := hideP hb1
  have HWF := hideP hwf1
  have HG1 := hideP gi
  have L2 : w.heap.size + 2 ≤ w1.heap.size := by have := bel1.size; have := HZ2.out; omega
  clear bel1 P1 RR hw TW AL CC al2 gi hs1 hb1 hwf1 HZ2 L1
  go_upto_region 2 with fail
  obtain ⟨Wb, hWb⟩ : ∃ Wb, w1.alloc (.cells #[.slice us1 sizes.length cs1, .int .i64 p, .int .i64 q, .int .i64 r, .slice ub1 blocks.length cb1] 30) = Wb := ⟨_, rfl⟩
  rw [hWb] at HWb A2 P2 R2 O2 ⊢
  clear hWb
  have c0 := (cells_of P2.out).1 0
  have c1 := (cells_of P2.out).1 1
  have c2 := (cells_of P2.out).1 2
  have c3 := (cells_of P2.out).1 3
  have c4 := (cells_of P2.out).1 4
  simp at c0 c1 c2 c3 c4
  go_wp2_with fail
  refine (CY.out _ HWb.out).mono ?_
  rintro e2 w2 ⟨rfl, bel2⟩
  have B2' := hideP bel2
  clear CY c0 c1 c2 c3 c4
  have R3 := hideP ((bel2.block _ (hltH R2.out)).trans R2.out)
  have O3 := hideP ((bel2.block _ (hltH O2.out)).trans O2.out)
  have BE2 := hideP (below_trans A2.out bel2)
  clear bel2
  cases y with
  | false =>
    have E : Hid (X = ⟨sizes, p, q, r, blocks⟩) := by show _ = _; rw [← HX.out]; exact reoP_no HY.out
    have d0 := (cells_of O3.out).1 0
    have d1 := (cells_of O3.out).1 1
    have d2 := (cells_of O3.out).1 2
    have d3 := (cells_of O3.out).1 3
    have d4 := (cells_of O3.out).1 4
    simp at d0 d1 d2 d3 d4
    have r0 := (cells_of R3.out).1 0
    have r1 := (cells_of R3.out).1 1
    have r2 := (cells_of R3.out).1 2
    have r3 := (cells_of R3.out).1 3
    have r4 := (cells_of R3.out).1 4
    have rf := (cells_of R3.out).2
    simp at r0 r1 r2 r3 r4
    have z0 := heap_setCell_same w2 _ 0 _ _ (.slice us1 sizes.length cs1) R3.out
    have z1 := heap_setCell_same _ _ 1 _ _ (.int .i64 p) z0
    have z2 := heap_setCell_same _ _ 2 _ _ (.int .i64 q) z1
    have z3 := heap_setCell_same _ _ 3 _ _ (.int .i64 r) z2
    have z4 : (((((w2.setCell ⟨w.heap.size + 1, 0, none⟩ (.slice us1 sizes.length cs1)).setCell ⟨w.heap.size + 1, 1, none⟩ (.int .i64 p)).setCell ⟨w.heap.size + 1, 2, none⟩ (.int .i64 q)).setCell ⟨w.heap.size + 1, 3, none⟩ (.int .i64 r)).setCell ⟨w.heap.size + 1, 4, none⟩ (.slice ub1 blocks.length cb1)).heap[w.heap.size + 1]? = some (.cells #[.slice us1 sizes.length cs1, .int .i64 p, .int .i64 q, .int .i64 r, .slice ub1 blocks.length cb1] 30 (0, 0)) := heap_setCell_same _ _ 4 _ _ (.slice ub1 blocks.length cb1) z3
    have ZF := hideP z4
    have BU : Hid (But (w.heap.size + 1) w2 (((((w2.setCell ⟨w.heap.size + 1, 0, none⟩ (.slice us1 sizes.length cs1)).setCell ⟨w.heap.size + 1, 1, none⟩ (.int .i64 p)).setCell ⟨w.heap.size + 1, 2, none⟩ (.int .i64 q)).setCell ⟨w.heap.size + 1, 3, none⟩ (.int .i64 r)).setCell ⟨w.heap.size + 1, 4, none⟩ (.slice ub1 blocks.length cb1))) := (((((But.refl (w.heap.size + 1) w2).set 0 (.slice us1 sizes.length cs1)).set 1 (.int .i64 p)).set 2 (.int .i64 q)).set 3 (.int .i64 r)).set 4 (.slice ub1 blocks.length cb1)
    clear z0 z1 z2 z3 z4
    go_wp2
    refine bodyPost_ret (results_cell_row rfl _ _ (w.heap.size + 1) 30 #[.slice us1 sizes.length cs1, .int .i64 p, .int .i64 q, .int .i64 r, .slice ub1 blocks.length cb1] (0, 0) _ rfl ZF.out Try.underlying30 rfl (by kernel_rfl)) rfl ?_
    rw [E.out]
    have h3 := hltH R2.out
    have gw := GrKeeps.mono (GrKeeps.stays HG1.out BE2.out) (show w.heap.size + 2 ≤ w.heap.size + 2 by omega)
    exact ⟨_, rfl, GrKeeps.mono (GrKeeps.but gw (by omega) BU.out) (by omega), (HW1.out.trans (BE2.out.mono (by omega))).trans (BU.out.below (by omega) (by have := BE2.out.size; omega))⟩
  | true =>
    have hord := ordP_in HY.out
    have hok : Hid (grOk ⟨sizes, p, q, r, blocks⟩ = true) := ordP_gr HY.out
    have JT := hideP (fun (b : Blk) (hb : b ∈ blocks) => And.intro (jump_to hok.out hb) (And.intro (jump_els hok.out hb) (jump_three hok.out hb)))
    have E : Hid (X = ⟨sizes, p, q, r, rowB blocks L⟩) := by show _ = _; rw [← HX.out]; exact reoP_ok HY.out
    have HIN : Hid (Inn blocks.length L) := fun y hy => hord.2.2.2 y hy
    have hbl2 := grOk_blocks hok.out
    have HLB : Hid (L.length = blocks.length) := hord.1
    have hLn : L.length ≤ 300 := by have := HLB.out; simp only at hbl2; omega
    have hbl : blocks.length ≤ 300 := hbl2.2
    clear hord hbl2 HY HX
    go_wp2_with fail
    refine (zeros_any L.length _ (by omega)).mono ?_
    rintro e4 w4 ⟨v4, rfl, o4, bel4⟩
    obtain ⟨gN, kN, rfl, _⟩ := id o4
    rw [List.length_replicate] at o4 ⊢
    have hgN := o4.low gN rfl
    have N0 : Hid (NumR w4 gN (numF blocks.length L 0)) := by
      obtain ⟨g', cap', cur, hv, _, hh, hc, _, hcs, hx⟩ := o4.parts
      simp at hv
      obtain ⟨rfl, rfl⟩ := hv
      refine ⟨cur, hh, by rw [numF_len]; have := HLB.out; simp at hc; omega, fun i hi => ?_⟩
      rw [numF_len] at hi
      have := hx i (by have := HLB.out; simp; omega)
      simpa [numF] using this
    have O4 := hideP ((bel4.block _ (hltH O3.out)).trans O3.out)
    have R4 := hideP ((bel4.block _ (hltH R3.out)).trans R3.out)
    have BE4 := hideP (below_trans BE2.out bel4)
    have hlo : Hid (w1.heap.size < gN) := by have := hltH O3.out; show _ < _; omega
    clear o4 bel4 O3 R3 BE2 B2' hgN
    go_wp2
    go_loopg [7] L.length (fun gk ix wr => ∃ j : Nat, gk + j = L.length ∧ ix = .int .i64 (j : Nat) ∧ Hid (NumR wr gN (numF blocks.length L j)) ∧ Hid (But gN w4 wr))
    case atStart => exact ⟨0, by omega, rfl, N0.out, But.refl _ _⟩
    case round =>
      obtain ⟨j, hgk, rfl, hN, hB⟩ := hrel
      clear N0
      by_cases hlt : j < L.length
      · have hBel : Below w.heap.size w w4 := HW1.out.trans (BE4.out.mono (by omega))
        obtain ⟨bl, ol, rfl, _, hbl3, c0⟩ := (HL.out.stays hBel).get j hlt
        have hz := HIN.out _ (List.getElem_mem hlt)
        obtain ⟨z, hzl⟩ : ∃ z : Nat, L[j] = (z : Int) := ⟨L[j].toNat, by have := hz.1; omega⟩
        rw [hzl] at c0 hz
        have hzb : z < blocks.length := by have := hz.2; omega
        have hne : bl ≠ gN := by
          obtain ⟨b', o', he, _, hb', _⟩ := HL.out.get j hlt
          cases he
          have := hlo.out
          omega
        have c1 := (hB.out.cell hbl3 hne).trans c0
        obtain ⟨n0, f0⟩ := hN.out.at (i := z) (by rw [numF_len]; exact hzb)
        have N1 : Hid (NumR (wr.setCell ⟨gN, z, none⟩ (.int .i64 (j : Int))) gN (numF blocks.length L (j + 1))) := by
          have := hN.out.set z (j : Int)
          rw [numF, getElem!_pos L j hlt, hzl]
          exact this
        have B1' := hideP (hB.out.set z (.int .i64 (j : Int)))
        have hi1 : (z : Int) < (L.length : Int) := by have := HLB.out; omega
        have hi0 : (0 : Int) ≤ (z : Int) := by omega
        clear hzl hz hN hB c0 hBel
        go_wp2
        all_goals first | (exfalso; have := HLB.out; omega) | skip
        go_roundg (L.length - (j + 1))
        case rel => exact ⟨j + 1, by omega, by go_num, N1.out, B1'.out⟩
        case measure => omega
      · have hjn : j = L.length := by omega
        subst hjn
        obtain ⟨N, hN'⟩ : ∃ N, numF blocks.length L L.length = N := ⟨_, rfl⟩
        have hNl : N.length = blocks.length := by rw [← hN']; exact numF_len _ _ _
        have HN : Hid (∀ z ∈ N, I64 z) := by rw [← hN']; exact numF_i64 _ _ _ (by omega)
        rw [hN'] at hN
        have HNE := hideP hN'
        have T0 : Hid (RsAt w1 #[.slice us1 sizes.length cs1, .int .i64 p, .int .i64 q, .int .i64 r, .slice ub1 blocks.length cb1] gN N (.slice (some ⟨wr.heap.size, 0, none⟩) 0 0) [] (wr.alloc (.cells #[] 55))) := by
          have al := (Below.refl wr.heap.size wr).alloc (Nat.le_refl _) (.cells #[] 55)
          have hz := BE4.out.size
          have hz1 := hB.out.size
          have hlo1 := hlo.out
          have hO := hltH O4.out
          exact ⟨below_trans (BE4.out.trans (hB.out.below (by omega) hz)) al, (al.block _ (by omega)).trans ((hB.out.block _ hO (by omega)).trans O4.out), hN.out.keep (al.block _ hN.out.lt), hlo1, (own_nil BlE_ok wr wr.heap.size rfl).mono (by omega)⟩
        clear hN' hN hB O4 R4 BE4
        go_wp2
        go_loopg [8, 9] L.length (fun gk qv ix wr => ∃ rows : List BRow, gk + rows.length = L.length ∧ ix = .int .i64 (rows.length : Nat) ∧ Hid (RsAt w1 #[.slice us1 sizes.length cs1, .int .i64 p, .int .i64 q, .int .i64 r, .slice ub1 blocks.length cb1] gN N qv rows wr) ∧ Hid (RowsOk w1 (w.heap.size + 2) blocks L rows))
        case atStart => exact ⟨[], by simp, rfl, T0.out, fun i hi => absurd hi (Nat.not_lt_zero _)⟩
        case round =>
          obtain ⟨rows, hgk, rfl, hT, hR⟩ := hrel
          clear T0
          obtain ⟨gq, cq, rfl, _⟩ := id hT.out.own
          by_cases hlt : rows.length < L.length
          · have hBel : Hid (Below w.heap.size w wr) := HW1.out.trans (hT.out.bel.mono (by omega))
            obtain ⟨bl, ol, rfl, _, hbl3, c0⟩ := (HL.out.stays hBel.out).get rows.length hlt
            have hz := HIN.out _ (List.getElem_mem hlt)
            obtain ⟨z, hzl⟩ : ∃ z : Nat, L[rows.length] = (z : Int) := ⟨L[rows.length].toNat, by have := hz.1; omega⟩
            rw [hzl] at c0 hz
            have hzb : z < blocks.length := by have := hz.2; omega
            obtain ⟨b, o, code, jump, a, t0, els, ux, kx, rfl, _, hbb, hx, q0, q1, q2, q3, q4, hbX⟩ := Blk_get HB1.out z hzb
            have CI : Hid (SlIs InsIs 7 w1 (w.heap.size + 2) ux code) := by
              obtain ⟨uc, cc, e, _, hc⟩ := hbX
              simp at e
              rw [e.1]; exact hc
            have WF : Hid ((⟨code, jump, a, t0, els⟩ : Blk).wf) := by obtain ⟨_, _, _, hw, _⟩ := hbX; exact hw
            have EQ : Hid (∀ b', b' = reB N ⟨code, jump, a, t0, els⟩ → b' = reB (numF blocks.length L L.length) (blocks[(L[rows.length]!).toNat]!)) := fun b' hb' => by
              rw [hb', getElem!_pos L _ hlt, hzl, Int.toNat_natCast, getElem!_pos blocks z hzb, hx, HNE.out]
            have hj3 := JT.out blocks[z] (List.getElem_mem hzb)
            rw [hx] at hj3
            simp only at hj3
            have hrl : rows.length ≤ 300 := by omega
            have SK : Hid (∀ X, Below wr.heap.size wr X → X.cell? ⟨w1.heap.size, 4, none⟩ = some (.slice (some ⟨b, o, none⟩) blocks.length cb1) ∧ X.cell? ⟨bl, ol + rows.length, none⟩ = some (.int .i64 (z : Int)) ∧ X.cell? ⟨b, o + z * 5, none⟩ = some (.slice ux code.length kx) ∧ X.cell? ⟨b, o + z * 5 + 1, none⟩ = some (.int .i64 jump) ∧ X.cell? ⟨b, o + z * 5 + 2, none⟩ = some (.int .i64 a) ∧ X.cell? ⟨b, o + z * 5 + 3, none⟩ = some (.int .i64 t0) ∧ X.cell? ⟨b, o + z * 5 + 4, none⟩ = some (.int .i64 els)) := fun X hX => by
              have hb5 := below_trans hT.out.bel hX
              exact ⟨(cells_of ((hX.block _ (hltH hT.out.box)).trans hT.out.box)).1 4, (hX.cell (p := ⟨bl, ol + rows.length, none⟩) hbl3).trans c0, (hb5.cell (p := ⟨b, _, none⟩) hbb).trans q0, (hb5.cell (p := ⟨b, _, none⟩) hbb).trans q1, (hb5.cell (p := ⟨b, _, none⟩) hbb).trans q2, (hb5.cell (p := ⟨b, _, none⟩) hbb).trans q3, (hb5.cell (p := ⟨b, _, none⟩) hbb).trans q4⟩
            have i0 : (0 : Int) ≤ (rows.length : Int) := by omega
            have i1 : (rows.length : Int) < (L.length : Int) := by omega
            have i2 : (0 : Int) ≤ (z : Int) := by omega
            have i3 : (z : Int) < (blocks.length : Int) := by omega
            clear hx hzl hz hbX c0 q0 q1 q2 q3 q4
            go_upto_region 13 with fail
            refine wp_region_held_drew (S := fun X => X.cell? ⟨w1.heap.size, 4, none⟩ = some (.slice (some ⟨b, o, none⟩) blocks.length cb1) ∧ X.cell? ⟨bl, ol + rows.length, none⟩ = some (.int .i64 (z : Int)) ∧ X.cell? ⟨b, o + z * 5, none⟩ = some (.slice ux code.length kx) ∧ X.cell? ⟨b, o + z * 5 + 1, none⟩ = some (.int .i64 jump) ∧ X.cell? ⟨b, o + z * 5 + 2, none⟩ = some (.int .i64 a) ∧ X.cell? ⟨b, o + z * 5 + 3, none⟩ = some (.int .i64 t0) ∧ X.cell? ⟨b, o + z * 5 + 4, none⟩ = some (.int .i64 els)) (by kernel_rfl) (SK.out _ (Below.refl _ _).drew) (fun hHeld => ?_)
            refine wpAnyH_take (i := 0) (v := .pointer (some ⟨w1.heap.size, 4, none⟩)) rfl (by kernel_rfl) (by kernel_rfl) (by kernel_rfl) (fun _ _ _ h => h) (Or.inl ⟨by rfl, ?_⟩) hHeld ?_
            · rintro X ⟨hX, hX1, hX2, hX3, hX4, hX5, hX6⟩; go_simp
            walk_nrm
            refine wpAnyH_take (i := 1) (v := .slice (some ⟨b, o, none⟩) blocks.length cb1) rfl (by kernel_rfl) (by kernel_rfl) (by kernel_rfl) (fun _ _ _ h => h) (Or.inl ⟨by rfl, ?_⟩) hHeld ?_
            · rintro X ⟨hX, hX1, hX2, hX3, hX4, hX5, hX6⟩; go_simp
            walk_nrm
            refine wpAnyH_take (i := 2) (v := .slice (some ⟨bl, ol, none⟩) L.length kl) rfl (by kernel_rfl) (by kernel_rfl) (by kernel_rfl) (fun _ _ _ h => h) (Or.inl ⟨by rfl, ?_⟩) hHeld ?_
            · rintro X ⟨hX, hX1, hX2, hX3, hX4, hX5, hX6⟩; go_simp
            walk_nrm
            refine wpAnyH_take (i := 3) (v := .int .i64 (rows.length : Int)) rfl (by kernel_rfl) (by kernel_rfl) (by kernel_rfl) (fun _ _ _ h => h) (Or.inl ⟨by rfl, ?_⟩) hHeld ?_
            · rintro X ⟨hX, hX1, hX2, hX3, hX4, hX5, hX6⟩; go_simp
            walk_nrm
            refine wpAnyH_take (i := 4) (v := .pointer (some ⟨bl, ol + rows.length, none⟩)) rfl (by kernel_rfl) (by kernel_rfl) (by kernel_rfl) (fun _ _ _ h => h) (Or.inl ⟨by rfl, ?_⟩) hHeld ?_
            · rintro X ⟨hX, hX1, hX2, hX3, hX4, hX5, hX6⟩; go_simp; all_goals (intro hbad; exfalso; omega)
            walk_nrm
            refine wpAnyH_take (i := 5) (v := .int .i64 (z : Int)) rfl (by kernel_rfl) (by kernel_rfl) (by kernel_rfl) (fun _ _ _ h => h) (Or.inl ⟨by rfl, ?_⟩) hHeld ?_
            · rintro X ⟨hX, hX1, hX2, hX3, hX4, hX5, hX6⟩; go_simp
            walk_nrm
            refine wpAnyH_take (i := 6) (v := .pointer (some ⟨b, o + z * 5, none⟩)) rfl (by kernel_rfl) (by kernel_rfl) (by kernel_rfl) (fun _ _ _ h => h) (Or.inl ⟨by rfl, ?_⟩) hHeld ?_
            · rintro X ⟨hX, hX1, hX2, hX3, hX4, hX5, hX6⟩; go_simp; all_goals (intro hbad; exfalso; omega)
            walk_nrm
            refine wpAnyH_take (i := 7) (v := .agg #[.slice ux code.length kx, .int .i64 jump, .int .i64 a, .int .i64 t0, .int .i64 els]) rfl (by kernel_rfl) (by kernel_rfl) (by kernel_rfl) (fun _ _ _ h => h) (Or.inl ⟨by rfl, ?_⟩) hHeld ?_
            · rintro X ⟨hX, hX1, hX2, hX3, hX4, hX5, hX6⟩; go_simp
            walk_nrm
            obtain ⟨wd, hwd⟩ : ∃ wd, wr.drew = wd := ⟨_, rfl⟩
            have BD : Hid (Below wr.heap.size wr wd) := by rw [← hwd]; exact (Below.refl _ _).drew
            have SZD : wd.heap.size = wr.heap.size := by rw [← hwd]; rfl
            rw [hwd] at hHeld ⊢
            clear hwd
            refine wpAnyH_ready (rs := [8]) (by kernel_rfl) (by simp) ?_
            refine AllReadyH.cons rfl (fun K hK => ?_) (AllReadyH.nil)
            go_simp
            refine hK.out _ _ (SK.out _ (below_trans BD.out ((Below.refl _ _).alloc (Nat.le_refl _) _))) (fun hHeld => ?_)
            clear hK K
            walk_nrm
            refine wpAnyH_ready (rs := [9]) (by kernel_rfl) (by simp) ?_
            refine AllReadyH.cons rfl (fun K hK => ?_) (AllReadyH.nil)
            rw [if_pos (by rfl)]
            refine wp_store_row 55 _ _ rfl wr.heap.size _ rfl rfl 55 _ (heap_newR SZD _) (by kernel_rfl) rfl (by simp [Value.oneCell']) ?_
            rw [setRow_newR SZD]
            refine hK.out _ _ (SK.out _ (below_trans BD.out ((Below.refl _ _).alloc (Nat.le_refl _) _))) (fun hHeld => ?_)
            clear hK K
            walk_nrm
            refine wpAnyH_done (by kernel_rfl) ?_ _
            clear hHeld
            have hND : ∀ k, k < blocks.length → (wd.alloc (.cells #[.slice ux code.length kx, .int .i64 jump, .int .i64 a, .int .i64 t0, .int .i64 els] 55)).cell? ⟨gN, k, none⟩ = some (.int .i64 (N[k]!)) := fun k hk => by
              have hb6 : Below wr.heap.size wr (wd.alloc (.cells #[.slice ux code.length kx, .int .i64 jump, .int .i64 a, .int .i64 t0, .int .i64 els] 55)) := below_trans BD.out ((Below.refl _ _).alloc (Nat.le_refl _) _)
              exact ((hT.out.num.keep (hb6.block _ hT.out.num.lt)).at (by omega)).1
            have HND := hideP hND
            clear hND SK
            have hgx : gN ≠ wr.heap.size := by have := hT.out.num.lt; omega
            by_cases hj : jump = 1
            · subst hj
              have ht := hj3.1 (Or.inr rfl)
              have he := hj3.2.1 rfl
              obtain ⟨zt, rfl⟩ : ∃ zt : Nat, t0 = (zt : Int) := ⟨t0.toNat, by have := ht.1; omega⟩
              obtain ⟨ze, rfl⟩ : ∃ ze : Nat, els = (ze : Int) := ⟨els.toNat, by have := he.1; omega⟩
              have htb : zt < blocks.length := by have := ht.2; omega
              have heb : ze < blocks.length := by have := he.2; omega
              have nt := HND.out zt htb
              have ne := HND.out ze heb
              have RE : Hid ((⟨code, 1, a, N[zt]!, N[ze]!⟩ : Blk) = reB (numF blocks.length L L.length) (blocks[(L[rows.length]!).toNat]!) ∧ (⟨code, 1, a, N[zt]!, N[ze]!⟩ : Blk).wf) := ⟨EQ.out _ (by simp [reB]), ⟨WF.out.1, WF.out.2.1, HN.out _ (by rw [getElem!_pos N zt (by omega)]; exact List.getElem_mem _), HN.out _ (by rw [getElem!_pos N ze (by omega)]; exact List.getElem_mem _)⟩⟩
              obtain ⟨T, hTT⟩ : ∃ T, N[zt]! = T := ⟨_, rfl⟩
              obtain ⟨E', hEE⟩ : ∃ E', N[ze]! = E' := ⟨_, rfl⟩
              rw [hTT] at nt RE
              rw [hEE] at ne RE
              have ne2 : (wd.alloc (.cells #[.slice ux code.length kx, .int .i64 1, .int .i64 a, .int .i64 T, .int .i64 (ze : Int)] 55)).cell? ⟨gN, ze, none⟩ = some (.int .i64 E') := by
                rw [← hEE]
                exact ((hT.out.num.keep ((below_trans BD.out ((Below.refl _ _).alloc (Nat.le_refl _) _)).block _ hT.out.num.lt)).at (by omega)).1
              have k0 : (0 : Int) ≤ (zt : Int) := by omega
              have k1 : (zt : Int) < (L.length : Int) := by have := HLB.out; omega
              have k2 : (0 : Int) ≤ (ze : Int) := by omega
              have k3 : (ze : Int) < (L.length : Int) := by have := HLB.out; omega
              clear EQ WF hj3 hTT hEE HND
              have CB : Hid ((wd.alloc (.cells #[.slice ux code.length kx, .int .i64 1, .int .i64 a, .int .i64 T, .int .i64 E'] 55)).heap[wr.heap.size]? = some (.cells #[.slice ux code.length kx, .int .i64 1, .int .i64 a, .int .i64 T, .int .i64 E'] 55 (0, 0))) := heap_newR SZD _
              have BL : Hid (Below wr.heap.size wr (wd.alloc (.cells #[.slice ux code.length kx, .int .i64 1, .int .i64 a, .int .i64 T, .int .i64 E'] 55))) := below_trans BD.out ((Below.refl _ _).alloc (Nat.le_refl _) _)
              go_upto_region 18 with fail
              obtain ⟨wx, hwx⟩ : ∃ wx, wd.alloc (.cells #[.slice ux code.length kx, .int .i64 1, .int .i64 a, .int .i64 T, .int .i64 E'] 55) = wx := ⟨_, rfl⟩
              rw [hwx] at CB BL ⊢
              clear hwx
              have x0 := (cells_of CB.out).1 0
              have x1 := (cells_of CB.out).1 1
              have x2 := (cells_of CB.out).1 2
              have x3 := (cells_of CB.out).1 3
              have x4 := (cells_of CB.out).1 4
              simp at x0 x1 x2 x3 x4
              have al := (Below.refl wx.heap.size wx).alloc (Nat.le_refl _) (.cells #[.slice ux code.length kx, .int .i64 1, .int .i64 a, .int .i64 T, .int .i64 E'] 55)
              have CQ : Hid (∀ r, r < BlE.sz → (wx.alloc (.cells #[.slice ux code.length kx, .int .i64 1, .int .i64 a, .int .i64 T, .int .i64 E'] 55)).cell? ⟨wx.heap.size, 0 + r, none⟩ = (BlE.cs (ux, kx, (⟨code, 1, a, T, E'⟩ : Blk)))[r]?) := fun r _ => by
                have := (cells_of (heap_alloc_new wx (.cells #[.slice ux code.length kx, .int .i64 1, .int .i64 a, .int .i64 T, .int .i64 E'] 55))).1 r
                rw [Nat.zero_add, this]; simp [BlE]
              have TA := hideP ((hT.out.stays BL.out).stays al)
              have hsz1 : Hid (w1.heap.size + 1 ≤ (wx.alloc (.cells #[.slice ux code.length kx, .int .i64 1, .int .i64 a, .int .i64 T, .int .i64 E'] 55)).heap.size) := TA.out.big
              have RO := hideP (hR.out.snoc (x := (ux, kx, (⟨code, 1, a, T, E'⟩ : Blk))) RE.out.1 RE.out.2 CI.out)
              clear al BL CB hT hR
              go_upto_region 12 with (at_builtin; refine list_appE BlE_ok _ rfl _ _ rfl (w1.heap.size + 1) _ rows (ux, kx, (⟨code, 1, a, T, E'⟩ : Blk)) wx.heap.size 0 1 rfl rfl TA.out.own CQ.out (by omega) hsz1.out ?_; intro v6 w6 o6 grow6 loc6)
              have T6 := hideP (TA.out.grown o6 grow6)
              obtain ⟨g6, c6, rfl, _⟩ := id o6
              clear o6 grow6 loc6 TA CQ x0 x1 x2 x3 x4
              go_wp2
              go_roundg (L.length - (rows.length + 1))
              case rel => exact ⟨rows ++ [(ux, kx, (⟨code, 1, a, T, E'⟩ : Blk))], by simp; omega, by simp only [List.length_append, List.length_singleton]; go_num, T6.out, RO.out⟩
              case measure => omega
            · by_cases hj0 : jump = 0
              · subst hj0
                have ht := hj3.1 (Or.inl rfl)
                obtain ⟨zt, rfl⟩ : ∃ zt : Nat, t0 = (zt : Int) := ⟨t0.toNat, by have := ht.1; omega⟩
                have htb : zt < blocks.length := by have := ht.2; omega
                have nt := HND.out zt htb
                have RE : Hid ((⟨code, 0, a, N[zt]!, els⟩ : Blk) = reB (numF blocks.length L L.length) (blocks[(L[rows.length]!).toNat]!) ∧ (⟨code, 0, a, N[zt]!, els⟩ : Blk).wf) := ⟨EQ.out _ (by simp [reB]), ⟨WF.out.1, WF.out.2.1, HN.out _ (by rw [getElem!_pos N zt (by omega)]; exact List.getElem_mem _), WF.out.2.2.2⟩⟩
                obtain ⟨T, hTT⟩ : ∃ T, N[zt]! = T := ⟨_, rfl⟩
                rw [hTT] at nt RE
                have k0 : (0 : Int) ≤ (zt : Int) := by omega
                have k1 : (zt : Int) < (L.length : Int) := by have := HLB.out; omega
                clear EQ WF hj3 hTT HND
                have CB : Hid ((wd.alloc (.cells #[.slice ux code.length kx, .int .i64 0, .int .i64 a, .int .i64 T, .int .i64 els] 55)).heap[wr.heap.size]? = some (.cells #[.slice ux code.length kx, .int .i64 0, .int .i64 a, .int .i64 T, .int .i64 els] 55 (0, 0))) := heap_newR SZD _
                have BL : Hid (Below wr.heap.size wr (wd.alloc (.cells #[.slice ux code.length kx, .int .i64 0, .int .i64 a, .int .i64 T, .int .i64 els] 55))) := below_trans BD.out ((Below.refl _ _).alloc (Nat.le_refl _) _)
                go_upto_region 18 with fail
                obtain ⟨wx, hwx⟩ : ∃ wx, wd.alloc (.cells #[.slice ux code.length kx, .int .i64 0, .int .i64 a, .int .i64 T, .int .i64 els] 55) = wx := ⟨_, rfl⟩
                rw [hwx] at CB BL ⊢
                clear hwx
                have x0 := (cells_of CB.out).1 0
                have x1 := (cells_of CB.out).1 1
                have x2 := (cells_of CB.out).1 2
                have x3 := (cells_of CB.out).1 3
                have x4 := (cells_of CB.out).1 4
                simp at x0 x1 x2 x3 x4
                have al := (Below.refl wx.heap.size wx).alloc (Nat.le_refl _) (.cells #[.slice ux code.length kx, .int .i64 0, .int .i64 a, .int .i64 T, .int .i64 els] 55)
                have CQ : Hid (∀ r, r < BlE.sz → (wx.alloc (.cells #[.slice ux code.length kx, .int .i64 0, .int .i64 a, .int .i64 T, .int .i64 els] 55)).cell? ⟨wx.heap.size, 0 + r, none⟩ = (BlE.cs (ux, kx, (⟨code, 0, a, T, els⟩ : Blk)))[r]?) := fun r _ => by
                  have := (cells_of (heap_alloc_new wx (.cells #[.slice ux code.length kx, .int .i64 0, .int .i64 a, .int .i64 T, .int .i64 els] 55))).1 r
                  rw [Nat.zero_add, this]; simp [BlE]
                have TA := hideP ((hT.out.stays BL.out).stays al)
                have hsz1 : Hid (w1.heap.size + 1 ≤ (wx.alloc (.cells #[.slice ux code.length kx, .int .i64 0, .int .i64 a, .int .i64 T, .int .i64 els] 55)).heap.size) := TA.out.big
                have RO := hideP (hR.out.snoc (x := (ux, kx, (⟨code, 0, a, T, els⟩ : Blk))) RE.out.1 RE.out.2 CI.out)
                clear al BL CB hT hR
                go_upto_region 12 with (at_builtin; refine list_appE BlE_ok _ rfl _ _ rfl (w1.heap.size + 1) _ rows (ux, kx, (⟨code, 0, a, T, els⟩ : Blk)) wx.heap.size 0 1 rfl rfl TA.out.own CQ.out (by omega) hsz1.out ?_; intro v6 w6 o6 grow6 loc6)
                have T6 := hideP (TA.out.grown o6 grow6)
                obtain ⟨g6, c6, rfl, _⟩ := id o6
                clear o6 grow6 loc6 TA CQ x0 x1 x2 x3 x4
                go_wp2
                go_roundg (L.length - (rows.length + 1))
                case rel => exact ⟨rows ++ [(ux, kx, (⟨code, 0, a, T, els⟩ : Blk))], by simp; omega, by simp only [List.length_append, List.length_singleton]; go_num, T6.out, RO.out⟩
                case measure => omega
              · have hj2 : jump = 2 := (hj3.2.2.resolve_left hj0).resolve_left hj
                subst hj2
                have RE : Hid ((⟨code, 2, a, t0, els⟩ : Blk) = reB (numF blocks.length L L.length) (blocks[(L[rows.length]!).toNat]!) ∧ (⟨code, 2, a, t0, els⟩ : Blk).wf) := ⟨EQ.out _ (by simp [reB]), WF.out⟩
                clear EQ WF hj3 HND
                have CB : Hid ((wd.alloc (.cells #[.slice ux code.length kx, .int .i64 2, .int .i64 a, .int .i64 t0, .int .i64 els] 55)).heap[wr.heap.size]? = some (.cells #[.slice ux code.length kx, .int .i64 2, .int .i64 a, .int .i64 t0, .int .i64 els] 55 (0, 0))) := heap_newR SZD _
                have BL : Hid (Below wr.heap.size wr (wd.alloc (.cells #[.slice ux code.length kx, .int .i64 2, .int .i64 a, .int .i64 t0, .int .i64 els] 55))) := below_trans BD.out ((Below.refl _ _).alloc (Nat.le_refl _) _)
                go_upto_region 18 with fail
                obtain ⟨wx, hwx⟩ : ∃ wx, wd.alloc (.cells #[.slice ux code.length kx, .int .i64 2, .int .i64 a, .int .i64 t0, .int .i64 els] 55) = wx := ⟨_, rfl⟩
                rw [hwx] at CB BL ⊢
                clear hwx
                have x0 := (cells_of CB.out).1 0
                have x1 := (cells_of CB.out).1 1
                have x2 := (cells_of CB.out).1 2
                have x3 := (cells_of CB.out).1 3
                have x4 := (cells_of CB.out).1 4
                simp at x0 x1 x2 x3 x4
                have al := (Below.refl wx.heap.size wx).alloc (Nat.le_refl _) (.cells #[.slice ux code.length kx, .int .i64 2, .int .i64 a, .int .i64 t0, .int .i64 els] 55)
                have CQ : Hid (∀ r, r < BlE.sz → (wx.alloc (.cells #[.slice ux code.length kx, .int .i64 2, .int .i64 a, .int .i64 t0, .int .i64 els] 55)).cell? ⟨wx.heap.size, 0 + r, none⟩ = (BlE.cs (ux, kx, (⟨code, 2, a, t0, els⟩ : Blk)))[r]?) := fun r _ => by
                  have := (cells_of (heap_alloc_new wx (.cells #[.slice ux code.length kx, .int .i64 2, .int .i64 a, .int .i64 t0, .int .i64 els] 55))).1 r
                  rw [Nat.zero_add, this]; simp [BlE]
                have TA := hideP ((hT.out.stays BL.out).stays al)
                have hsz1 : Hid (w1.heap.size + 1 ≤ (wx.alloc (.cells #[.slice ux code.length kx, .int .i64 2, .int .i64 a, .int .i64 t0, .int .i64 els] 55)).heap.size) := TA.out.big
                have RO := hideP (hR.out.snoc (x := (ux, kx, (⟨code, 2, a, t0, els⟩ : Blk))) RE.out.1 RE.out.2 CI.out)
                clear al BL CB hT hR
                go_upto_region 12 with (at_builtin; refine list_appE BlE_ok _ rfl _ _ rfl (w1.heap.size + 1) _ rows (ux, kx, (⟨code, 2, a, t0, els⟩ : Blk)) wx.heap.size 0 1 rfl rfl TA.out.own CQ.out (by omega) hsz1.out ?_; intro v6 w6 o6 grow6 loc6)
                have T6 := hideP (TA.out.grown o6 grow6)
                obtain ⟨g6, c6, rfl, _⟩ := id o6
                clear o6 grow6 loc6 TA CQ x0 x1 x2 x3 x4
                go_wp2
                go_roundg (L.length - (rows.length + 1))
                case rel => exact ⟨rows ++ [(ux, kx, (⟨code, 2, a, t0, els⟩ : Blk))], by simp; omega, by simp only [List.length_append, List.length_singleton]; go_num, T6.out, RO.out⟩
                case measure => omega
          · have hE : rows.length = L.length := by omega
            have hX := hT.out.box
            have gsz := hT.out.own.low gq rfl
            have hRP := (hT.out.bel.block _ (hltH RP.out)).trans RP.out
            have OBX : Hid ((wr.setCell ⟨w1.heap.size, 4, none⟩ (.slice (some ⟨gq, 0, none⟩) rows.length cq)).heap[w1.heap.size]? = some (.cells #[.slice us1 sizes.length cs1, .int .i64 p, .int .i64 q, .int .i64 r, .slice (some ⟨gq, 0, none⟩) rows.length cq] 30 (0, 0))) := by
              have := heap_setCell_same wr w1.heap.size 4 _ _ (.slice (some ⟨gq, 0, none⟩) rows.length cq) hX
              show _ = _
              simpa using this
            have RBX : Hid ((wr.setCell ⟨w1.heap.size, 4, none⟩ (.slice (some ⟨gq, 0, none⟩) rows.length cq)).heap[w.heap.size + 1]? = some (.cells #[.slice none 0 0, .int .i64 0, .int .i64 0, .int .i64 0, .slice none 0 0] 30 (0, 0))) := (Below.heap_setCell wr ⟨w1.heap.size, 4, none⟩ _ _ (by show w.heap.size + 1 ≠ w1.heap.size; omega)).trans hRP
            have BT : Hid (But w1.heap.size wr (wr.setCell ⟨w1.heap.size, 4, none⟩ (.slice (some ⟨gq, 0, none⟩) rows.length cq))) := (But.refl _ _).set 4 _
            have BEL := hideP hT.out.bel
            have c4 := (cells_of hX).1 4
            have cf := (cells_of hX).2 4
            simp at c4
            have hRr : (rowB blocks L).length = rows.length := by rw [hE]; simp [rowB]
            have HRr := hideP hRr
            have HOWN := hideP hT.out.own
            have HE := hideP hE
            clear hX hRP hT hE hRr
            go_upto_region 20 with fail
            obtain ⟨wz, hwz⟩ : ∃ wz, wr.setCell ⟨w1.heap.size, 4, none⟩ (.slice (some ⟨gq, 0, none⟩) rows.length cq) = wz := ⟨_, rfl⟩
            rw [hwz] at OBX RBX BT ⊢
            clear hwz c4 cf
            have d0 := (cells_of OBX.out).1 0
            have d1 := (cells_of OBX.out).1 1
            have d2 := (cells_of OBX.out).1 2
            have d3 := (cells_of OBX.out).1 3
            have d4 := (cells_of OBX.out).1 4
            simp at d0 d1 d2 d3 d4
            have r0 := (cells_of RBX.out).1 0
            have r1 := (cells_of RBX.out).1 1
            have r2 := (cells_of RBX.out).1 2
            have r3 := (cells_of RBX.out).1 3
            have r4 := (cells_of RBX.out).1 4
            have rf := (cells_of RBX.out).2
            simp at r0 r1 r2 r3 r4
            have z0 := heap_setCell_same wz _ 0 _ _ (.slice us1 sizes.length cs1) RBX.out
            have z1 := heap_setCell_same _ _ 1 _ _ (.int .i64 p) z0
            have z2 := heap_setCell_same _ _ 2 _ _ (.int .i64 q) z1
            have z3 := heap_setCell_same _ _ 3 _ _ (.int .i64 r) z2
            have z4 : (((((wz.setCell ⟨w.heap.size + 1, 0, none⟩ (.slice us1 sizes.length cs1)).setCell ⟨w.heap.size + 1, 1, none⟩ (.int .i64 p)).setCell ⟨w.heap.size + 1, 2, none⟩ (.int .i64 q)).setCell ⟨w.heap.size + 1, 3, none⟩ (.int .i64 r)).setCell ⟨w.heap.size + 1, 4, none⟩ (.slice (some ⟨gq, 0, none⟩) rows.length cq)).heap[w.heap.size + 1]? = some (.cells #[.slice us1 sizes.length cs1, .int .i64 p, .int .i64 q, .int .i64 r, .slice (some ⟨gq, 0, none⟩) rows.length cq] 30 (0, 0)) := heap_setCell_same _ _ 4 _ _ (.slice (some ⟨gq, 0, none⟩) rows.length cq) z3
            have ZF := hideP z4
            have BU : Hid (But (w.heap.size + 1) wz (((((wz.setCell ⟨w.heap.size + 1, 0, none⟩ (.slice us1 sizes.length cs1)).setCell ⟨w.heap.size + 1, 1, none⟩ (.int .i64 p)).setCell ⟨w.heap.size + 1, 2, none⟩ (.int .i64 q)).setCell ⟨w.heap.size + 1, 3, none⟩ (.int .i64 r)).setCell ⟨w.heap.size + 1, 4, none⟩ (.slice (some ⟨gq, 0, none⟩) rows.length cq))) := (((((But.refl (w.heap.size + 1) wz).set 0 (.slice us1 sizes.length cs1)).set 1 (.int .i64 p)).set 2 (.int .i64 q)).set 3 (.int .i64 r)).set 4 (.slice (some ⟨gq, 0, none⟩) rows.length cq)
            clear z0 z1 z2 z3 z4
            go_wp2
            refine bodyPost_ret (results_cell_row rfl _ _ (w.heap.size + 1) 30 #[.slice us1 sizes.length cs1, .int .i64 p, .int .i64 q, .int .i64 r, .slice (some ⟨gq, 0, none⟩) rows.length cq] (0, 0) _ rfl ZF.out Try.underlying30 rfl (by kernel_rfl)) rfl ?_
            rw [E.out]
            have BF : But (w.heap.size + 1) w1 _ := ⟨(BU.out.os.trans BT.out.os).trans BEL.out.os, (BU.out.tape.trans BT.out.tape).trans BEL.out.tape, (BU.out.output.trans BT.out.output).trans BEL.out.output, Nat.le_trans BEL.out.size (Nat.le_trans BT.out.size BU.out.size), fun k hk hne => by
              have h1 := BEL.out.size
              have h2 := BT.out.size
              exact ((BU.out.block k (by omega) hne).trans (BT.out.block k (by omega) (by omega))).trans (BEL.out.block k hk)⟩
            have OWN := HOWN.out.blk (w' := _) (fun k hk hkl => by
              have h1 := HOWN.out.low k hk
              have h2 := BT.out.size
              exact (BU.out.block k (by omega) (by omega)).trans (BT.out.block k hkl (by omega)))
            refine ⟨_, rfl, ⟨us1, cs1, some ⟨gq, 0, none⟩, cq, by simp only [HRr.out], HWF.out, (HS1.out.but (by omega) BF).mono (Nat.zero_le _), rows_isB OWN hR.out HE.out hLn BF (by omega)⟩, HW1.out.trans (BF.below (by omega) (by omega))⟩
end Go.Proofs.YtobpcfelgobedaaR
