/- The function that sameParts hands to slices.EqualFunc, and that one itself. -/
import Derived.Test.YtfoaplihindeaagEqFn
namespace Go.Proofs.Ytfoaplihindeaag
open Go.ChangeShapes Go.WideShapes Go.ChangeAt Go.RowKit

set_option maxHeartbeats 4000000 in
theorem sameFn_any (w : World) (K : Nat) (p q : Pt) (l m : Lab) (hK : K ≤ w.heap.size) (hp : LabIn w K p l) (hq : LabIn w K q m) :
    Calls Try.prog 51 #[p.val, q.val] w fun e w' => e = .returned (.bool (outEq l m)) ∧ Below w.heap.size w w' := by
  obtain ⟨p0, p1, hp0, hp1⟩ : ∃ p0 p1, p.c0 = .pointer p0 ∧ p.c1 = .pointer p1 := by cases p <;> exact ⟨_, _, rfl, rfl⟩
  obtain ⟨q0, q1, hq0, hq1⟩ : ∃ p0 p1, q.c0 = .pointer p0 ∧ q.c1 = .pointer p1 := by cases q <;> exact ⟨_, _, rfl, rfl⟩
  have hpv : p.val = .agg #[.pointer p0, .pointer p1] := by unfold Pt.val; rw [hp0, hp1]
  have hqv : q.val = .agg #[.pointer q0, .pointer q1] := by unfold Pt.val; rw [hq0, hq1]
  have EQ0 := fun X => eqOut l m X
  obtain ⟨A1, hA1⟩ : ∃ A1, l.out = A1 := ⟨_, rfl⟩
  obtain ⟨A2, hA2⟩ : ∃ A2, m.out = A2 := ⟨_, rfl⟩
  obtain ⟨r, hr⟩ : ∃ r, outEq l m = r := ⟨_, rfl⟩
  rw [hA1, hA2, hr] at EQ0
  have C1 : Hid (∀ X, Below w.heap.size w X → Calls Try.prog 52 #[.agg #[.pointer p0, .pointer p1]] X fun e w' => e = .returned (.agg A1) ∧ Below X.heap.size X w') := fun X hX => by
    rw [← hpv, ← hA1]
    exact outside_any X p l (Nat.lt_of_lt_of_le (Nat.lt_of_lt_of_le hp.1 hK) hX.size) (hp.on (hX.mono hK)).2
  have C2 : Hid (∀ X, Below w.heap.size w X → Calls Try.prog 52 #[.agg #[.pointer q0, .pointer q1]] X fun e w' => e = .returned (.agg A2) ∧ Below X.heap.size X w') := fun X hX => by
    rw [← hqv, ← hA2]
    exact outside_any X q m (Nat.lt_of_lt_of_le (Nat.lt_of_lt_of_le hq.1 hK) hX.size) (hq.on (hX.mono hK)).2
  obtain ⟨W, hW⟩ : ∃ W, (w.alloc (.cells #[.pointer p0, .pointer p1] 84)).alloc (.cells #[.pointer q0, .pointer q1] 84) = W := ⟨_, rfl⟩
  have al : Below w.heap.size w W := by rw [← hW]; exact below2' w _ _
  have hWs : W.heap.size = w.heap.size + 2 := by rw [← hW]; simp
  have b1 : W.heap[w.heap.size + 1]? = some (.cells #[.pointer q0, .pointer q1] 84 (0, 0)) := by
    rw [← hW]
    have e := blk_new' (w.alloc (.cells #[.pointer p0, .pointer p1] 84)) (.cells #[.pointer q0, .pointer q1] 84)
    simpa using e
  have b0 : W.heap[w.heap.size]? = some (.cells #[.pointer p0, .pointer p1] 84 (0, 0)) := by
    rw [← hW]
    exact (((Below.refl _ _).alloc (Nat.le_refl _) _).block w.heap.size (by simp)).trans (blk_new' w _)
  have SK : Hid (∀ W', Below W.heap.size W W' → W'.cell? ⟨w.heap.size, 0, none⟩ = some (.pointer p0) ∧ W'.cell? ⟨w.heap.size, 1, none⟩ = some (.pointer p1) ∧ W'.cell? ⟨w.heap.size + 1, 0, none⟩ = some (.pointer q0) ∧ W'.cell? ⟨w.heap.size + 1, 1, none⟩ = some (.pointer q1)) := fun W' h => by
    have e0 := (h.block w.heap.size (by omega)).trans b0
    have e1 := (h.block (w.heap.size + 1) (by omega)).trans b1
    refine ⟨?_, ?_, ?_, ?_⟩
    · simp [World.cell?, e0]
    · simp [World.cell?, e0]
    · simp [World.cell?, e1]
    · simp [World.cell?, e1]
  have AL := hideP al
  have HWe := hideP hW
  have gd : Try.prog.eqGuardType Try.prog.depth 86 = false := by kernel_rfl
  have HR := hideP hr
  rw [hpv, hqv]
  clear hW al hWs b0 b1 hp0 hp1 hq0 hq1 hpv hqv hA1 hA2 hr hp hq
  go_enter Try.func51, Try.ntmps51
  go_upto_region 1 with fail
  rw [HWe.out]
  clear HWe
  go_region_held3 (fun W' => W'.cell? ⟨w.heap.size, 0, none⟩ = some (.pointer p0) ∧ W'.cell? ⟨w.heap.size, 1, none⟩ = some (.pointer p1) ∧ W'.cell? ⟨w.heap.size + 1, 0, none⟩ = some (.pointer q0) ∧ W'.cell? ⟨w.heap.size + 1, 1, none⟩ = some (.pointer q1)) (first | exact SK.out _ (Below.refl _ _).drew | exact SK.out _ HB2.out | exact SK.out _ HB1.out) (first
    | (go_at_call 52; refine (C1.out _ AL.out.drew).mono ?_; rintro e1 w1 ⟨rfl, bel1⟩; have HB1 := hideP ((Below.refl W.heap.size W).drew.trans (bel1.mono (Nat.le_refl _))); clear bel1 C1)
    | (go_at_call 52; refine (C2.out _ (AL.out.trans (HB1.out.mono AL.out.size))).mono ?_; rintro e2 w2 ⟨rfl, bel2⟩; have HB2 := hideP (HB1.out.trans (bel2.mono HB1.out.size)); clear bel2 C2))
  all_goals
    go_wp2
    go_ret
    exact ⟨by rw [HR.out]; rfl, AL.out.trans (HB2.out.mono AL.out.size)⟩
theorem allEq_step {L1 L2 : List Lab} {j : Nat} (h1 : j < L1.length) (h2 : j < L2.length) : allEq (L1.drop j) (L2.drop j) = (outEq L1[j] L2[j] && allEq (L1.drop (j + 1)) (L2.drop (j + 1))) := by
  rw [List.drop_eq_getElem_cons h1, List.drop_eq_getElem_cons h2]; rfl
theorem allEq_ne : ∀ (l m : List Lab), l.length ≠ m.length → allEq l m = false
  | [], [], h => absurd rfl h
  | [], b :: m, _ => rfl
  | a :: l, [], _ => rfl
  | a :: l, b :: m, h => by
    have := allEq_ne l m (by simpa using h)
    simp [allEq, this]
theorem pts_elem {w : World} {B g cap n : Nat} {l : List Pt} (h : OwnPts w B (.slice (some ⟨g, 0, none⟩) n cap) l) (j : Nat) (hj : j < l.length) : n = l.length ∧ n ≤ cap ∧ cap ≤ maxLen ∧ g < w.heap.size ∧ w.cell? ⟨g, j * 2, none⟩ = some l[j].c0 ∧ w.cell? ⟨g, j * 2 + 1, none⟩ = some l[j].c1 := by
  obtain ⟨g', cap', hv, hc, hm, _, hg, hcell⟩ := h.cells
  cases hv
  have hadd : ∀ j, (⟨g, 0, none⟩ : Addr).add j = ⟨g, j, none⟩ := fun j => by unfold Addr.add; split <;> simp_all
  have e := ptsCells_at l j hj
  refine ⟨rfl, hc, hm, hg, ?_, ?_⟩
  · rw [← hadd]; exact hcell _ _ e.1
  · rw [← hadd]; exact hcell _ _ e.2
set_option maxHeartbeats 4000000 in
theorem equalFunc_any (w : World) (K B1 B2 : Nat) (v1 v2 : Value) (l1 l2 : List Pt) (L1 L2 : List Lab) (hK : K ≤ w.heap.size) (h1 : OwnPts w B1 v1 l1) (h2 : OwnPts w B2 v2 l2) (f1 : F2 (LabIn w K) l1 L1) (f2 : F2 (LabIn w K) l2 L2) (hn1 : l1.length ≤ 2097152) :
    Calls Try.prog 50 #[v1, v2, .func (.func 51) #[] #[]] w fun e w' => e = .returned (.bool (allEq L1 L2)) ∧ Below w.heap.size w w' := by
  have e1 := f1.len
  have e2 := f2.len
  obtain ⟨g1, c1, rfl, _⟩ := id h1
  obtain ⟨g2, c2, rfl, _⟩ := id h2
  by_cases hl : l1.length = l2.length
  · have H1 := hideP h1
    have H2 := hideP h2
    have F1 := hideP f1
    have F2' := hideP f2
    have e1' := hideP e1
    have e2' := hideP e2
    clear h1 h2 f1 f2 e1 e2
    rw [← hl]
    have HL := hideP hl
    clear hl
    go_enter Try.func50, Try.ntmps50
    go_wp2
    go_loopw [17] (fun i wr => ∃ j : Nat, j ≤ l1.length ∧ i = .int .i64 j ∧ Hid (allEq L1 L2 = allEq (L1.drop j) (L2.drop j)) ∧ Hid (Below w.heap.size w wr)) (fun i _ => l1.length - (intOf i).toNat)
    case atStart => exact ⟨0, Nat.zero_le _, rfl, rfl, Below.refl _ _⟩
    case round =>
      obtain ⟨j, hj, rfl, hE, hbel⟩ := hrel
      by_cases hlt : j < l1.length
      · have hlt2 : j < l2.length := by have := HL.out; omega
        have k1 : j < L1.length := by have := e1'.out; omega
        have k2 : j < L2.length := by have := e2'.out; have := HL.out; omega
        obtain ⟨_, hc1, hm1, hg1, x0, x1⟩ := pts_elem H1.out j hlt
        obtain ⟨_, hc2, hm2, hg2, y0, y1⟩ := pts_elem H2.out j hlt2
        have lb1 := F1.out.get j hlt k1
        have lb2 := F2'.out.get j hlt2 k2
        have st := allEq_step k1 k2
        obtain ⟨p, hp⟩ : ∃ p, l1[j] = p := ⟨_, rfl⟩
        obtain ⟨q, hq⟩ : ∃ q, l2[j] = q := ⟨_, rfl⟩
        obtain ⟨la, hla⟩ : ∃ la, L1[j] = la := ⟨_, rfl⟩
        obtain ⟨lb, hlb⟩ : ∃ lb, L2[j] = lb := ⟨_, rfl⟩
        rw [hp, hla] at lb1
        rw [hq, hlb] at lb2
        rw [hp] at x0 x1
        rw [hq] at y0 y1
        rw [hla, hlb] at st
        obtain ⟨p0, p1, hp0, hp1⟩ : ∃ p0 p1, p.c0 = .pointer p0 ∧ p.c1 = .pointer p1 := by cases p <;> exact ⟨_, _, rfl, rfl⟩
        obtain ⟨q0, q1, hq0, hq1⟩ : ∃ p0 p1, q.c0 = .pointer p0 ∧ q.c1 = .pointer p1 := by cases q <;> exact ⟨_, _, rfl, rfl⟩
        have hpv : p.val = .agg #[.pointer p0, .pointer p1] := by unfold Pt.val; rw [hp0, hp1]
        have hqv : q.val = .agg #[.pointer q0, .pointer q1] := by unfold Pt.val; rw [hq0, hq1]
        rw [hp0] at x0
        rw [hp1] at x1
        rw [hq0] at y0
        rw [hq1] at y1
        have X0 := (hbel.out.cell (p := ⟨g1, _, none⟩) hg1).trans x0
        have X1 := (hbel.out.cell (p := ⟨g1, _, none⟩) hg1).trans x1
        have Y0 := (hbel.out.cell (p := ⟨g2, _, none⟩) hg2).trans y0
        have Y1 := (hbel.out.cell (p := ⟨g2, _, none⟩) hg2).trans y1
        have hz := hbel.out.size
        have h1w : g1 < wr.heap.size := by omega
        have h2w : g2 < wr.heap.size := by omega
        have Z0 := (((Below.refl wr.heap.size wr).alloc (Nat.le_refl _) (.cells #[.pointer p0, .pointer p1] 84)).cell (p := ⟨g2, _, none⟩) h2w).trans Y0
        have Z1 := (((Below.refl wr.heap.size wr).alloc (Nat.le_refl _) (.cells #[.pointer p0, .pointer p1] 84)).cell (p := ⟨g2, _, none⟩) h2w).trans Y1
        have b2 := hbel.out.trans ((below2' wr (.cells #[.pointer p0, .pointer p1] 84) (.cells #[.pointer q0, .pointer q1] 84)).mono hz)
        have CC := sameFn_any ((wr.alloc (.cells #[.pointer p0, .pointer p1] 84)).alloc (.cells #[.pointer q0, .pointer q1] 84)) K p q la lb (Nat.le_trans hK b2.size) (lb1.on (b2.mono hK)) (lb2.on (b2.mono hK))
        rw [hpv, hqv] at CC
        obtain ⟨r, hr⟩ : ∃ r, outEq la lb = r := ⟨_, rfl⟩
        rw [hr] at CC st
        have HC := hideP CC
        have HST := hideP st
        have HB2 := hideP b2
        clear x0 x1 y0 y1 lb1 lb2 CC st hr b2 hpv hqv hp0 hp1 hq0 hq1 hp hq hla hlb hm1 hm2 Y0 Y1
        go_wp2_with fail
        refine HC.out.mono ?_
        rintro e3 w3 ⟨rfl, bel3⟩
        have HB3 := hideP (HB2.out.trans (bel3.mono HB2.out.size))
        clear bel3 X0 X1 Z0 Z1 HC
        cases r with
        | true =>
          go_wp2
          go_roundw
          case rel => exact ⟨j + 1, by omega, by go_num, by show _ = _; rw [hE.out, HST.out]; rfl, HB3⟩
          case measure => simp [intOf]; omega
        | false =>
          go_wp2
          go_ret
          exact ⟨by rw [hE.out, HST.out]; rfl, HB3.out⟩
      · have E2 : Hid (allEq L1 L2 = true) := by
          show _ = _
          rw [hE.out, List.drop_of_length_le (by have := e1'.out; omega), List.drop_of_length_le (by have := e2'.out; have := HL.out; omega)]; rfl
        go_wp2
        go_ret
        exact ⟨by rw [E2.out]; rfl, hbel.out⟩
  · have E : Hid (allEq L1 L2 = false) := allEq_ne L1 L2 (by omega)
    have hl' : ¬ (l1.length : Int) = (l2.length : Int) := by omega
    clear h1 h2 f1 f2
    go_enter Try.func50, Try.ntmps50
    go_wp2
    go_ret
    exact ⟨by rw [E.out]; rfl, Below.refl _ _⟩
end Go.Proofs.Ytfoaplihindeaag
