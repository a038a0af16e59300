/- The contracts of eqIntS, eqExp, eqExpS, eqStmt, eqStmtS, eqProgram: true of two that are alike. -/
import Derived.Test.YtdkdimklacblaahToPr
import Derived.Deep.QuietTactic
import Derived.BigQuiet
import Derived.Deep.RegionWith
namespace Go.Proofs.Ytdkdimklacblaah
open Go.ChangeShapes Go.WideShapes Go.ChangeAt Go.RowKit

def EqEx (e : Ex) : Prop := ∀ (w : World) (B1 B2 : Nat) (v1 v2 : Array Value), ExIs w B1 v1 e → ExIs w B2 v2 e →
  Calls Try.prog 18 #[.agg v1, .agg v2] w fun en w' => en = .returned (.bool true) ∧ Below w.heap.size w w'
set_option maxHeartbeats 1000000 in
theorem eqExpS_of (es : List Ex) (ih : ∀ e ∈ es, EqEx e) (w : World) (B1 B2 : Nat) (a1 a2 : Option Addr) (c1 c2 : Nat) (h1 : ExsIs w B1 a1 es) (h2 : ExsIs w B2 a2 es) :
    Calls Try.prog 44 #[.slice a1 es.length c1, .slice a2 es.length c2] w fun en w' => en = .returned (.bool true) ∧ Below w.heap.size w w' := by
  have hm := maxLen_lt
  have hl := h1.1
  have H1 := hideP h1
  have H2 := hideP h2
  have IH := hideP ih
  clear h1 h2 ih
  go_enter Try.func44, Try.ntmps44
  go_wp2
  go_loopw [5] (fun i wr => ∃ j : Nat, j ≤ es.length ∧ i = .int .i64 j ∧ Below w.heap.size w wr) (fun i _ => es.length - (intOf i).toNat)
  case atStart => exact ⟨0, Nat.zero_le _, rfl, Below.refl _ _⟩
  case round =>
    obtain ⟨j, hj, rfl, bel⟩ := hrel
    by_cases hlt : j < es.length
    · obtain ⟨b, o, k, n, bs, t, kids, ka, kc, rfl, _, hb, he, p0, p1, p2, p3, p4, hx⟩ := (H1.out.stays bel).get j hlt
      obtain ⟨b', o', k', n', bs', t', kids', ka', kc', rfl, _, hb', he', q0, q1, q2, q3, q4, hx'⟩ := (H2.out.stays bel).get j hlt
      have heq : Ex.mk k' n' bs' t' kids' = Ex.mk k n bs t kids := he'.symm.trans he
      cases heq
      have hmem : es[j] ∈ es := List.getElem_mem hlt
      rw [he] at hmem
      have IHj : Hid (∀ (W : World), Below wr.heap.size wr W → Calls Try.prog 18 #[.agg #[.int .i64 k, .int .i64 n, .int .i64 bs, .string t, .slice ka kids.length kc], .agg #[.int .i64 k, .int .i64 n, .int .i64 bs, .string t, .slice ka' kids.length kc']] W fun en w' => en = .returned (.bool true) ∧ Below W.heap.size W w') :=
        fun W hW => IH.out _ hmem W B1 B2 _ _ (hx.stays hW) (hx'.stays hW)
      have HB := hideP bel
      have hsz := bel.size
      clear he he' hx hx' bel hmem
      go_wp2
      go_region_with (go_at_call 18; refine (IHj.out _ (by first | exact Below.refl _ _ | exact (Below.refl _ _).drew | exact (Below.refl _ _).drew.drew)).mono ?_; rintro e1 w1 ⟨rfl, bel1⟩)
      all_goals
        have hw1 : Below w.heap.size w w1 := by first | exact HB.out.trans (bel1.mono hsz) | exact HB.out.drew.trans (bel1.mono hsz) | exact HB.out.drew.drew.trans (bel1.mono hsz)
        clear bel1 p0 p1 p2 p3 p4 q0 q1 q2 q3 q4
        go_wp2
        go_roundw
        case rel => exact ⟨j + 1, by omega, by go_num, hw1⟩
        case measure => simp [intOf]; omega
    · go_wp2
      go_ret
      exact ⟨rfl, bel⟩
theorem below2 (w : World) (o1 o2 : Obj) : Below w.heap.size w ((w.alloc o1).alloc o2) := ((Below.refl _ _).alloc (Nat.le_refl _) _).alloc (by simp) _
set_option maxHeartbeats 1000000 in
theorem eqExp_any (e : Ex) : EqEx e := by
  induction e using Ex.ind with
  | h k n b t kids ih =>
    intro w B1 B2 v1 v2 h1 h2
    obtain ⟨a1, c1, rfl, ht, k1⟩ := h1.out
    obtain ⟨a2, c2, rfl, _, k2⟩ := h2.out
    have K1 := hideP k1
    have K2 := hideP k2
    have IH := hideP ih
    clear h1 h2 k1 k2 ih
    go_enter Try.func18, Try.ntmps18
    go_wp2_with fail
    refine (eqExpS_of kids IH.out _ B1 B2 a1 a2 c1 c2 (K1.out.stays (below2 w _ _)) (K2.out.stays (below2 w _ _))).mono ?_
    rintro e1 w1 ⟨rfl, bel1⟩
    have hw1 := hideP ((below2 w _ _).trans (bel1.mono (by simp; omega)))
    clear bel1
    go_wp2
    go_ret
    exact ⟨rfl, hw1.out⟩
theorem eqExpS_any (es : List Ex) (w : World) (B1 B2 : Nat) (a1 a2 : Option Addr) (c1 c2 : Nat) (h1 : ExsIs w B1 a1 es) (h2 : ExsIs w B2 a2 es) :
    Calls Try.prog 44 #[.slice a1 es.length c1, .slice a2 es.length c2] w fun en w' => en = .returned (.bool true) ∧ Below w.heap.size w w' :=
  eqExpS_of es (fun e _ => eqExp_any e) w B1 B2 a1 a2 c1 c2 h1 h2

def EqSt (e : St) : Prop := ∀ (w : World) (B1 B2 : Nat) (v1 v2 : Array Value), StIs w B1 v1 e → StIs w B2 v2 e →
  Calls Try.prog 51 #[.agg v1, .agg v2] w fun en w' => en = .returned (.bool true) ∧ Below w.heap.size w w'
set_option maxHeartbeats 1000000 in
theorem eqStmtS_of (es : List St) (ih : ∀ e ∈ es, EqSt e) (w : World) (B1 B2 : Nat) (a1 a2 : Option Addr) (c1 c2 : Nat) (h1 : StsIs w B1 a1 es) (h2 : StsIs w B2 a2 es) :
    Calls Try.prog 37 #[.slice a1 es.length c1, .slice a2 es.length c2] w fun en w' => en = .returned (.bool true) ∧ Below w.heap.size w w' := by
  have hm := maxLen_lt
  have hl := h1.1
  have H1 := hideP h1
  have H2 := hideP h2
  have IH := hideP ih
  clear h1 h2 ih
  go_enter Try.func37, Try.ntmps37
  go_wp2
  go_loopw [5] (fun i wr => ∃ j : Nat, j ≤ es.length ∧ i = .int .i64 j ∧ Below w.heap.size w wr) (fun i _ => es.length - (intOf i).toNat)
  case atStart => exact ⟨0, Nat.zero_le _, rfl, Below.refl _ _⟩
  case round =>
    obtain ⟨j, hj, rfl, bel⟩ := hrel
    by_cases hlt : j < es.length
    · obtain ⟨b, o, k, n, bs, exps, xs, ys, ea, ec, xa, xc, ya, yc, rfl, _, hb, he, p0, p1, p2, p3, p4, p5, hx⟩ := (H1.out.stays bel).get j hlt
      obtain ⟨b', o', k', n', bs', exps', xs', ys', ea', ec', xa', xc', ya', yc', rfl, _, hb', he', q0, q1, q2, q3, q4, q5, hx'⟩ := (H2.out.stays bel).get j hlt
      have heq : St.mk k' n' bs' exps' xs' ys' = St.mk k n bs exps xs ys := he'.symm.trans he
      cases heq
      have hmem : es[j] ∈ es := List.getElem_mem hlt
      rw [he] at hmem
      have IHj : Hid (∀ (W : World), Below wr.heap.size wr W → Calls Try.prog 51 #[.agg #[.int .i64 k, .int .i64 n, .int .i64 bs, .slice ea exps.length ec, .slice xa xs.length xc, .slice ya ys.length yc], .agg #[.int .i64 k, .int .i64 n, .int .i64 bs, .slice ea' exps.length ec', .slice xa' xs.length xc', .slice ya' ys.length yc']] W fun en w' => en = .returned (.bool true) ∧ Below W.heap.size W w') :=
        fun W hW => IH.out _ hmem W B1 B2 _ _ (hx.stays hW) (hx'.stays hW)
      have HB := hideP bel
      have hsz := bel.size
      clear he he' hx hx' bel hmem
      go_wp2
      go_region_with (go_at_call 51; refine (IHj.out _ (by first | exact Below.refl _ _ | exact (Below.refl _ _).drew | exact (Below.refl _ _).drew.drew)).mono ?_; rintro e1 w1 ⟨rfl, bel1⟩)
      all_goals
        have hw1 : Below w.heap.size w w1 := by first | exact HB.out.trans (bel1.mono hsz) | exact HB.out.drew.trans (bel1.mono hsz) | exact HB.out.drew.drew.trans (bel1.mono hsz)
        clear bel1 p0 p1 p2 p3 p4 p5 q0 q1 q2 q3 q4 q5
        go_wp2
        go_roundw
        case rel => exact ⟨j + 1, by omega, by go_num, hw1⟩
        case measure => simp [intOf]; omega
    · go_wp2
      go_ret
      exact ⟨rfl, bel⟩
/-- Two new blocks behind a call: what they hold. -/
theorem two {w w1 : World} {o1 o2 : Obj} (bel : Below ((w.alloc o1).alloc o2).heap.size ((w.alloc o1).alloc o2) w1) :
    w1.heap[w.heap.size]? = some o1 ∧ w1.heap[w.heap.size + 1]? = some o2 ∧ w.heap.size + 1 < w1.heap.size ∧ Below w.heap.size w w1 := by
  have e : ((w.alloc o1).alloc o2).heap = (w.heap.push o1).push o2 := rfl
  have hz : ((w.alloc o1).alloc o2).heap.size = w.heap.size + 2 := by rw [e]; simp
  have hs := bel.size
  refine ⟨?_, ?_, by omega, (below2 w o1 o2).trans (bel.mono (by omega))⟩
  · rw [bel.block _ (by omega), e, Array.getElem?_push, Array.getElem?_push]; simp
  · rw [bel.block _ (by omega), e, Array.getElem?_push]; simp
set_option maxHeartbeats 1000000 in
theorem eqStmt_any (e : St) : EqSt e := by
  induction e using St.ind with
  | h k n b exps xs ys ihx ihy =>
    intro w B1 B2 v1 v2 h1 h2
    obtain ⟨a1, c1, ax1, cx1, ay1, cy1, rfl, e1, x1, y1⟩ := h1.out
    obtain ⟨a2, c2, ax2, cx2, ay2, cy2, rfl, e2, x2, y2⟩ := h2.out
    have E1 := hideP e1
    have E2 := hideP e2
    have X1 := hideP x1
    have X2 := hideP x2
    have Y1 := hideP y1
    have Y2 := hideP y2
    have IHX := hideP ihx
    have IHY := hideP ihy
    clear h1 h2 e1 e2 x1 x2 y1 y2 ihx ihy
    go_enter Try.func51, Try.ntmps51
    go_wp2_with fail
    refine (eqExpS_any exps _ B1 B2 a1 a2 c1 c2 (E1.out.stays (below2 w _ _)) (E2.out.stays (below2 w _ _))).mono ?_
    rintro e1 w1 ⟨rfl, bel1⟩
    obtain ⟨q1, q2, hz, hw⟩ := two bel1
    have p4 := (cells_of q1).1 4
    have p5 := (cells_of q1).1 5
    have r4 := (cells_of q2).1 4
    have r5 := (cells_of q2).1 5
    simp at p4 p5 r4 r5
    have HW := hideP hw
    clear bel1 q1 q2 hw
    go_wp2_with fail
    refine (eqStmtS_of xs IHX.out _ B1 B2 ax1 ax2 cx1 cx2 (X1.out.stays HW.out) (X2.out.stays HW.out)).mono ?_
    rintro e2 w2 ⟨rfl, bel2⟩
    have s5 := (bel2.cell (p := ⟨w.heap.size, 5, none⟩) (show w.heap.size < w1.heap.size by omega)).trans p5
    have t5 := (bel2.cell (p := ⟨w.heap.size + 1, 5, none⟩) (show w.heap.size + 1 < w1.heap.size by omega)).trans r5
    have HW2 := hideP (below_trans HW.out bel2)
    have hz2 := bel2.size
    clear bel2 p4 p5 r4 r5
    go_wp2_with fail
    refine (eqStmtS_of ys IHY.out _ B1 B2 ay1 ay2 cy1 cy2 (Y1.out.stays HW2.out) (Y2.out.stays HW2.out)).mono ?_
    rintro e3 w3 ⟨rfl, bel3⟩
    have HW3 := hideP (below_trans HW2.out bel3)
    clear bel3 s5 t5
    go_wp2
    go_ret
    exact ⟨rfl, HW3.out⟩
theorem eqStmtS_any (es : List St) (w : World) (B1 B2 : Nat) (a1 a2 : Option Addr) (c1 c2 : Nat) (h1 : StsIs w B1 a1 es) (h2 : StsIs w B2 a2 es) :
    Calls Try.prog 37 #[.slice a1 es.length c1, .slice a2 es.length c2] w fun en w' => en = .returned (.bool true) ∧ Below w.heap.size w w' :=
  eqStmtS_of es (fun e _ => eqStmt_any e) w B1 B2 a1 a2 c1 c2 h1 h2
set_option maxHeartbeats 1000000 in
theorem eqIntS_same (zs : List Int) (w : World) (B1 B2 : Nat) (a1 a2 : Option Addr) (c1 c2 : Nat) (h1 : IntsIs w B1 a1 zs) (h2 : IntsIs w B2 a2 zs) :
    Calls Try.prog 17 #[.slice a1 zs.length c1, .slice a2 zs.length c2] w fun en w' => en = .returned (.bool true) ∧ Below w.heap.size w w' := by
  have hm := maxLen_lt
  have hl := h1.1
  have H1 := hideP h1
  have H2 := hideP h2
  clear h1 h2
  go_enter Try.func17, Try.ntmps17
  go_wp2
  go_loopw [5] (fun i wr => ∃ j : Nat, j ≤ zs.length ∧ i = .int .i64 j ∧ Below w.heap.size w wr) (fun i _ => zs.length - (intOf i).toNat)
  case atStart => exact ⟨0, Nat.zero_le _, rfl, Below.refl _ _⟩
  case round =>
    obtain ⟨j, hj, rfl, bel⟩ := hrel
    by_cases hlt : j < zs.length
    · obtain ⟨b, o, rfl, _, hb, p0⟩ := (H1.out.stays bel).get j hlt
      obtain ⟨b', o', rfl, _, hb', q0⟩ := (H2.out.stays bel).get j hlt
      obtain ⟨z, hz⟩ : ∃ z, zs[j] = z := ⟨_, rfl⟩
      rw [hz] at p0 q0
      have HB := hideP bel
      clear hz bel
      go_wp2
      go_region
      all_goals
        go_wp2
        go_roundw
        case rel => exact ⟨j + 1, by omega, by go_num, by first | exact HB.out | exact HB.out.drew | exact HB.out.drew.drew⟩
        case measure => simp [intOf]; omega
    · go_wp2
      go_ret
      exact ⟨rfl, bel⟩
set_option maxHeartbeats 1000000 in
theorem eqProgram_any (p : Pr) (w : World) (B1 B2 : Nat) (v1 v2 : Array Value) (h1 : PrIs w B1 v1 p) (h2 : PrIs w B2 v2 p) :
    Calls Try.prog 12 #[.agg v1, .agg v2] w fun en w' => en = .returned (.bool true) ∧ Below w.heap.size w w' := by
  obtain ⟨a1, c1, b1, d1, rfl, z1, s1⟩ := h1
  obtain ⟨a2, c2, b2, d2, rfl, z2, s2⟩ := h2
  obtain ⟨sizes, params, vars, body⟩ := p
  simp only at z1 z2 s1 s2 ⊢
  have Z1 := hideP z1
  have Z2 := hideP z2
  have S1 := hideP s1
  have S2 := hideP s2
  clear z1 z2 s1 s2
  go_enter Try.func12, Try.ntmps12
  go_wp2_with fail
  refine (eqIntS_same sizes _ B1 B2 a1 a2 c1 c2 (Z1.out.stays (below2 w _ _)) (Z2.out.stays (below2 w _ _))).mono ?_
  rintro e1 w1 ⟨rfl, bel1⟩
  obtain ⟨q1, q2, hz, hw⟩ := two bel1
  have p1 := (cells_of q1).1 1
  have p2 := (cells_of q1).1 2
  have p3 := (cells_of q1).1 3
  have r1 := (cells_of q2).1 1
  have r2 := (cells_of q2).1 2
  have r3 := (cells_of q2).1 3
  simp at p1 p2 p3 r1 r2 r3
  have HW := hideP hw
  clear bel1 q1 q2 hw
  go_wp2_with fail
  refine (eqStmtS_any body _ B1 B2 b1 b2 d1 d2 (S1.out.stays HW.out) (S2.out.stays HW.out)).mono ?_
  rintro e2 w2 ⟨rfl, bel2⟩
  have HW2 := hideP (below_trans HW.out bel2)
  clear bel2 p1 p2 p3 r1 r2 r3
  go_wp2
  go_ret
  exact ⟨rfl, HW2.out⟩
end Go.Proofs.Ytdkdimklacblaah
