/- The contract of impl.Below. -/
import Derived.Test.YtooaoankloocmaaCtA
import Derived.Test.YtooaoankloocmaaSrtI
import Derived.Test.YtooaoankloocmaaRulA
import Derived.Test.YtooaoankloocmaaHasA
namespace Go.Proofs.Ytooaoankloocmaa
open Go.ChangeShapes Go.WideShapes Go.ChangeAt Go.RowKit Go.Maps
theorem rul_iff {xs : List Blk} (hx : AllIn xs) (i k : Int) : Rul xs i k ↔ (Way (preN xs) [0] (-1) k ∧ ¬ Way (preN xs) [0] i k) := by
  rw [way_all hx]
  unfold Rul
  constructor
  · rintro ⟨h1, h2, h3⟩
    refine ⟨h2, fun h => ?_⟩
    by_cases e : i = 0
    · subst e; exact way_none h
    · exact h3 ⟨e, (way_wo e k).1 h⟩
  · rintro ⟨h1, h2⟩
    refine ⟨?_, h1, fun h => h2 ((way_wo h.1 k).2 h.2)⟩
    by_cases e : i = 0
    · subst e; exact Reach.zero
    · cases Classical.em (Reach xs i) with
      | inl h => exact h
      | inr h => exact absurd ((way_wo e k).2 (reach_wo h h1)) h2
theorem rest_few {xs : List Blk} (hn : xs.length ≤ 300) : 1 + restN (preN xs) [] xs.length ≤ 100000 := by
  have h : ∀ i, (preN xs i).length ≤ 2 := fun i => by
    unfold preN nxt
    split
    · exact nextP_len _
    · simp
  have := restN_le (met := []) h xs.length
  omega
theorem pre_in {xs : List Blk} (hx : AllIn xs) : ∀ i, i < xs.length → ∀ y ∈ preN xs i, InR xs.length y := fun _ _ y hy => nxt_in hx _ y hy
/-- What a block rules. -/
def RulMd (xs : List Blk) (i : Int) (y : Int) : Prop := Way (preN xs) [0] (-1) y ∧ ¬ Way (preN xs) [0] i y
theorem rulMd_in {xs : List Blk} (hx : AllIn xs) (h0 : 0 < xs.length) {i y : Int} (h : RulMd xs i y) : InR xs.length y := by
  have := (way_all hx y).1 h.1
  clear h
  induction this with
  | zero => exact ⟨Int.le_refl _, by omega⟩
  | step _ hb _ => exact nxt_in hx _ _ hb
open Classical in
theorem below_eq {g : Gr} (hok : grOk g = true) (b : Int) (hb : 0 ≤ b ∧ b < g.blocks.length) : belowP g b = srtP (RulMd g.blocks b) g.blocks.length := by
  unfold belowP srtP
  rw [if_pos ⟨hok, hb⟩]
  refine upB_congr _ (fun i _ => ?_)
  rw [Bool.eq_iff_iff, rulB_iff, decide_eq_true_eq]
  exact rul_iff (allIn_of hok) _ _
theorem belowP_few (g : Gr) (b : Int) : (belowP g b).length ≤ 300 := by
  unfold belowP
  split
  · rename_i h
    exact Nat.le_trans (upB_len _ _) (grOk_blocks h.1).2
  · simp
set_option maxRecDepth 100000 in
set_option maxHeartbeats 4000000 in
theorem impl_below (g : Gr) (bb : Int) (w : World) (B : Nat) (v : Array Value) (h : GrIs w B v g) (GO : OkIs 65 g) :
    Calls Try.prog 24 #[.agg v, .int .i64 bb] w fun en w' => ∃ v', en = .returned v' ∧ NumN w' w.heap.size v' (belowP g bb) ∧ Below w.heap.size w w' := by
  have CH := hideP (fun W (hW : Below w.heap.size w W) => hasBlock_any g bb W B v (GrKeeps.stays h hW) GO)
  have HG := hideP h
  obtain ⟨y, hy⟩ : ∃ y, decide (hasB6 g bb) = y := ⟨_, rfl⟩
  rw [hy] at CH
  have NX : Hid (y = true → ∀ W, Below w.heap.size w W → Calls Try.prog 45 #[.agg v] W fun e w' => NxMade W g.blocks e w') := fun e W hW => nexts_any g W B v (GrKeeps.stays h hW) (by
    have := of_decide_eq_true (hy.trans e)
    exact (grOk_blocks this.1).2)
  have EP0 : Hid (y = false → belowP g bb = []) := fun e => by
    have := of_decide_eq_false (hy.trans e)
    exact if_neg (fun h => this ⟨h.1, h.2.1, h.2.2⟩)
  have OKT : Hid (y = true → AllIn g.blocks ∧ 0 < g.blocks.length ∧ g.blocks.length ≤ 300 ∧ belowP g bb = srtP (RulMd g.blocks bb) g.blocks.length) := fun e => by
    obtain ⟨h1, h2, h3⟩ := of_decide_eq_true (hy.trans e)
    exact ⟨allIn_of h1, (grOk_blocks h1).1, (grOk_blocks h1).2, below_eq h1 bb ⟨h2, h3⟩⟩
  obtain ⟨P, hP⟩ : ∃ P, belowP g bb = P := ⟨_, rfl⟩
  rw [hP] at EP0 OKT ⊢
  clear hP hy GO
  obtain ⟨sizes, params, vars, slots, blocks⟩ := g
  obtain ⟨us, cs, ub, cb, rfl, _, _, _⟩ := h
  simp only at *
  have AL := hideP ((Below.refl w.heap.size w).alloc (Nat.le_refl _) (.cells #[.slice us sizes.length cs, .int .i64 params, .int .i64 vars, .int .i64 slots, .slice ub blocks.length cb] 31))
  have BX1 := hideP (newB8 w (.cells #[.slice us sizes.length cs, .int .i64 params, .int .i64 vars, .int .i64 slots, .slice ub blocks.length cb] 31))
  cases y with
  | false =>
    have E0 := hideP (EP0.out rfl)
    clear EP0 OKT NX
    go_enter Try.func24, Try.ntmps24
    go_wp2_with fail
    refine (CH.out _ AL.out).mono ?_
    rintro e1 w1 ⟨rfl, b1⟩
    have BB := hideP (below_trans AL.out b1)
    have OO := hideP (own_lit w1 [] #[] w1.heap.size 0 rfl rfl rfl (by simp))
    clear b1
    go_wp2
    go_ret
    exact ⟨_, rfl, Or.inr (by rw [E0.out]; exact OO.out.mono BB.out.size), BB.out.alloc BB.out.size _⟩
  | true =>
    obtain ⟨hall, h0, hn, hE⟩ := OKT.out rfl
    have HE := hideP hE
    have HALL := hideP hall
    have NX1 := hideP (NX.out rfl)
    clear hE hall OKT EP0 NX
    go_enter Try.func24, Try.ntmps24
    go_wp2_with fail
    refine (CH.out _ AL.out).mono ?_
    rintro e1 w1 ⟨rfl, b1⟩
    have BB := hideP (below_trans AL.out b1)
    have bxf := (cells_of ((b1.block _ (hltP BX1.out)).trans BX1.out)).1
    have y0 := bxf 0
    have y1 := bxf 1
    have y2 := bxf 2
    have y3 := bxf 3
    have y4 := bxf 4
    simp at y0 y1 y2 y3 y4
    clear b1 bxf BX1 AL CH
    go_wp2_with fail
    refine (NX1.out _ BB.out).mono ?_
    rintro e2 w2 ⟨ga, av, rfl, a2, _, _, b2⟩
    have B2 := hideP (below_trans BB.out b2)
    have al3 := (Below.refl w2.heap.size w2).alloc (Nat.le_refl _) (.cells #[.int .i64 0] 3)
    have A3 := hideP (a2.stays al3)
    have B3 := hideP (below_trans B2.out al3)
    have OL := hideP (own_lit w2 [0] #[.int .i64 0] w2.heap.size 1 rfl rfl rfl (by simp))
    have CT := hideP (comeTo_any blocks.length (preN blocks) [0] (-1) _ _ ga _ av _ A3.out OL.out (pre_in HALL.out) (fun y hy => by rw [List.mem_singleton.1 hy]; exact ⟨Int.le_refl _, by omega⟩) hn (by simpa using rest_few hn))
    clear y0 y1 y2 y3 y4 a2 b2 al3 BB B2 NX1
    go_wp2_with fail
    refine CT.out.mono ?_
    rintro e4 w4 ⟨m4, n4, l4, rfl, _, s4, hn4, hl4, b4⟩
    have CR := hideP (realm_any blocks.length (preN blocks) bb w4 _ ga m4 n4 l4 av (A3.out.stays b4) s4 (pre_in HALL.out) h0 hn (rest_few hn) hn4)
    have HL4 := hideP hl4
    have B4 := hideP (below_trans B3.out b4)
    clear s4 hl4 b4 CT A3 B3 OL
    go_wp2_with fail
    refine CR.out.mono ?_
    rintro e5 w5 ⟨m5, n5, l5, rfl, _, s5, hn5, hl5, b5⟩
    have CS := hideP (sorted_any (RulMd blocks bb) blocks.length l5 w5 m5 n5 s5 (fun y => (hl5 y).trans (by show y ∈ l4 ∧ _ ↔ _; rw [HL4.out y]; rfl)) (fun y hy => rulMd_in HALL.out h0 hy) (by omega))
    have B5 := hideP (below_trans B4.out b5)
    clear s5 hl5 b5 CR B4
    go_wp2_with fail
    refine CS.out.mono ?_
    rintro e6 w6 ⟨v6, rfl, o6, b6⟩
    have O6 : Hid (NumN w6 w.heap.size v6 P) := by rw [HE.out]; exact o6.elim Or.inl (fun h => Or.inr (h.mono B5.out.size))
    have B6 := hideP (below_trans B5.out b6)
    clear o6 b6 CS B5
    go_wp2
    go_ret
    exact ⟨_, rfl, O6.out, B6.out⟩
end Go.Proofs.Ytooaoankloocmaa
