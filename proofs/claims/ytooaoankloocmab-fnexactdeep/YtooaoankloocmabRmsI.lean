/- The contract of impl.realmsOf: for each block the set of those that it rules. -/
import Derived.Test.YtooaoankloocmabRmdP
import Derived.Test.YtooaoankloocmabCtA
import Derived.Test.YtooaoankloocmabAheadP
namespace Go.Proofs.Ytooaoankloocmab
open Go.ChangeShapes Go.WideShapes Go.ChangeAt Go.RowKit Go.Maps
/-- The realms in memory of their own, or nil. -/
def RmMade (w : World) (g : Gr) (e : Ending) (w' : World) : Prop := Below w.heap.size w w' ∧ ((grOk g = false ∧ e = .returned (.slice none 0 0)) ∨ (grOk g = true ∧ ∃ gm ms c ls, e = .returned (.slice (some ⟨gm, 0, none⟩) g.blocks.length g.blocks.length) ∧ BhAt w.heap.size g.blocks.length gm ms g.blocks.length c ls w' ∧ (∀ i, i < g.blocks.length → c i ≤ 300 ∧ ∀ y, y ∈ ls i ↔ RulMd g.blocks (i : Int) y) ∧ w.heap.size ≤ gm))
set_option maxRecDepth 100000 in
set_option maxHeartbeats 4000000 in
theorem realmsOf_any (g : Gr) (w : World) (B : Nat) (v : Array Value) (h : GrIs w B v g) (GO : OkIs 25 g) :
    Calls Try.prog 50 #[.agg v] w fun en w' => RmMade w g en w' := by
  obtain ⟨y, hy⟩ : ∃ y, grOk g = y := ⟨_, rfl⟩
  have GOAL : Hid (∀ e w', (Below w.heap.size w w' ∧ ((y = false ∧ e = .returned (.slice none 0 0)) ∨ (y = true ∧ ∃ gm ms c ls, e = .returned (.slice (some ⟨gm, 0, none⟩) g.blocks.length g.blocks.length) ∧ BhAt w.heap.size g.blocks.length gm ms g.blocks.length c ls w' ∧ (∀ i, i < g.blocks.length → c i ≤ 300 ∧ ∀ y, y ∈ ls i ↔ RulMd g.blocks (i : Int) y) ∧ w.heap.size ≤ gm))) → RmMade w g e w') := fun e w' hh => by unfold RmMade; rw [hy]; exact hh
  have CH : Hid (∀ W, Below w.heap.size w W → Calls Try.prog 25 #[.agg v] W fun en w' => en = .returned (.bool y) ∧ Below W.heap.size W w') := fun W hW => by rw [← hy]; exact GO W B v (GrKeeps.stays h hW)
  have HG := hideP h
  have NX : Hid (y = true → ∀ W, Below w.heap.size w W → Calls Try.prog 34 #[.agg v] W fun e w' => NxMade W g.blocks e w') := fun e W hW => nexts_any g W B v (GrKeeps.stays h hW) (grOk_blocks (hy.trans e)).2
  have OKT : Hid (y = true → AllIn g.blocks ∧ 0 < g.blocks.length ∧ g.blocks.length ≤ 300) := fun e => ⟨allIn_of (hy.trans e), (grOk_blocks (hy.trans e)).1, (grOk_blocks (hy.trans e)).2⟩
  clear hy GO
  obtain ⟨sizes, params, vars, slots, blocks⟩ := g
  obtain ⟨us, cs, ub, cb, rfl, _, _, _⟩ := h
  simp only at *
  have AL := hideP ((Below.refl w.heap.size w).alloc (Nat.le_refl _) (.cells #[.slice us sizes.length cs, .int .i64 params, .int .i64 vars, .int .i64 slots, .slice ub blocks.length cb] 30))
  have BX1 := hideP (newB8 w (.cells #[.slice us sizes.length cs, .int .i64 params, .int .i64 vars, .int .i64 slots, .slice ub blocks.length cb] 30))
  cases y with
  | false =>
    have FIN : Hid (∀ w', Below w.heap.size w w' → RmMade w ⟨sizes, params, vars, slots, blocks⟩ (.returned (.slice none 0 0)) w') := fun w' h => GOAL.out _ _ ⟨h, Or.inl ⟨rfl, rfl⟩⟩
    clear GOAL OKT NX
    go_enter Try.func50, Try.ntmps50
    go_wp2_with fail
    refine (CH.out _ AL.out).mono ?_
    rintro e1 w1 ⟨rfl, b1⟩
    have BB := hideP (below_trans AL.out b1)
    clear b1
    go_wp2
    go_ret
    exact FIN.out _ BB.out
  | true =>
    obtain ⟨hall, h0, hn⟩ := OKT.out rfl
    have NX1 := hideP (NX.out rfl)
    have HALL := hideP hall
    have FIN : Hid (∀ gm ms c ls w', BhAt w.heap.size blocks.length gm ms blocks.length c ls w' → (∀ i, i < blocks.length → c i ≤ 300 ∧ ∀ y, y ∈ ls i ↔ RulMd blocks (i : Int) y) → w.heap.size ≤ gm → Below w.heap.size w w' → RmMade w ⟨sizes, params, vars, slots, blocks⟩ (.returned (.slice (some ⟨gm, 0, none⟩) blocks.length blocks.length)) w') := fun gm ms c ls w' h1 h2 h3 h4 => GOAL.out _ _ ⟨h4, Or.inr ⟨rfl, gm, ms, c, ls, rfl, h1, h2, h3⟩⟩
    have hm1 := make_sets blocks.length (by omega)
    clear hall OKT NX GOAL
    go_enter Try.func50, Try.ntmps50
    go_wp2_with fail
    refine (CH.out _ AL.out).mono ?_
    rintro e1 w1 ⟨rfl, b1⟩
    have BB := hideP (below_trans AL.out b1)
    have BX := hideP ((b1.block _ (hltP BX1.out)).trans BX1.out)
    have bxf := (cells_of BX.out).1
    have y0 := bxf 0
    have y1 := bxf 1
    have y2 := bxf 2
    have y3 := bxf 3
    have y4 := bxf 4
    simp at y0 y1 y2 y3 y4
    clear b1 bxf BX1 AL CH
    go_wp2_with fail
    refine (NX1.out _ BB.out).mono ?_
    rintro e2 w2 ⟨ga, av, rfl, a2, _, _, b2⟩
    have B2 := hideP (below_trans BB.out b2)
    have al3 := (Below.refl w2.heap.size w2).alloc (Nat.le_refl _) (.cells #[.int .i64 0] 3)
    have A3 := hideP (a2.stays al3)
    have B3 := hideP (below_trans B2.out al3)
    have X3 := hideP (((below_trans b2 al3).block _ (hltP BX.out)).trans BX.out)
    have OL := hideP (own_lit w2 [0] #[.int .i64 0] w2.heap.size 1 rfl rfl rfl (by simp))
    have CT := hideP (comeTo_any blocks.length (preN blocks) [0] (-1) _ _ ga _ av _ A3.out OL.out (pre_in HALL.out) (fun y hy => by rw [List.mem_singleton.1 hy]; exact ⟨Int.le_refl _, by omega⟩) hn (by simpa using rest_few hn))
    clear y0 y1 y2 y3 y4 a2 b2 al3 BB B2 NX1 BX
    go_wp2_with fail
    refine CT.out.mono ?_
    rintro e4 w4 ⟨m4, n4, l4, rfl, _, s4, hn4, hl4, b4⟩
    have HL4 := hideP hl4
    have B4 := hideP (below_trans B3.out b4)
    have x4 := (cells_of ((b4.block _ (hltP X3.out)).trans X3.out)).1 4
    simp at x4
    have al5 := (Below.refl w4.heap.size w4).alloc (Nat.le_refl _) (.cells (madeCells #[.map none] blocks.length) 52)
    have A5 := hideP ((A3.out.stays b4).stays al5)
    have S5 := hideP (s4.stays al5)
    have B5 := hideP (below_trans B4.out al5)
    have H5 := hideP (bhAt_made w4 blocks.length w.heap.size (fun _ => 0) (fun _ => 0) (fun _ => []))
    have hw4 : w.heap.size ≤ w4.heap.size := B4.out.size
    clear s4 hl4 b4 CT A3 B3 OL al5 B4 X3
    go_wp2
    clear x4 hm1
    obtain ⟨gm, hgm⟩ : ∃ gm, w4.heap.size = gm := ⟨_, rfl⟩
    rw [hgm] at H5 hw4 ⊢
    obtain ⟨W5, hW5⟩ : ∃ W5, w4.alloc (.cells (madeCells #[.map none] blocks.length) 52) = W5 := ⟨_, rfl⟩
    rw [hW5] at A5 S5 B5 H5 ⊢
    clear hgm hW5
    go_loopg [21] blocks.length (fun gk ix wr => ∃ (j : Nat) (ms c : Nat → Nat) (ls : Nat → List Int), gk + j = blocks.length ∧ ix = .int .i64 j ∧ Hid (BhAt w.heap.size blocks.length gm ms j c ls wr) ∧ Hid (∀ i, i < j → c i ≤ 300 ∧ ∀ y, y ∈ ls i ↔ RulMd blocks (i : Int) y) ∧ Hid (AhAt w1.heap.size blocks.length ga av (preN blocks) wr) ∧ Hid (SetIs InK wr m4 n4 l4) ∧ Hid (Below w.heap.size w wr))
    case atStart => exact ⟨0, _, _, _, by simp, rfl, H5.out, fun i hi => absurd hi (Nat.not_lt_zero _), A5.out, S5.out, B5.out⟩
    case round =>
      obtain ⟨j, ms, c, ls, hj, rfl, hH, hR, hA, hS, hE⟩ := hrel
      clear H5 A5 S5 B5
      by_cases hlt : j < blocks.length
      · have CR := hideP (realm_any blocks.length (preN blocks) (j : Int) wr _ ga m4 n4 l4 av hA.out hS.out (pre_in HALL.out) h0 hn (rest_few hn) hn4)
        go_wp2_with fail
        refine CR.out.mono ?_
        rintro e7 w7 ⟨m7, n7, l7, rfl, hm7, s7, hn7, hl7, b7⟩
        have HL7 : Hid (∀ y, y ∈ l7 ↔ RulMd blocks (j : Int) y) := fun y => (hl7 y).trans (by show y ∈ l4 ∧ _ ↔ _; rw [HL4.out y]; rfl)
        have H7 := hH.out.stays b7
        obtain ⟨cur, r1, r2, _⟩ := H7.row
        obtain ⟨uj, gc⟩ : ∃ u, w7.cell? ⟨gm, j, none⟩ = some u := ⟨cur[j]'(by omega), by simp only [World.cell?, r1]; exact Array.getElem?_eq_getElem _⟩
        have gf := (cells_of r1).2 j
        have H8 := hideP (hH.out.add (c' := fun i => if i = j then n7 else c i) (ls' := fun i => if i = j then l7 else ls i) hlt b7 s7 hm7 (hE.out.size) (fun i hi => ⟨if_neg (by omega), if_neg (by omega)⟩) ⟨if_pos rfl, if_pos rfl⟩)
        have hbt : But gm w7 (w7.setCell ⟨gm, j, none⟩ (.map (some m7))) := (But.refl gm _).set _ _
        have A8 := hideP ((hA.out.stays b7).other hbt (fun c2 T hc hT => by
          rw [r1] at hc
          injection hc with hc
          injection hc with _ e2
          rw [← e2] at hT
          exact absurd hT (by decide)))
        have S8 := hideP ((hS.out.stays b7).but hbt (fun e => by
          obtain ⟨es, cl, h3⟩ := (hS.out.stays b7).isMap
          rw [e, r1] at h3; cases h3))
        have E8 := hideP ((below_trans hE.out b7).trans (hbt.below hw4 (below_trans hE.out b7).size))
        have R8 : Hid (∀ i, i < j + 1 → (if i = j then n7 else c i) ≤ 300 ∧ ∀ y, y ∈ (if i = j then l7 else ls i) ↔ RulMd blocks (i : Int) y) := fun i hi => by
          by_cases e : i = j
          · subst e
            rw [if_pos rfl, if_pos rfl]
            exact ⟨hn7, HL7.out⟩
          · rw [if_neg e, if_neg e]
            exact hR.out i (by omega)
        clear CR s7 hm7 hl7 b7 H7 r1 hbt hH hA hS hE hR
        go_wp2
        go_roundg (blocks.length - (j + 1))
        case rel => exact ⟨j + 1, _, _, _, by omega, by go_num, H8.out, R8.out, A8.out, S8.out, E8.out⟩
        case measure => omega
      · have hjn : j = blocks.length := by omega
        subst hjn
        go_wp2
        go_ret
        exact FIN.out _ _ _ _ _ hH.out hR.out hw4 hE.out
end Go.Proofs.Ytooaoankloocmab
