/- The contract of spec.Plain. -/
import Derived.Test.YtooaoankloocmabRndS
import Derived.Test.YtooaoankloocmabBlsA
namespace Go.Proofs.Ytooaoankloocmab
open Go.ChangeShapes Go.WideShapes Go.ChangeAt Go.RowKit
theorem blocks_in {g : Gr} (hok : grOk g = true) : ∀ x ∈ blocksP g, ∃ t : Nat, x = (t : Int) ∧ t < g.blocks.length := fun x hx => by
  have hr : Reach g.blocks x := by
    unfold blocksP at hx
    rw [addAll_mem] at hx
    exact (order_mem hok x).1 hx
  obtain ⟨h1, h2⟩ := reach_in hok hr
  exact ⟨x.toNat, by omega, by omega⟩
set_option maxRecDepth 100000 in
set_option maxHeartbeats 8000000 in
theorem spec_plain (g : Gr) (w : World) (B : Nat) (v : Array Value) (h : GrIs w B v g) (GO : OkIs 18 g) :
    Calls Try.prog 14 #[.agg v] w fun en w' => en = .returned (.bool (plainP g)) ∧ Below w.heap.size w w' := by
  obtain ⟨y, hy⟩ : ∃ y, grOk g = y := ⟨_, rfl⟩
  have CY : Hid (∀ W, Below w.heap.size w W → Calls Try.prog 18 #[.agg v] W fun en w' => en = .returned (.bool y) ∧ Below W.heap.size W w') := fun W hW => by rw [← hy]; exact GO W B v (GrKeeps.stays h hW)
  have CR : Hid (y = true → ∀ W, Below w.heap.size w W → Calls Try.prog 31 #[.agg v] W fun en w' => RulMade W g.blocks en w') := fun e W hW => spec_rules g W B v (GrKeeps.stays h hW) (by rw [hy]; exact e) GO
  have CB := hideP (fun W (hW : Below w.heap.size w W) => spec_blocks g W B v (GrKeeps.stays h hW) GO)
  have CN : Hid (y = true → ∀ (a : Nat) W lo3 g3 c3 rows3, Below w.heap.size w W → a < g.blocks.length → rows3.length = g.blocks.length → RbAt g.blocks.length lo3 (.slice (some ⟨g3, 0, none⟩) g.blocks.length c3) rows3 (fun i k => rulB g.blocks (i : Int) (k : Int)) W → Calls Try.prog 33 #[.agg v, .slice (some ⟨g3, 0, none⟩) g.blocks.length c3, .int .i64 (a : Int)] W fun en w' => en = .returned (.bool (rndB g.blocks (a : Int))) ∧ Below W.heap.size W w') := fun e a W lo3 g3 c3 rows3 hW ha hl hr => spec_l10Round g a W B v lo3 g3 c3 rows3 (GrKeeps.stays h hW) (by rw [hy]; exact e) ha hl hr
  have BIN : Hid (y = true → ∀ x ∈ blocksP g, ∃ t : Nat, x = (t : Int) ∧ t < g.blocks.length) := fun e => blocks_in (by rw [hy]; exact e)
  have BLN := hideP (blocksP_few g)
  have HN : Hid (y = true → g.blocks.length ≤ 300) := fun e => (grOk_blocks (by rw [hy]; exact e)).2
  obtain ⟨P, hP⟩ : ∃ P, plainP g = P := ⟨_, rfl⟩
  have EP : Hid (P = (y && (blocksP g).all (fun a => !rndB g.blocks a))) := by rw [← hP, ← hy]; rfl
  obtain ⟨L, hL⟩ : ∃ L, blocksP g = L := ⟨_, rfl⟩
  rw [hL] at CB BIN BLN EP
  rw [hP]
  clear hP GO hy hL
  obtain ⟨sizes, params, vars, slots, blocks⟩ := g
  obtain ⟨us, cs, ub, cb, rfl, _, _, _⟩ := h
  simp only at *
  have AL := hideP ((Below.refl w.heap.size w).alloc (Nat.le_refl _) (.cells #[.slice us sizes.length cs, .int .i64 params, .int .i64 vars, .int .i64 slots, .slice ub blocks.length cb] 30))
  have BX1 := hideP (newB8 w (.cells #[.slice us sizes.length cs, .int .i64 params, .int .i64 vars, .int .i64 slots, .slice ub blocks.length cb] 30))
  cases y with
  | false =>
    have E0 : Hid (P = false) := by show _ = _; rw [EP.out]; rfl
    clear EP CR CN BIN HN CB
    go_enter Try.func14, Try.ntmps14
    go_wp2_with fail
    refine (CY.out _ AL.out).mono ?_
    rintro e1 w1 ⟨rfl, b1⟩
    have BB := hideP (below_trans AL.out b1)
    clear b1
    go_wp2
    go_ret
    exact ⟨by rw [E0.out]; rfl, BB.out⟩
  | true =>
    have hn := HN.out rfl
    have CR1 := hideP (CR.out rfl)
    have CN1 := hideP (CN.out rfl)
    have BIN1 := hideP (BIN.out rfl)
    have E1 : Hid (P = L.all (fun a => !rndB blocks a)) := by show _ = _; rw [EP.out]; rfl
    have hLl := BLN.out
    clear EP CR CN BIN HN
    go_enter Try.func14, Try.ntmps14
    go_wp2_with fail
    refine (CY.out _ AL.out).mono ?_
    rintro e1 w1 ⟨rfl, b1⟩
    have BB := hideP (below_trans AL.out b1)
    have BX := hideP ((b1.block _ (hltP BX1.out)).trans BX1.out)
    have bxf := (cells_of BX.out).1
    have y0 := bxf 0
    have y1 := bxf 1
    have y2 := bxf 2
    have y3 := bxf 3
    have y4 := bxf 4
    simp at y0 y1 y2 y3 y4
    clear bxf b1 BX1 AL CY
    go_wp2_with fail
    refine (CR1.out _ BB.out).mono ?_
    rintro e3 w3 ⟨v3, rows3, rfl, hrl, o3, r3, b3⟩
    obtain ⟨g3, c3, hv3, _⟩ := id o3
    rw [hrl] at hv3
    subst hv3
    have HRL := hideP hrl
    have RB3 : Hid (RbAt blocks.length (w1.heap.size + 1) (.slice (some ⟨g3, 0, none⟩) blocks.length c3) rows3 (fun i k => rulB blocks (i : Int) (k : Int)) w3) := ⟨o3, fun i hi => (r3 i hi).1⟩
    have B3 := hideP (below_trans BB.out b3)
    have BX3 := hideP ((b3.block _ (hltP BX.out)).trans BX.out)
    obtain ⟨lo3, hlo3⟩ : ∃ lo3, w1.heap.size + 1 = lo3 := ⟨_, rfl⟩
    rw [hlo3] at RB3
    have bxf := (cells_of BX3.out).1
    have z0 := bxf 0
    have z1 := bxf 1
    have z2 := bxf 2
    have z3 := bxf 3
    have z4 := bxf 4
    simp at z0 z1 z2 z3 z4
    clear bxf o3 r3 b3 BB BX y0 y1 y2 y3 y4 CR1 hrl hlo3
    go_wp2_with fail
    refine (CB.out _ B3.out).mono ?_
    rintro e4 w4 ⟨v4, rfl, o4, b4⟩
    obtain ⟨g4, c4, hv4, _⟩ := id o4
    subst hv4
    have O4 := hideP o4
    have RB4 := hideP (RB3.out.stays b4)
    have B4 := hideP (below_trans B3.out b4)
    have BX4 := hideP ((b4.block _ (hltP BX3.out)).trans BX3.out)
    clear o4 b4 RB3 B3 BX3 CB z0 z1 z2 z3 z4
    go_wp2
    go_loopg [5] L.length (fun gk ix wr => ∃ i : Nat, gk + i = L.length ∧ ix = .int .i64 i ∧ Hid (Below w4.heap.size w4 wr) ∧ Hid (∀ x ∈ L.take i, rndB blocks x = false))
    case atStart => exact ⟨0, by simp, rfl, Below.refl _ _, by show ∀ x ∈ _, _; simp⟩
    case round =>
      obtain ⟨i, hi, rfl, hB, hN⟩ := hrel
      by_cases hil : i < L.length
      · obtain ⟨x, hx⟩ : ∃ x, L[i] = x := ⟨_, rfl⟩
        have XM : Hid (x ∈ L) := hx ▸ List.getElem_mem hil
        obtain ⟨t, ht, htn⟩ := BIN1.out x XM.out
        subst ht
        have TK : Hid (L.take (i + 1) = L.take i ++ [(t : Int)]) := by show _ = _; rw [List.take_succ_eq_append_getElem hil, hx]
        have c0 := (O4.out.stays hB.out).at i hil
        rw [hx, Nat.zero_add] at c0
        have BXr := (hB.out.block _ (hltP BX4.out)).trans BX4.out
        have bxf := (cells_of BXr).1
        have y0 := bxf 0
        have y1 := bxf 1
        have y2 := bxf 2
        have y3 := bxf 3
        have y4 := bxf 4
        simp at y0 y1 y2 y3 y4
        have hbw := hltP BXr
        have RB5 := hideP (RB4.out.stays hB.out)
        have NL : Hid (∀ W', Below wr.heap.size wr W' → Calls Try.prog 33 #[.agg #[.slice us sizes.length cs, .int .i64 params, .int .i64 vars, .int .i64 slots, .slice ub blocks.length cb], .slice (some ⟨g3, 0, none⟩) blocks.length c3, .int .i64 (t : Int)] W' fun en w' => en = .returned (.bool (rndB blocks (t : Int))) ∧ Below wr.heap.size wr w') := fun W' bel => by
          refine (CN1.out t W' lo3 g3 c3 rows3 (below_trans (below_trans B4.out hB.out) bel) htn HRL.out (RB5.out.stays bel)).mono ?_
          rintro en w' ⟨he, hb'⟩
          exact ⟨he, bel.trans (hb'.mono bel.size)⟩
        have SK : Hid (∀ W', Below wr.heap.size wr W' → W'.cell? ⟨w.heap.size, 0, none⟩ = some (.slice us sizes.length cs) ∧ W'.cell? ⟨w.heap.size, 1, none⟩ = some (.int .i64 params) ∧ W'.cell? ⟨w.heap.size, 2, none⟩ = some (.int .i64 vars) ∧ W'.cell? ⟨w.heap.size, 3, none⟩ = some (.int .i64 slots) ∧ W'.cell? ⟨w.heap.size, 4, none⟩ = some (.slice ub blocks.length cb) ∧ W'.cell? ⟨g4, i, none⟩ = some (.int .i64 (t : Int))) := fun W' bel => ⟨(bel.cell (p := ⟨w.heap.size, 0, none⟩) hbw).trans y0, (bel.cell (p := ⟨w.heap.size, 1, none⟩) hbw).trans y1, (bel.cell (p := ⟨w.heap.size, 2, none⟩) hbw).trans y2, (bel.cell (p := ⟨w.heap.size, 3, none⟩) hbw).trans y3, (bel.cell (p := ⟨w.heap.size, 4, none⟩) hbw).trans y4, (bel.cell (p := ⟨g4, i, none⟩) (World.block_lt_of_cell? wr _ c0)).trans c0⟩
        obtain ⟨rb, hrb⟩ : ∃ rb, rndB blocks (t : Int) = rb := ⟨_, rfl⟩
        rw [hrb] at NL
        have HRB := hideP hrb
        clear bxf hx BXr hrb y0 y1 y2 y3 y4 c0
        go_upto_region 8 with fail
        go_region_held3 (fun W' => W'.cell? ⟨w.heap.size, 0, none⟩ = some (.slice us sizes.length cs) ∧ W'.cell? ⟨w.heap.size, 1, none⟩ = some (.int .i64 params) ∧ W'.cell? ⟨w.heap.size, 2, none⟩ = some (.int .i64 vars) ∧ W'.cell? ⟨w.heap.size, 3, none⟩ = some (.int .i64 slots) ∧ W'.cell? ⟨w.heap.size, 4, none⟩ = some (.slice ub blocks.length cb) ∧ W'.cell? ⟨g4, i, none⟩ = some (.int .i64 (t : Int))) (first | exact SK.out _ (Below.refl _ _) | exact SK.out _ (Below.refl _ _).drew | exact SK.out _ FR.out) (first
          | (go_at_call 33; refine (NL.out _ (Below.refl _ _).drew).mono ?_; rintro yy wy ⟨rfl, fn⟩; have FR := hideP fn; clear fn))
        all_goals
          cases rb with
          | true =>
            have E2 : Hid (P = false) := by
              show _ = _
              rw [E1.out]
              cases h9 : L.all (fun a => !rndB blocks a) with
              | false => rfl
              | true =>
                have := List.all_eq_true.1 h9 _ XM.out
                rw [HRB.out] at this
                cases this
            go_wp2
            go_ret
            exact ⟨by rw [E2.out]; rfl, below_trans B4.out (hB.out.trans (FR.out.mono hB.out.size))⟩
          | false =>
            have N2 : Hid (∀ x ∈ L.take (i + 1), rndB blocks x = false) := fun x hx => by
              rw [TK.out] at hx
              rcases List.mem_append.1 hx with hx | hx
              · exact hN.out x hx
              · rw [List.mem_singleton.1 hx]; exact HRB.out
            go_wp2
            go_roundg (L.length - (i + 1))
            case rel => exact ⟨i + 1, by omega, by go_num, hB.out.trans (FR.out.mono hB.out.size), N2.out⟩
            case measure => omega
      · have hin : i = L.length := by omega
        subst hin
        have E2 : Hid (P = true) := by
          show _ = _
          rw [E1.out, List.all_eq_true]
          intro x hx
          rw [hN.out x (by rw [List.take_length]; exact hx)]
          rfl
        go_wp2
        go_ret
        exact ⟨by rw [E2.out]; rfl, below_trans B4.out hB.out⟩
end Go.Proofs.Ytooaoankloocmab
