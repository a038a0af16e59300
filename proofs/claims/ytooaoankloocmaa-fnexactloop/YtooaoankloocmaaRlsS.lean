/- The contract of spec.Rules (written by wip/mkrlss.py). -/
import Derived.Test.YtooaoankloocmaaRulA
import Derived.Test.YtooaoankloocmaaLlG
namespace Go.Proofs.Ytooaoankloocmaa
open Go.ChangeShapes Go.WideShapes Go.ChangeAt Go.RowKit
noncomputable def rulUp (xs : List Blk) (j : Nat) : List (List Int) := (List.range j).map (fun (k : Nat) => upB (fun i => rulB xs (i : Int) (k : Int)) xs.length)
noncomputable def rulesP (g : Gr) : List (List Int) := if grOk g = true then rulUp g.blocks g.blocks.length else []
theorem rulUp_succ (xs : List Blk) (j : Nat) : rulUp xs (j + 1) = rulUp xs j ++ [upB (fun i => rulB xs (i : Int) (j : Int)) xs.length] := by unfold rulUp; rw [List.range_succ, List.map_append]; rfl
theorem rulUp_len (xs : List Blk) (j : Nat) : (rulUp xs j).length = j := by unfold rulUp; simp
/-- The rows of truths, as they are read. -/
def RbAt (n B : Nat) (v3 : Value) (rows3 : List Nat) (F : Nat → Nat → Bool) (W : World) : Prop := OwnE (RbE n) W B v3 rows3 ∧ ∀ i (hi : i < rows3.length), RowT W rows3[i] n (F i)
section
variable {n B : Nat} {v3 : Value} {rows3 : List Nat} {F : Nat → Nat → Bool} {W W' : World}
theorem RbAt.stays (h : RbAt n B v3 rows3 F W) (b : Below W.heap.size W W') : RbAt n B v3 rows3 F W' := ⟨h.1.stays b, fun i hi => (h.2 i hi).stays b⟩
theorem RbAt.typed {g : Nat} {cur : Array Value} {t : TypeId} (h : RbAt n B v3 rows3 F W) (hg : W.grownBy W' (some g)) (ht : W.heap[g]? = some (.cells cur t (0, 0))) (h1 : t ≠ 4) (h2 : t ≠ 53) : RbAt n B v3 rows3 F W' := ⟨h.1.rtyped hg ht h2, fun i hi => (h.2 i hi).typed hg ht h1⟩
theorem RbAt.at {g m c : Nat} (h : RbAt n B (.slice (some ⟨g, 0, none⟩) m c) rows3 F W) {i k : Nat} (hi : i < rows3.length) (hk : k < n) : W.cell? ⟨g, i, none⟩ = some (.slice (some ⟨rows3[i], 0, none⟩) n n) ∧ W.cell? ⟨rows3[i], k, none⟩ = some (.bool (F i k)) := by
  have h0 := h.1.at (RbOk n) i hi 0 (by show 0 < 1; decide)
  refine ⟨?_, ((h.2 i hi).at hk).1⟩
  simpa [RbE] using h0
end
set_option maxHeartbeats 8000000 in
set_option maxRecDepth 100000 in
theorem spec_rulesL (g : Gr) (w : World) (B : Nat) (v : Array Value) (h : GrIs w B v g) (GO : OkIs 36 g) :
    Calls Try.prog 10 #[.agg v] w fun en w' => ∃ v' rows, en = .returned v' ∧ LlAt w' (w.heap.size + 1) v' rows (rulesP g) ∧ Below w.heap.size w w' := by
  obtain ⟨y, hy⟩ : ∃ y, grOk g = y := ⟨_, rfl⟩
  have HY := hideP hy
  have CY : Hid (∀ W, Below w.heap.size w W → Calls Try.prog 36 #[.agg v] W fun en w' => en = .returned (.bool y) ∧ Below W.heap.size W w') := fun W hW => by rw [← hy]; exact GO W B v (GrKeeps.stays h hW)
  have CR : Hid (y = true → ∀ W, Below w.heap.size w W → Calls Try.prog 37 #[.agg v] W fun en w' => RulMade W g.blocks en w') := fun e W hW => spec_rules g W B v (GrKeeps.stays h hW) (by rw [hy]; exact e) GO
  have HN : Hid (y = true → g.blocks.length ≤ 300) := fun e => (grOk_blocks (by rw [hy]; exact e)).2
  obtain ⟨P, hP⟩ : ∃ P, rulesP g = P := ⟨_, rfl⟩
  have EP : Hid (rulesP g = P) := hP
  rw [hP]
  unfold rulesP at EP
  rw [hy] at EP
  clear hy hP GO
  obtain ⟨sizes, params, vars, slots, blocks⟩ := g
  obtain ⟨us, cs, ub, cb, rfl, _, _, _⟩ := h
  simp only at *
  have hm := maxLen_lt
  have AL := hideP (below2 w (.cells #[.slice us sizes.length cs, .int .i64 params, .int .i64 vars, .int .i64 slots, .slice ub blocks.length cb] 31) (.cells #[] 22))
  have BX1 := hideP (two (w := w) (o1 := .cells #[.slice us sizes.length cs, .int .i64 params, .int .i64 vars, .int .i64 slots, .slice ub blocks.length cb] 31) (o2 := .cells #[] 22) (Below.refl _ _)).1
  have L1 : Hid (LlAt ((w.alloc (.cells #[.slice us sizes.length cs, .int .i64 params, .int .i64 vars, .int .i64 slots, .slice ub blocks.length cb] 31)).alloc (.cells #[] 22)) (w.heap.size + 1) (.slice (some ⟨w.heap.size + 1, 0, none⟩) 0 0) [] []) := by
    have := llAt_nil (w.alloc (.cells #[.slice us sizes.length cs, .int .i64 params, .int .i64 vars, .int .i64 slots, .slice ub blocks.length cb] 31))
    show LlAt _ _ _ _ _
    simpa using this
  cases y with
  | false =>
    have E : Hid (P = []) := by
      show _ = _
      rw [← EP.out, if_neg (by simp)]
    go_enter Try.func10, Try.ntmps10
    go_wp2_with fail
    refine (CY.out _ AL.out).mono ?_
    rintro e1 w1 ⟨rfl, b1⟩
    have OO := hideP (L1.out.stays b1)
    have BB := hideP (below_trans AL.out b1)
    clear b1
    go_wp2
    go_ret
    exact ⟨_, [], rfl, by rw [E.out]; exact OO.out, BB.out⟩
  | true =>
    have hn := HN.out rfl
    have E : Hid (P = rulUp blocks blocks.length) := by
      show _ = _
      rw [← EP.out, if_pos (by simp)]
    clear EP
    go_enter Try.func10, Try.ntmps10
    go_wp2_with fail
    refine (CY.out _ AL.out).mono ?_
    rintro e1 w1 ⟨rfl, b1⟩
    have L2 := hideP (L1.out.stays b1)
    have BB := hideP (below_trans AL.out b1)
    have BX := hideP ((b1.block _ (Array.getElem?_eq_some_iff.1 BX1.out).1).trans BX1.out)
    have bxf := (cells_of BX.out).1
    have y0 := bxf 0
    have y1 := bxf 1
    have y2 := bxf 2
    have y3 := bxf 3
    have y4 := bxf 4
    simp at y0 y1 y2 y3 y4
    clear bxf b1 BX1 L1 AL CY
    go_wp2_with fail
    refine (CR.out (by first | trivial | rfl) _ BB.out).mono ?_
    rintro e3 w3 ⟨v3, rows3, rfl, hrl, o3, r3, b3⟩
    obtain ⟨g3, c3, hv3, _⟩ := id o3
    rw [hrl] at hv3
    subst hv3
    have HRL := hideP hrl
    have L3 := hideP (L2.out.stays b3)
    have B3 := hideP (below_trans BB.out b3)
    have RB3 : Hid (RbAt blocks.length (w1.heap.size + 1) (.slice (some ⟨g3, 0, none⟩) blocks.length c3) rows3 (fun i k => rulB blocks (i : Int) (k : Int)) w3) := ⟨o3, fun i hi => (r3 i hi).1⟩
    obtain ⟨lo3, hlo3⟩ : ∃ lo3, w1.heap.size + 1 = lo3 := ⟨_, rfl⟩
    rw [hlo3] at RB3
    clear o3 r3 b3 L2 BB BX y0 y1 y2 y3 y4 CR hrl hlo3
    go_wp2
    go_loopg [3, 5] blocks.length (fun hk o ix wr => ∃ (j : Nat) (rows : List (Nat × Nat × Nat)), hk + j = blocks.length ∧ ix = .int .i64 j ∧ Hid (LlAt wr (w.heap.size + 1) o rows (rulUp blocks j)) ∧ Hid (RbAt blocks.length lo3 (.slice (some ⟨g3, 0, none⟩) blocks.length c3) rows3 (fun i k => rulB blocks (i : Int) (k : Int)) wr) ∧ Hid (Below w.heap.size w wr))
    case atStart => exact ⟨0, [], by simp, rfl, L3.out, RB3.out, B3.out⟩
    case round =>
      obtain ⟨j, rows, hj, rfl, hL, hR, hB⟩ := hrel
      clear L3 RB3 B3
      obtain ⟨wo, hwo⟩ : ∃ wo, wo = wr := ⟨_, rfl⟩
      subst hwo
      obtain ⟨gO, cO, hvO, _⟩ := id hL.out.own
      have hrj : rows.length = j := by rw [hL.out.len, rulUp_len]
      have HRJ := hideP hrj
      subst hvO
      by_cases hlt : j < blocks.length
      · have hgO := hL.out.own.low gO rfl
        have RLT : Hid (∀ i (hi : i < rows.length), (rows[i]).1 < wo.heap.size) := fun i hi => ((hL.out.each i hi).low _ rfl).2
        have al := (Below.refl wo.heap.size wo).alloc (Nat.le_refl _) (.cells #[] 3)
        have I0 : Hid (OwnI (wo.alloc (.cells #[] 3)) wo.heap.size (.slice (some ⟨wo.heap.size, 0, none⟩) 0 0) []) := by
          have := own_lit wo [] #[] wo.heap.size 0 rfl rfl rfl (by simp)
          show OwnI _ _ _ _
          simpa using this
        have L4 := hideP (hL.out.stays al)
        have R4 := hideP (hR.out.stays al)
        have B4 := hideP (below_trans hB.out al)
        clear al hL hR hB hrj
        go_wp2
        go_loopg [6, 7] blocks.length (fun hk o ix W => ∃ i : Nat, hk + i = blocks.length ∧ ix = .int .i64 i ∧ Hid (OwnI W wo.heap.size o (upB (fun i => rulB blocks (i : Int) (j : Int)) i)) ∧ Hid (LlAt W (w.heap.size + 1) (.slice (some ⟨gO, 0, none⟩) rows.length cO) rows (rulUp blocks j)) ∧ Hid (RbAt blocks.length lo3 (.slice (some ⟨g3, 0, none⟩) blocks.length c3) rows3 (fun i k => rulB blocks (i : Int) (k : Int)) W) ∧ Hid (Below w.heap.size w W) ∧ Hid (wo.heap.size ≤ W.heap.size))
        case atStart => exact ⟨0, by simp, rfl, I0.out, L4.out, R4.out, B4.out, by show _ ≤ _; simp⟩
        case round =>
          obtain ⟨i, hi, rfl, ho, hl, hr, hb, hz⟩ := hrel
          clear I0 L4 R4 B4
          by_cases hil : i < blocks.length
          · obtain ⟨m0, m1⟩ := hr.out.at (i := i) (k := j) (by rw [HRL.out]; exact hil) hlt
            obtain ⟨gr, hgr⟩ : ∃ gr, rows3[i]'(by rw [HRL.out]; exact hil) = gr := ⟨_, rfl⟩
            rw [hgr] at m0 m1
            clear hgr
            by_cases hin2 : rulB blocks (i : Int) (j : Int) = true
            · rw [hin2] at m1
              have UP : Hid (upB (fun i => rulB blocks (i : Int) (j : Int)) (i + 1) = upB (fun i => rulB blocks (i : Int) (j : Int)) i ++ [(i : Int)]) := if_pos hin2
              obtain ⟨U, hU⟩ : ∃ U, upB (fun i => rulB blocks (i : Int) (j : Int)) i = U := ⟨_, rfl⟩
              have hlen : U.length ≤ i := by rw [← hU]; exact upB_len _ i
              rw [hU] at UP ho
              clear hU hin2
              obtain ⟨g5, c5, rfl, _⟩ := id ho.out
              have al := (Below.refl wr.heap.size wr).alloc (Nat.le_refl _) (.cells #[.int .i64 (i : Int)] 3)
              have OC := hideP (ho.out.stays al)
              have OD := hideP (own_lit wr [(i : Int)] #[.int .i64 (i : Int)] wr.heap.size 1 rfl rfl rfl (by simp))
              have LC := hideP (hl.out.stays al)
              have RC := hideP (hr.out.stays al)
              have BC := hideP (hb.out.alloc hb.out.size (.cells #[.int .i64 (i : Int)] 3))
              have SC : Hid (wo.heap.size ≤ (wr.alloc (.cells #[.int .i64 (i : Int)] 3)).heap.size) := by have := hz.out; show _ ≤ _; simp; omega
              clear al
              go_wp2_with (at_builtin; refine list_appI _ rfl _ _ rfl wo.heap.size _ U [(i : Int)] wr.heap.size 0 1 1 rfl rfl rfl OC.out OD.out.at (by simp; omega) SC.out ?_; intro v6 w6 o6 grow6 loc6)
              replace grow6 : World.grownBy _ w6 (some g5) := grow6
              obtain ⟨ct, TY⟩ := OC.out.typ (g := g5) rfl
              have hg5 := OC.out.low g5 rfl
              have L6 := hideP (LC.out.grown grow6 TY (fun a ha => by have := RLT.out a ha; omega))
              have R6 := hideP (RC.out.typed grow6 TY (by show ¬ ((3 : Nat) = 4); decide) (by show ¬ ((3 : Nat) = 53); decide))
              have B6 := hideP (BC.out.grown grow6 BC.out.size (fun b' hb' => by injection hb' with e; omega))
              have Z6 : Hid (wo.heap.size ≤ w6.heap.size) := Nat.le_trans SC.out grow6.size
              obtain ⟨g6, c6, rfl, _⟩ := id o6
              have O6 := hideP o6
              clear o6 grow6 loc6 TY
              go_wp2
              go_roundg (blocks.length - (i + 1))
              case rel => exact ⟨i + 1, by omega, by go_num, by rw [UP.out]; simpa using O6, L6.out, R6.out, B6.out, Z6.out⟩
              case measure => omega
            · rw [Bool.not_eq_true] at hin2
              rw [hin2] at m1
              have UP : Hid (upB (fun i => rulB blocks (i : Int) (j : Int)) (i + 1) = upB (fun i => rulB blocks (i : Int) (j : Int)) i) := if_neg (by show ¬ rulB blocks (i : Int) (j : Int) = true; rw [hin2]; simp)
              clear hin2
              go_wp2
              go_roundg (blocks.length - (i + 1))
              case rel => exact ⟨i + 1, by omega, by go_num, by rw [UP.out]; exact ho.out, hl.out, hr.out, hb.out, hz.out⟩
              case measure => omega
          · have hin : i = blocks.length := by omega
            subst hin
            have UP := hideP (rulUp_succ blocks j)
            obtain ⟨U, hU⟩ : ∃ U, upB (fun i => rulB blocks (i : Int) (j : Int)) blocks.length = U := ⟨_, rfl⟩
            rw [hU] at UP ho
            clear hU
            obtain ⟨g5, c5, rfl, _⟩ := id ho.out
            have hg5 := ho.out.low g5 rfl
            have al := (Below.refl wr.heap.size wr).alloc (Nat.le_refl _) (.cells #[.slice (some ⟨g5, 0, none⟩) U.length c5] 22)
            have OA := hideP (hl.out.own.stays al)
            have CQ : Hid (∀ r, r < LsE.sz → (wr.alloc (.cells #[.slice (some ⟨g5, 0, none⟩) U.length c5] 22)).cell? ⟨wr.heap.size, 0 + r, none⟩ = (LsE.cs (g5, U.length, c5))[r]?) := fun r _ => by
              have hnw : (wr.alloc (.cells #[.slice (some ⟨g5, 0, none⟩) U.length c5] 22)).heap[wr.heap.size]? = some (.cells #[.slice (some ⟨g5, 0, none⟩) U.length c5] 22) := by show (wr.heap.push _)[wr.heap.size]? = _; exact Array.getElem?_push_size
              have := (cells_of hnw).1 r
              rw [Nat.zero_add, this]; simp [LsE]
            have hsz1 : Hid (w.heap.size + 1 ≤ (wr.alloc (.cells #[.slice (some ⟨g5, 0, none⟩) U.length c5] 22)).heap.size) := by have := (hl.out.own.low gO rfl); show _ ≤ _; simp; omega
            have GR := hideP (fun v' W' hO hG => hl.out.grow (v' := v') (W' := W') (o := .cells #[.slice (some ⟨g5, 0, none⟩) U.length c5] 22) (g := g5) (n := U.length) (cap := c5) (l := U) (ho.out.mono (by omega)) (fun a ha => by have := RLT.out a ha; omega) hO hG)
            have RC := hideP (hr.out.stays al)
            have BC := hideP (hb.out.alloc hb.out.size (.cells #[.slice (some ⟨g5, 0, none⟩) U.length c5] 22))
            obtain ⟨ct, TY⟩ := (hl.out.stays al).typ (g := gO) rfl
            have HTY := hideP TY
            clear al TY ho hl hr hb
            go_wp2_with (at_builtin; refine list_appE LsOk _ rfl _ _ rfl (w.heap.size + 1) _ rows (g5, U.length, c5) wr.heap.size 0 1 rfl rfl OA.out CQ.out (by rw [HRJ.out]; omega) hsz1.out ?_; intro v6 w6 o6 grow6 loc6)
            have L6 := hideP (GR.out v6 w6 o6 grow6)
            replace grow6 : World.grownBy _ w6 (some gO) := grow6
            have R6 := hideP (RC.out.typed grow6 HTY.out (by show ¬ ((22 : Nat) = 4); decide) (by show ¬ ((22 : Nat) = 53); decide))
            have B6 := hideP (BC.out.grown grow6 BC.out.size (fun b' hb' => by injection hb' with e; omega))
            clear o6 grow6 loc6 OA CQ hsz1 GR HTY RC BC
            go_wp2
            go_roundg (blocks.length - (j + 1))
            case rel => exact ⟨j + 1, _, by omega, by go_num, by rw [UP.out]; exact L6.out, R6.out, B6.out⟩
            case measure => omega
      · have hjn : j = blocks.length := by omega
        subst hjn
        go_wp2
        go_ret
        exact ⟨_, rows, rfl, by rw [E.out]; exact hL.out, hB.out⟩
end Go.Proofs.Ytooaoankloocmaa
