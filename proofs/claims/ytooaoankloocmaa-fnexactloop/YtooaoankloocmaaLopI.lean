/- The contract of impl.Loop. -/
import Derived.Test.YtooaoankloocmaaLpwI
import Derived.Test.YtooaoankloocmaaBksI
import Derived.Test.YtooaoankloocmaaCnI
import Derived.Test.YtooaoankloocmaaSrtI
namespace Go.Proofs.Ytooaoankloocmaa
open Go.ChangeShapes Go.WideShapes Go.ChangeAt Go.RowKit Go.Maps
open Classical in
theorem loop_srt (xs : List Blk) (a hd : Int) : srtP (LopM xs a hd) xs.length = lopTo xs a hd := rfl
open Classical in
set_option maxRecDepth 100000 in
set_option maxHeartbeats 4000000 in
theorem impl_loop (g : Gr) (a hd : Int) (w : World) (B : Nat) (v : Array Value) (h : GrIs w B v g) (GO : OkIs 65 g) :
    Calls Try.prog 33 #[.agg v, .int .i64 a, .int .i64 hd] w fun en w' => ∃ v', en = .returned v' ∧ NumN w' w.heap.size v' (loopP g a hd) ∧ Below w.heap.size w w' := by
  have CB := hideP (fun W (hW : Below w.heap.size w W) => impl_backs g W B v (GrKeeps.stays h hW) GO)
  have HG := hideP h
  obtain ⟨y, hy⟩ : ∃ y, decide (∃ p ∈ backsP g, (p.1 : Int) = a ∧ (p.2 : Int) = hd) = y := ⟨_, rfl⟩
  have CC : Hid (∀ W B2 v2, OwnE A2E W B2 v2 (backsP g) → Calls Try.prog 57 #[v2, .agg #[.int .i64 a, .int .i64 hd]] W fun en w' => en = .returned (.bool y) ∧ Below W.heap.size W w') := fun W B2 v2 h2 => by rw [← hy]; exact contains_any _ a hd W B2 v2 h2 (backsP_len g)
  have CAH : Hid (y = true → ∀ W, Below w.heap.size w W → Calls Try.prog 58 #[.agg v] W fun e w' => AhdMade W g.blocks e w') := fun e W hW => by
    obtain ⟨p, hp, _⟩ := of_decide_eq_true (hy.trans e)
    exact aheads_any g W B v (GrKeeps.stays h hW) (backs_in hp).1
  have EP : Hid ((y = false → loopP g a hd = []) ∧ (y = true → loopP g a hd = lopTo g.blocks a hd ∧ InR g.blocks.length a ∧ InR g.blocks.length hd ∧ g.blocks.length ≤ 300)) := by
    refine ⟨fun e => if_neg (of_decide_eq_false (hy.trans e)), fun e => ?_⟩
    have h1 := of_decide_eq_true (hy.trans e)
    obtain ⟨p, hp, e1, e2⟩ := h1
    obtain ⟨hok, b1, b2, _⟩ := backs_in hp
    exact ⟨if_pos ⟨p, hp, e1, e2⟩, ⟨by omega, by omega⟩, ⟨by omega, by omega⟩, (grOk_blocks hok).2⟩
  obtain ⟨P, hP⟩ : ∃ P, loopP g a hd = P := ⟨_, rfl⟩
  rw [hP] at EP ⊢
  clear hP hy GO
  obtain ⟨sizes, params, vars, slots, blocks⟩ := g
  obtain ⟨us, cs, ub, cb, rfl, _, _, _⟩ := h
  simp only at *
  have AL := hideP ((Below.refl w.heap.size w).alloc (Nat.le_refl _) (.cells #[.slice us sizes.length cs, .int .i64 params, .int .i64 vars, .int .i64 slots, .slice ub blocks.length cb] 31))
  have BX1 := hideP (newB8 w (.cells #[.slice us sizes.length cs, .int .i64 params, .int .i64 vars, .int .i64 slots, .slice ub blocks.length cb] 31))
  cases y with
  | false =>
    have E0 := hideP (EP.out.1 rfl)
    clear EP CAH
    go_enter Try.func33, Try.ntmps33
    go_wp2_with fail
    refine (CB.out _ AL.out).mono ?_
    rintro e1 w1 ⟨v1, rfl, o1, b1⟩
    have C1 := hideP (CC.out w1 _ v1 o1)
    have B1 := hideP (below_trans AL.out b1)
    obtain ⟨g1, c1, hv1, _⟩ := id o1
    subst hv1
    clear o1 b1 CB CC
    go_wp2_with fail
    refine C1.out.mono ?_
    rintro e2 w2 ⟨rfl, b2⟩
    have B2 := hideP (below_trans B1.out b2)
    have OO := hideP (own_lit w2 [] #[] w2.heap.size 0 rfl rfl rfl (by simp))
    clear b2 C1
    go_wp2
    go_ret
    exact ⟨_, rfl, Or.inr (by rw [E0.out]; exact OO.out.mono B2.out.size), B2.out.alloc B2.out.size _⟩
  | true =>
    have CA := hideP (CAH.out rfl)
    obtain ⟨e1, e2, e3, hn⟩ := EP.out.2 rfl
    have E1 := hideP e1
    have IA := hideP e2
    have IH := hideP e3
    clear EP CAH e1 e2 e3
    go_enter Try.func33, Try.ntmps33
    go_wp2_with fail
    refine (CB.out _ AL.out).mono ?_
    rintro e1 w1 ⟨v1, rfl, o1, b1⟩
    have C1 := hideP (CC.out w1 _ v1 o1)
    have B1 := hideP (below_trans AL.out b1)
    have X1 := hideP ((b1.block _ (hltP BX1.out)).trans BX1.out)
    obtain ⟨g1, c1, hv1, _⟩ := id o1
    subst hv1
    clear o1 b1 CB CC BX1 AL
    go_wp2_with fail
    refine C1.out.mono ?_
    rintro e2 w2 ⟨rfl, b2⟩
    have B2 := hideP (below_trans B1.out b2)
    have bxf := (cells_of ((b2.block _ (hltP X1.out)).trans X1.out)).1
    have y0 := bxf 0
    have y1 := bxf 1
    have y2 := bxf 2
    have y3 := bxf 3
    have y4 := bxf 4
    simp at y0 y1 y2 y3 y4
    clear b2 C1 bxf X1 B1
    go_wp2_with fail
    refine (CA.out _ B2.out).mono ?_
    rintro e3 w3 ⟨ga, av, pre, rfl, a3, hp3, hs3, _, b3⟩
    have al := (Below.refl w3.heap.size w3).alloc (Nat.le_refl _) (.cells #[.int .i64 a] 3)
    have HP := hideP hp3
    have CL := hideP (loop_any blocks.length pre [a] hd _ _ ga _ av _ (a3.stays al) (own_lit w3 [a] #[.int .i64 a] w3.heap.size 1 rfl rfl rfl (by simp)) (fun i hi y hy => prdL_in y ((hp3 i hi y).1 hy)) (fun y hy => by rw [List.mem_singleton.1 hy]; exact IA.out) IH.out hn (by simp; omega))
    have B3 := hideP (below_trans (below_trans B2.out b3) al)
    clear a3 hp3 hs3 b3 al CA B2 y0 y1 y2 y3 y4
    go_wp2_with fail
    refine CL.out.mono ?_
    rintro e4 w4 ⟨m4, n4, l4, rfl, _, s4, hn4, hl4, b4⟩
    have CS := hideP (sorted_any (LopM blocks a hd) blocks.length l4 w4 m4 n4 s4 (fun y => (hl4 y).trans (or_congr_right (way_prd HP.out (fun z hz => by rw [List.mem_singleton.1 hz]; exact IA.out)))) (fun y hy => lopM_in IA.out IH.out hy) (by omega))
    have B4 := hideP (below_trans B3.out b4)
    clear s4 hl4 b4 CL B3
    go_wp2_with fail
    refine CS.out.mono ?_
    rintro e6 w6 ⟨v6, rfl, o6, b6⟩
    have O6 : Hid (NumN w6 w.heap.size v6 P) := by rw [E1.out, ← loop_srt]; exact o6.elim Or.inl (fun h => Or.inr (h.mono B4.out.size))
    have B6 := hideP (below_trans B4.out b6)
    clear o6 b6 CS B4
    go_wp2
    go_ret
    exact ⟨_, rfl, O6.out, B6.out⟩
end Go.Proofs.Ytooaoankloocmaa
