/- The contract of spec.Loop. -/
import Derived.Test.YtooaoankloocmaaLopS
import Derived.Test.YtooaoankloocmaaBksS
import Derived.Test.YtooaoankloocmaaCnI
namespace Go.Proofs.Ytooaoankloocmaa
open Go.ChangeShapes Go.WideShapes Go.ChangeAt Go.RowKit
set_option maxRecDepth 100000 in
set_option maxHeartbeats 4000000 in
theorem spec_loop (g : Gr) (a hd : Int) (w : World) (B : Nat) (v : Array Value) (h : GrIs w B v g) (GO : OkIs 36 g) :
    Calls Try.prog 32 #[.agg v, .int .i64 a, .int .i64 hd] w fun en w' => ∃ v', en = .returned v' ∧ OwnI w' w.heap.size v' (loopP g a hd) ∧ Below w.heap.size w w' := by
  have CB := hideP (fun W (hW : Below w.heap.size w W) => spec_backs g W B v (GrKeeps.stays h hW) GO)
  have CL : Hid (∀ p ∈ backsP g, (p.1 : Int) = a ∧ (p.2 : Int) = hd → ∀ W, Below w.heap.size w W → Calls Try.prog 56 #[.agg v, .int .i64 a, .int .i64 hd] W fun en w' => ∃ v', en = .returned v' ∧ OwnI w' W.heap.size v' (loopP g a hd) ∧ Below W.heap.size W w') := fun p hp he W hW => by
    obtain ⟨hok, b1, b2, _⟩ := backs_in hp
    have e : loopP g a hd = lopTo g.blocks a hd := if_pos ⟨p, hp, he⟩
    rw [e]
    exact spec_l10Loop g a hd W B v (GrKeeps.stays h hW) hok ⟨by omega, by omega⟩ ⟨by omega, by omega⟩ GO
  have NO : Hid ((∀ p ∈ backsP g, ¬ ((p.1 : Int) = a ∧ (p.2 : Int) = hd)) → loopP g a hd = []) := fun h => if_neg (fun ⟨p, hp, he⟩ => h p hp he)
  have BLN := hideP (backsP_len g)
  obtain ⟨P, hP⟩ : ∃ P, loopP g a hd = P := ⟨_, rfl⟩
  obtain ⟨L, hL⟩ : ∃ L, backsP g = L := ⟨_, rfl⟩
  rw [hP] at CL NO ⊢
  rw [hL] at CB CL NO BLN
  clear hP hL GO
  obtain ⟨sizes, params, vars, slots, blocks⟩ := g
  obtain ⟨us, cs, ub, cb, rfl, _, _, _⟩ := h
  simp only at *
  have hLl := BLN.out
  have AL := hideP ((Below.refl w.heap.size w).alloc (Nat.le_refl _) (.cells #[.slice us sizes.length cs, .int .i64 params, .int .i64 vars, .int .i64 slots, .slice ub blocks.length cb] 31))
  have BX1 := hideP (newB8 w (.cells #[.slice us sizes.length cs, .int .i64 params, .int .i64 vars, .int .i64 slots, .slice ub blocks.length cb] 31))
  go_enter Try.func32, Try.ntmps32
  go_wp2_with fail
  refine (CB.out _ AL.out).mono ?_
  rintro e1 w1 ⟨v1, rfl, o1, b1⟩
  have O1 := hideP o1
  have B1 := hideP (below_trans AL.out b1)
  have X1 := hideP ((b1.block _ (hltP BX1.out)).trans BX1.out)
  obtain ⟨g1, c1, hv1, _⟩ := id o1
  subst hv1
  clear o1 b1 CB BX1 AL
  go_wp2
  go_loopg [8] L.length (fun gk ix wr => ∃ i : Nat, gk + i = L.length ∧ ix = .int .i64 i ∧ wr = w1 ∧ Hid (∀ p ∈ L.take i, ¬ ((p.1 : Int) = a ∧ (p.2 : Int) = hd)))
  case atStart => exact ⟨0, by simp, rfl, rfl, by show ∀ p ∈ _, _; simp⟩
  case round =>
    obtain ⟨i, hi, rfl, rfl, hN⟩ := hrel
    by_cases hil : i < L.length
    · obtain ⟨p, hp⟩ : ∃ p, L[i] = p := ⟨_, rfl⟩
      have q0 := O1.out.at A2Ok i hil 0 (by decide)
      have q1 := O1.out.at A2Ok i hil 1 (by decide)
      rw [hp] at q0 q1
      simp [A2E] at q0 q1
      have PM : Hid (p ∈ L) := hp ▸ List.getElem_mem hil
      have TK : Hid (L.take (i + 1) = L.take i ++ [p]) := by show _ = _; rw [List.take_succ_eq_append_getElem hil, hp]
      by_cases hq : (p.1 : Int) = a ∧ (p.2 : Int) = hd
      · have hd2 : (decide ((p.1 : Int) = a) && decide ((p.2 : Int) = hd)) = true := by simp [hq]
        have eq2 : ∀ W : World, (binOp .eql 76 (.agg #[.int .i64 (p.1 : Int), .int .i64 (p.2 : Int)]) (.agg #[.int .i64 a, .int .i64 hd])).run Try.prog W = .ok (.bool true) W := fun W => by rw [← hd2]; exact eqlA2 _ _ _ _ W
        have C1 := hideP (CL.out p PM.out hq _ B1.out)
        have bxf := (cells_of X1.out).1
        have y0 := bxf 0
        have y1 := bxf 1
        have y2 := bxf 2
        have y3 := bxf 3
        have y4 := bxf 4
        simp at y0 y1 y2 y3 y4
        clear bxf hq hd2 hp
        go_wp2_with fail
        refine C1.out.mono ?_
        rintro e4 w4 ⟨v4, rfl, o4, b4⟩
        have O4 := hideP (o4.mono B1.out.size)
        have B4 := hideP (below_trans B1.out b4)
        clear o4 b4 C1
        go_wp2
        go_ret
        exact ⟨_, rfl, O4.out, B4.out⟩
      · have hd2 : (decide ((p.1 : Int) = a) && decide ((p.2 : Int) = hd)) = false := by
          rw [Bool.and_eq_false_iff, decide_eq_false_iff_not, decide_eq_false_iff_not]
          cases Classical.em ((p.1 : Int) = a) with
          | inl h => exact Or.inr (fun h2 => hq ⟨h, h2⟩)
          | inr h => exact Or.inl h
        have eq2 : ∀ W : World, (binOp .eql 76 (.agg #[.int .i64 (p.1 : Int), .int .i64 (p.2 : Int)]) (.agg #[.int .i64 a, .int .i64 hd])).run Try.prog W = .ok (.bool false) W := fun W => by rw [← hd2]; exact eqlA2 _ _ _ _ W
        have N2 : Hid (∀ p ∈ L.take (i + 1), ¬ ((p.1 : Int) = a ∧ (p.2 : Int) = hd)) := fun z hz => by
          rw [TK.out] at hz
          rcases List.mem_append.1 hz with hz | hz
          · exact hN.out z hz
          · rw [List.mem_singleton.1 hz]; exact hq
        clear hd2 hq hp
        go_wp2
        go_roundg (L.length - (i + 1))
        case rel => exact ⟨i + 1, by omega, by go_num, rfl, N2.out⟩
        case measure => omega
    · have hin : i = L.length := by omega
      subst hin
      have E0 := hideP (NO.out (fun p hp => hN.out p (by rw [List.take_length]; exact hp)))
      have OO := hideP (own_lit wr [] #[] wr.heap.size 0 rfl rfl rfl (by simp))
      go_wp2
      go_ret
      exact ⟨_, rfl, by rw [E0.out]; exact OO.out.mono B1.out.size, B1.out.alloc B1.out.size _⟩
end Go.Proofs.Ytooaoankloocmaa
