/- The contract of impl.Known. -/
import Derived.Test.YtgiboadcfnfooabEndsI
namespace Go.Proofs.Ytgiboadcfnfooab
open Go.ChangeShapes Go.WideShapes Go.ChangeAt Go.RowKit
set_option maxRecDepth 100000 in
set_option maxHeartbeats 4000000 in
theorem impl_known (g : Gr) (n : Int) (w : World) (B : Nat) (v : Array Value) (h : GrIs w B v g) (GO : OkIs 49 g) :
    Calls Try.prog 12 #[.agg v, .int .i64 n] w fun en w' => ∃ v', en = .returned v' ∧ OwnI w' w.heap.size v' (knownP g n) ∧ Below w.heap.size w w' := by
  have hG := hideP h
  have HB1 : Hid (∀ W A v, GrIs W A v g → Calls Try.prog 32 #[.agg v, .int .i64 n] W fun en w' => en = .returned (.bool (decide (hasB6 g n))) ∧ Below W.heap.size W w') := fun W A v hv => hasBlock_any g n W A v hv GO
  clear GO
  by_cases hb6 : hasB6 g n
  · rw [show knownP g n = knownUp (ledP g.slots.toNat (codeAt g n)).slots (ledP g.slots.toNat (codeAt g n)).slots.length from if_pos hb6]
    rw [decide_eq_true hb6] at HB1
    obtain ⟨i, V, rfl, hV, hV1, hi, hce, hcl, hall⟩ := hasB6_ok hb6
    rw [hce, hV]
    obtain ⟨sizes, params, vars, slots, blocks⟩ := g
    obtain ⟨us, cs, ub, cb, rfl, _, _, hbs⟩ := h
    simp only at *
    subst hV
    have CO : Hid (CodeOk (sizes.length : Nat) V (blocks[i]).code) := by
      obtain ⟨_, _, _, _, _, _, _, hcode⟩ := code_of hbs i hi
      exact ⟨hcl, hV1, fun x hx => ⟨hall x hx, ins_i64 hcode x hx⟩⟩
    have HBS := hideP hbs
    have BW := hideP ((Below.refl w.heap.size w).alloc (Nat.le_refl _) (.cells #[.slice us sizes.length cs, .int .i64 params, .int .i64 vars, .int .i64 (V : Int), .slice ub blocks.length cb] 32))
    have Q := hideP (heap_alloc_new w (.cells #[.slice us sizes.length cs, .int .i64 params, .int .i64 vars, .int .i64 (V : Int), .slice ub blocks.length cb] 32))
    clear hce hb6 hall hbs
    go_enter Try.func12, Try.ntmps12
    go_wp2_with fail
    refine (HB1.out _ B _ (GrKeeps.stays hG.out BW.out)).mono ?_
    rintro e1 w1 ⟨rfl, bel1⟩
    have BB := hideP (below_trans BW.out bel1)
    have Q1 := (bel1.block w.heap.size (Array.getElem?_eq_some_iff.1 Q.out).1).trans Q.out
    have p := (cells_of Q1).1
    have p0 := p 0
    have p1 := p 1
    have p2 := p 2
    have p3 := p 3
    have p4 := p 4
    simp at p0 p1 p2 p3 p4
    clear bel1 p Q1 Q HB1
    go_wp2_with fail
    refine (ledgerBehind_any sizes params vars V blocks i _ B us cs cb ub (HBS.out.stays BlkKeeps BB.out) hi CO.out).mono ?_
    rintro e2 w2 ⟨L, S, rfl, led, bel2⟩
    have LD := hideP led
    have B2 := hideP (below_trans BB.out bel2)
    have hln : (ledP V (blocks[i]).code).slots.length ≤ 1000 := by
      have := ledP_ok (fun x hx => CO.out.2.2 x hx) (blocks[i]).code.length (Nat.le_refl _)
      rw [List.take_length] at this
      rw [this.1.1]; exact hV1
    clear led bel2 p0 p1 p2 p3 p4
    go_wp2_with fail
    refine (known_any _ L S _ LD.out hln).mono ?_
    rintro e3 w3 ⟨v3, rfl, o3, bel3⟩
    have O3 := hideP (o3.mono B2.out.size)
    have B3 := hideP (below_trans B2.out bel3)
    clear o3 bel3
    go_wp2
    go_ret
    exact ⟨_, rfl, O3.out, B3.out⟩
  · rw [show knownP g n = [] from if_neg hb6]
    rw [decide_eq_false hb6] at HB1
    obtain ⟨sizes, params, vars, slots, blocks⟩ := g
    obtain ⟨us, cs, ub, cb, rfl, _, _, hbs⟩ := h
    simp only at *
    have BW := hideP ((Below.refl w.heap.size w).alloc (Nat.le_refl _) (.cells #[.slice us sizes.length cs, .int .i64 params, .int .i64 vars, .int .i64 slots, .slice ub blocks.length cb] 32))
    clear hbs hb6
    go_enter Try.func12, Try.ntmps12
    go_wp2_with fail
    refine (HB1.out _ B _ (GrKeeps.stays hG.out BW.out)).mono ?_
    rintro e1 w1 ⟨rfl, bel1⟩
    have BB := hideP (below_trans BW.out bel1)
    clear bel1
    have O1 : Hid (OwnI (w1.alloc (.cells #[] 3)) w1.heap.size (.slice (some ⟨w1.heap.size, 0, none⟩) 0 0) []) := own_lit w1 [] #[] w1.heap.size 0 rfl rfl rfl (by simp)
    go_wp2
    go_ret
    exact ⟨_, rfl, O1.out.mono BB.out.size, below_trans BB.out ((Below.refl _ _).alloc (Nat.le_refl _) _)⟩
end Go.Proofs.Ytgiboadcfnfooab
