/- The contract of impl.Places. -/
import Derived.Test.YtgiboadcfnfooaaHasI
import Derived.Test.YtgiboadcfnfooaaPlcI
namespace Go.Proofs.Ytgiboadcfnfooaa
open Go.ChangeShapes Go.WideShapes Go.ChangeAt Go.RowKit
set_option maxRecDepth 100000 in
set_option maxHeartbeats 4000000 in
theorem impl_places (g : Gr) (n : Int) (w : World) (B : Nat) (v : Array Value) (h : GrIs w B v g) (GO : OkIs 45 g) :
    Calls Try.prog 16 #[.agg v, .int .i64 n] w fun en w' => ∃ v', en = .returned v' ∧ OwnE PlE w' w.heap.size v' (placesP g n) ∧ Below w.heap.size w w' := by
  have hG := hideP h
  have HB1 : Hid (∀ W A v, GrIs W A v g → Calls Try.prog 31 #[.agg v, .int .i64 n] W fun en w' => en = .returned (.bool (decide (hasB6 g n))) ∧ Below W.heap.size W w') := fun W A v hv => hasBlock_any g n W A v hv GO
  clear GO
  by_cases hb6 : hasB6 g n
  · rw [show placesP g n = placesUp g.slots.toNat (codeAt g n) (codeAt g n).length from if_pos hb6]
    rw [decide_eq_true hb6] at HB1
    obtain ⟨i, V, rfl, hV, hV1, hi, hce, hcl, hall⟩ := hasB6_ok hb6
    rw [hce, hV]
    obtain ⟨sizes, params, vars, slots, blocks⟩ := g
    obtain ⟨us, cs, ub, cb, rfl, _, _, hbs⟩ := h
    simp only at *
    subst hV
    obtain ⟨bb, oo, u, k, rfl, hbb, hcell, hcode⟩ := code_of hbs i hi
    have hl := hbs.1
    have hm := maxLen_lt
    have CO : Hid (CodeOk (sizes.length : Nat) V (blocks[i]).code) := ⟨hcl, hV1, fun x hx => ⟨hall x hx, ins_i64 hcode x hx⟩⟩
    have HC := hideP hcode
    have BW := hideP ((Below.refl w.heap.size w).alloc (Nat.le_refl _) (.cells #[.slice us sizes.length cs, .int .i64 params, .int .i64 vars, .int .i64 (V : Int), .slice (some ⟨bb, oo, none⟩) blocks.length cb] 30))
    have Q := hideP (heap_alloc_new w (.cells #[.slice us sizes.length cs, .int .i64 params, .int .i64 vars, .int .i64 (V : Int), .slice (some ⟨bb, oo, none⟩) blocks.length cb] 30))
    clear hce hb6 hall hbs hcode
    obtain ⟨code, hcd⟩ : ∃ code, (blocks[i]).code = code := ⟨_, rfl⟩
    rw [hcd] at CO HC hcell hcl ⊢
    clear hcd
    go_enter Try.func16, Try.ntmps16
    go_wp2_with fail
    refine (HB1.out _ B _ (GrKeeps.stays hG.out BW.out)).mono ?_
    rintro e1 w1 ⟨rfl, bel1⟩
    have BB := hideP (below_trans BW.out bel1)
    have Q1 := (bel1.block w.heap.size (Array.getElem?_eq_some_iff.1 Q.out).1).trans Q.out
    have hs1 : w.heap.size < w1.heap.size := (Array.getElem?_eq_some_iff.1 Q1).1
    have p := (cells_of Q1).1
    have hbw : bb < w1.heap.size := Nat.lt_of_lt_of_le hbb BB.out.size
    have hc1 := (BB.out.cell (p := ⟨bb, oo + i * 5, none⟩) hbb).trans hcell
    have SK : Hid (∀ W', Below w1.heap.size w1 W' → W'.cell? ⟨w.heap.size, 3, none⟩ = some (.int .i64 (V : Int)) ∧ W'.cell? ⟨w.heap.size, 4, none⟩ = some (.slice (some ⟨bb, oo, none⟩) blocks.length cb) ∧ W'.cell? ⟨bb, oo + i * 5, none⟩ = some (.slice u code.length k)) := fun W' h => ⟨(h.cell (p := ⟨w.heap.size, 3, none⟩) hs1).trans (p 3), (h.cell (p := ⟨w.heap.size, 4, none⟩) hs1).trans (p 4), (h.cell (p := ⟨bb, oo + i * 5, none⟩) hbw).trans hc1⟩
    clear bel1 p Q1 hs1 hc1 hcell Q HB1
    go_upto_region 3 with fail
    go_region_held3 (fun W' => W'.cell? ⟨w.heap.size, 3, none⟩ = some (.int .i64 (V : Int)) ∧ W'.cell? ⟨w.heap.size, 4, none⟩ = some (.slice (some ⟨bb, oo, none⟩) blocks.length cb) ∧ W'.cell? ⟨bb, oo + i * 5, none⟩ = some (.slice u code.length k)) (first | exact SK.out _ (Below.refl _ _).drew | exact SK.out _ HBa.out) (first
      | (go_at_call 39; refine (placesOf_any code V (sizes.length : Nat) _ B u k (HC.out.stays InsKeeps (below_trans BB.out (Below.refl _ _).drew)) CO.out).mono ?_; rintro e2 w2 ⟨v2, rfl, o2, bel2⟩; have HBa := hideP ((Below.refl w1.heap.size w1).drew.trans (bel2.mono (Nat.le_refl _))); have O2 := hideP (o2.mono BB.out.size); clear o2 bel2))
    all_goals go_wp2
    all_goals go_ret
    all_goals exact ⟨_, rfl, O2.out, below_trans BB.out HBa.out⟩
  · rw [show placesP g n = [] from if_neg hb6]
    rw [decide_eq_false hb6] at HB1
    obtain ⟨sizes, params, vars, slots, blocks⟩ := g
    obtain ⟨us, cs, ub, cb, rfl, _, _, hbs⟩ := h
    simp only at *
    have BW := hideP ((Below.refl w.heap.size w).alloc (Nat.le_refl _) (.cells #[.slice us sizes.length cs, .int .i64 params, .int .i64 vars, .int .i64 slots, .slice ub blocks.length cb] 30))
    clear hbs hb6
    go_enter Try.func16, Try.ntmps16
    go_wp2_with fail
    refine (HB1.out _ B _ (GrKeeps.stays hG.out BW.out)).mono ?_
    rintro e1 w1 ⟨rfl, bel1⟩
    have BB := hideP (below_trans BW.out bel1)
    clear bel1
    go_wp2
    go_ret
    exact ⟨_, rfl, (own_nil PlOk w1 w1.heap.size rfl).mono BB.out.size, below_trans BB.out ((Below.refl _ _).alloc (Nat.le_refl _) _)⟩
end Go.Proofs.Ytgiboadcfnfooaa
