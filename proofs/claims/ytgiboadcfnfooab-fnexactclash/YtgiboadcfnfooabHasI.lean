/- The contract of impl.hasBlock. -/
import Derived.Test.YtgiboadcfnfooabHasP
namespace Go.Proofs.Ytgiboadcfnfooab
open Go.ChangeShapes Go.WideShapes Go.ChangeAt Go.RowKit
set_option maxRecDepth 100000 in
set_option maxHeartbeats 2000000 in
theorem hasBlock_any (g : Gr) (n : Int) (w : World) (B : Nat) (v : Array Value) (h : GrIs w B v g) (GO : OkIs 49 g) :
    Calls Try.prog 32 #[.agg v, .int .i64 n] w fun en w' => en = .returned (.bool (decide (hasB6 g n))) ∧ Below w.heap.size w w' := by
  have hG := hideP h
  have HGO := hideP GO
  have BT0 : Hid (∀ W A v, GrIs W A v g → Calls Try.prog 48 #[.agg v, .int .i64 n] W fun en w' => en = .returned (.bool (vOk (g.blocks.length : Nat) n)) ∧ Below W.heap.size W w') := fun W A v hv => blockThere_any g n W A v hv
  have E : Hid (decide (hasB6 g n) = (vOk (g.blocks.length : Nat) n && grOk g)) := by
    show _ = _
    rw [Bool.eq_iff_iff]
    refine ⟨fun h => ?_, fun h => ?_⟩
    · obtain ⟨a, b, c⟩ := of_decide_eq_true h
      rw [a]; simpa [vOk] using And.intro b c
    · refine decide_eq_true ?_
      simp only [vOk, Bool.and_eq_true, decide_eq_true_eq] at h
      exact ⟨h.2, h.1.1, h.1.2⟩
  rw [E.out]
  clear GO E
  obtain ⟨gok, hgok⟩ : ∃ r, grOk g = r := ⟨_, rfl⟩
  obtain ⟨thr, hthr⟩ : ∃ r, vOk (g.blocks.length : Nat) n = r := ⟨_, rfl⟩
  rw [hgok, hthr]
  have BT : Hid (∀ W A v, GrIs W A v g → Calls Try.prog 48 #[.agg v, .int .i64 n] W fun en w' => en = .returned (.bool thr) ∧ Below W.heap.size W w') := fun W A v hv => hthr ▸ BT0.out W A v hv
  have GO1 : Hid (∀ W A v, GrIs W A v g → Calls Try.prog 49 #[.agg v] W fun en w' => en = .returned (.bool gok) ∧ Below W.heap.size W w') := fun W A v hv => hgok ▸ HGO.out W A v hv
  clear BT0 HGO hgok hthr
  obtain ⟨sizes, params, vars, slots, blocks⟩ := g
  obtain ⟨us, cs, ub, cb, rfl, _, _, _⟩ := h
  simp only at *
  have BW := hideP ((Below.refl w.heap.size w).alloc (Nat.le_refl _) (.cells #[.slice us sizes.length cs, .int .i64 params, .int .i64 vars, .int .i64 slots, .slice ub blocks.length cb] 32))
  have Q := hideP (heap_alloc_new w (.cells #[.slice us sizes.length cs, .int .i64 params, .int .i64 vars, .int .i64 slots, .slice ub blocks.length cb] 32))
  cases thr with
  | false =>
    go_enter Try.func32, Try.ntmps32
    go_wp2_with fail
    refine (BT.out _ B _ (GrKeeps.stays hG.out BW.out)).mono ?_
    rintro e1 w1 ⟨rfl, bel1⟩
    have BB := hideP (below_trans BW.out bel1)
    clear bel1
    go_wp2
    go_ret
    exact ⟨rfl, BB.out⟩
  | true =>
    go_enter Try.func32, Try.ntmps32
    go_wp2_with fail
    refine (BT.out _ B _ (GrKeeps.stays hG.out BW.out)).mono ?_
    rintro e1 w1 ⟨rfl, bel1⟩
    have BB := hideP (below_trans BW.out bel1)
    have Q1 := (bel1.block w.heap.size (Array.getElem?_eq_some_iff.1 Q.out).1).trans Q.out
    have p := (cells_of Q1).1
    have p0 := p 0
    have p1 := p 1
    have p2 := p 2
    have p3 := p 3
    have p4 := p 4
    simp at p0 p1 p2 p3 p4
    clear bel1 p Q1
    go_wp2_with fail
    refine (GO1.out _ B _ (GrKeeps.stays hG.out BB.out)).mono ?_
    rintro e2 w2 ⟨rfl, bel2⟩
    replace BB := hideP (below_trans BB.out bel2)
    clear bel2 p0 p1 p2 p3 p4
    go_wp2
    go_ret
    exact ⟨ret_bool (by simp), BB.out⟩
end Go.Proofs.Ytgiboadcfnfooab
