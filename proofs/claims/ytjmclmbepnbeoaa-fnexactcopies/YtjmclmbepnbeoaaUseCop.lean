/- The contract of spec.l09Use (written by wip/mkusex.py). -/
import Derived.Test.YtjmclmbepnbeoaaFldPG
import Derived.Test.YtjmclmbepnbeoaaRowA
import Derived.Deep.CutRange
import Derived.Deep.RegionHeld3
import Derived.Test.YtjmclmbepnbeoaaDefS
import Derived.Deep.LoopGhost
namespace Go.Proofs.Ytjmclmbepnbeoaa
open Go.ChangeShapes Go.WideShapes Go.ChangeAt Go.RowKit
structure UsAt (ob V : Nat) (f : Int → Int) (w : World) (y : Array Value) (W : World) : Prop where
  bx : W.heap[w.heap.size]? = some (.cells y 48 (0, 0))
  br : W.heap[w.heap.size + 1]? = some (.cells #[.int .i64 0, .int .i64 0, .int .i64 0, .int .i64 0, .int .i64 0, .int .i64 0, .string ⟨#[]⟩] 48 (0, 0))
  of : OfAt ob V f W
  bel : Below w.heap.size w W
theorem UsAt.set {ob V : Nat} {f : Int → Int} {w W : World} {y y' : Array Value} (h : UsAt ob V f w y W) (ho : ob < w.heap.size) {i : Nat} {v : Value} (e : y.setIfInBounds i v = y') : UsAt ob V f w y' (W.setCell ⟨w.heap.size, i, none⟩ v) := by
  subst e
  have b : But w.heap.size W (W.setCell ⟨w.heap.size, i, none⟩ v) := (But.refl _ W).set _ _
  exact ⟨heap_setCell_same W _ i _ _ v h.bx, keepQ b h.br (by omega), h.of.but b (by omega), h.bel.trans (b.below (Nat.le_refl _) h.bel.size)⟩
set_option maxRecDepth 100000 in
set_option maxHeartbeats 16000000 in
theorem use09_any (x : Ins) (f : Int → Int) (V : Nat) (w : World) (ob cap : Nat) (h : OfAt ob V f w) (hu : ∀ s ∈ usesP x, 0 ≤ s ∧ s < V) :
    Calls Try.prog 40 #[.agg (insV x), .slice (some ⟨ob, 0, none⟩) V cap] w fun e w' => e = .returned (.agg (insV (useX f x))) ∧ Below w.heap.size w w' := by
  obtain ⟨op, d, a, b0, c0, nn, t⟩ := x
  simp only [insV]
  have ho := h.lt
  have al := below2 w (.cells #[.int .i64 op, .int .i64 d, .int .i64 a, .int .i64 b0, .int .i64 c0, .int .i64 nn, .string t] 48) (.cells #[.int .i64 0, .int .i64 0, .int .i64 0, .int .i64 0, .int .i64 0, .int .i64 0, .string ⟨#[]⟩] 48)
  have tw := bxx2 w (.cells #[.int .i64 op, .int .i64 d, .int .i64 a, .int .i64 b0, .int .i64 c0, .int .i64 nn, .string t] 48) (.cells #[.int .i64 0, .int .i64 0, .int .i64 0, .int .i64 0, .int .i64 0, .int .i64 0, .string ⟨#[]⟩] 48)
  obtain ⟨W2, hW2⟩ : ∃ W2, (w.alloc (.cells #[.int .i64 op, .int .i64 d, .int .i64 a, .int .i64 b0, .int .i64 c0, .int .i64 nn, .string t] 48)).alloc (.cells #[.int .i64 0, .int .i64 0, .int .i64 0, .int .i64 0, .int .i64 0, .int .i64 0, .string ⟨#[]⟩] 48) = W2 := ⟨_, rfl⟩
  rw [hW2] at al tw
  have S0 : Hid (UsAt ob V f w #[.int .i64 op, .int .i64 d, .int .i64 a, .int .i64 b0, .int .i64 c0, .int .i64 nn, .string t] W2) := ⟨tw.1, tw.2.1, h.stays al, al⟩
  have HW := hideP hW2
  clear al tw hW2 h
  go_enter Try.func40, Try.ntmps40
  go_upto_region 1 with fail
  rw [HW.out]
  clear HW
  by_cases h1 : op = 1
  · subst h1
    obtain ⟨an, rfl⟩ : ∃ an : Nat, a = an := ⟨a.toNat, by have := hu a (by simp [usesP]); omega⟩
    have han : an < V := by have := hu an (by simp [usesP]); omega
    have EQ : Hid (useX f (⟨1, d, (an : Int), b0, c0, nn, t⟩ : Ins) = (⟨1, d, (f (an : Int)), b0, c0, nn, t⟩ : Ins)) := by show _ = _; simp [useX]
    have fc := (cells_of S0.out.bx).1
    have x0 := fc 0
    have x1 := fc 1
    have x2 := fc 2
    have x3 := fc 3
    have x4 := fc 4
    have x5 := fc 5
    have x6 := fc 6
    simp at x0 x1 x2 x3 x4 x5 x6
    clear fc
    have xf := (cells_of S0.out.bx).2
    obtain ⟨o0, of0⟩ := S0.out.of.at han
    have S1 : Hid (UsAt ob V f w #[.int .i64 1, .int .i64 d, .int .i64 (f (an : Int)), .int .i64 b0, .int .i64 c0, .int .i64 nn, .string t] (W2.setCell ⟨w.heap.size, 2, none⟩ (.int .i64 (f (an : Int))))) := S0.out.set ho rfl
    go_upto_region 15 with fail
    obtain ⟨V0, hV0⟩ : ∃ V0, W2.setCell ⟨w.heap.size, 2, none⟩ (.int .i64 (f (an : Int))) = V0 := ⟨_, rfl⟩
    rw [hV0] at S1 ⊢
    clear hV0 x0 x1 x2 x3 x4 x5 x6 xf o0 of0 S0
    have fc := (cells_of S1.out.bx).1
    have x0 := fc 0
    have x1 := fc 1
    have x2 := fc 2
    have x3 := fc 3
    have x4 := fc 4
    have x5 := fc 5
    have x6 := fc 6
    simp at x0 x1 x2 x3 x4 x5 x6
    clear fc
    have fc := (cells_of S1.out.br).1
    have r0 := fc 0
    have r1 := fc 1
    have r2 := fc 2
    have r3 := fc 3
    have r4 := fc 4
    have r5 := fc 5
    have r6 := fc 6
    simp at r0 r1 r2 r3 r4 r5 r6
    clear fc
    have rf := (cells_of S1.out.br).2
    obtain ⟨z6, bu⟩ := put7n S1.out.br rfl (.int .i64 1) (.int .i64 d) (.int .i64 (f (an : Int))) (.int .i64 b0) (.int .i64 c0) (.int .i64 nn) (.string t)
    have ZF := hideP z6
    have BU := hideP (S1.out.bel.trans (bu.below (Nat.le_succ _) S1.out.bel.size))
    clear z6 bu
    go_wp2
    refine bodyPost_ret (results_cell_row rfl _ _ (w.heap.size + 1) 48 #[.int .i64 1, .int .i64 d, .int .i64 (f (an : Int)), .int .i64 b0, .int .i64 c0, .int .i64 nn, .string t] (0, 0) _ rfl ZF.out Try.underlying48 rfl (by kernel_rfl)) rfl ?_
    rw [EQ.out]
    exact ⟨rfl, BU.out⟩
  have h1b : (op == 1) = false := by simpa using h1
  by_cases h6 : op = 6
  · subst h6
    obtain ⟨an, rfl⟩ : ∃ an : Nat, a = an := ⟨a.toNat, by have := hu a (by simp [usesP]); omega⟩
    have han : an < V := by have := hu an (by simp [usesP]); omega
    have EQ : Hid (useX f (⟨6, d, (an : Int), b0, c0, nn, t⟩ : Ins) = (⟨6, d, (f (an : Int)), b0, c0, nn, t⟩ : Ins)) := by show _ = _; simp [useX]
    have fc := (cells_of S0.out.bx).1
    have x0 := fc 0
    have x1 := fc 1
    have x2 := fc 2
    have x3 := fc 3
    have x4 := fc 4
    have x5 := fc 5
    have x6 := fc 6
    simp at x0 x1 x2 x3 x4 x5 x6
    clear fc
    have xf := (cells_of S0.out.bx).2
    obtain ⟨o0, of0⟩ := S0.out.of.at han
    have S1 : Hid (UsAt ob V f w #[.int .i64 6, .int .i64 d, .int .i64 (f (an : Int)), .int .i64 b0, .int .i64 c0, .int .i64 nn, .string t] (W2.setCell ⟨w.heap.size, 2, none⟩ (.int .i64 (f (an : Int))))) := S0.out.set ho rfl
    go_upto_region 15 with fail
    obtain ⟨V0, hV0⟩ : ∃ V0, W2.setCell ⟨w.heap.size, 2, none⟩ (.int .i64 (f (an : Int))) = V0 := ⟨_, rfl⟩
    rw [hV0] at S1 ⊢
    clear hV0 x0 x1 x2 x3 x4 x5 x6 xf o0 of0 S0
    have fc := (cells_of S1.out.bx).1
    have x0 := fc 0
    have x1 := fc 1
    have x2 := fc 2
    have x3 := fc 3
    have x4 := fc 4
    have x5 := fc 5
    have x6 := fc 6
    simp at x0 x1 x2 x3 x4 x5 x6
    clear fc
    have fc := (cells_of S1.out.br).1
    have r0 := fc 0
    have r1 := fc 1
    have r2 := fc 2
    have r3 := fc 3
    have r4 := fc 4
    have r5 := fc 5
    have r6 := fc 6
    simp at r0 r1 r2 r3 r4 r5 r6
    clear fc
    have rf := (cells_of S1.out.br).2
    obtain ⟨z6, bu⟩ := put7n S1.out.br rfl (.int .i64 6) (.int .i64 d) (.int .i64 (f (an : Int))) (.int .i64 b0) (.int .i64 c0) (.int .i64 nn) (.string t)
    have ZF := hideP z6
    have BU := hideP (S1.out.bel.trans (bu.below (Nat.le_succ _) S1.out.bel.size))
    clear z6 bu
    go_wp2
    refine bodyPost_ret (results_cell_row rfl _ _ (w.heap.size + 1) 48 #[.int .i64 6, .int .i64 d, .int .i64 (f (an : Int)), .int .i64 b0, .int .i64 c0, .int .i64 nn, .string t] (0, 0) _ rfl ZF.out Try.underlying48 rfl (by kernel_rfl)) rfl ?_
    rw [EQ.out]
    exact ⟨rfl, BU.out⟩
  have h6b : (op == 6) = false := by simpa using h6
  by_cases h2 : op = 2
  · subst h2
    obtain ⟨an, rfl⟩ : ∃ an : Nat, a = an := ⟨a.toNat, by have := hu a (by simp [usesP]); omega⟩
    have han : an < V := by have := hu an (by simp [usesP]); omega
    obtain ⟨bn, rfl⟩ : ∃ bn : Nat, b0 = bn := ⟨b0.toNat, by have := hu b0 (by simp [usesP]); omega⟩
    have hbn : bn < V := by have := hu bn (by simp [usesP]); omega
    have EQ : Hid (useX f (⟨2, d, (an : Int), (bn : Int), c0, nn, t⟩ : Ins) = (⟨2, d, (f (an : Int)), (f (bn : Int)), c0, nn, t⟩ : Ins)) := by show _ = _; simp [useX]
    have fc := (cells_of S0.out.bx).1
    have x0 := fc 0
    have x1 := fc 1
    have x2 := fc 2
    have x3 := fc 3
    have x4 := fc 4
    have x5 := fc 5
    have x6 := fc 6
    simp at x0 x1 x2 x3 x4 x5 x6
    clear fc
    have xf := (cells_of S0.out.bx).2
    obtain ⟨o0, of0⟩ := S0.out.of.at han
    have S1 : Hid (UsAt ob V f w #[.int .i64 2, .int .i64 d, .int .i64 (f (an : Int)), .int .i64 (bn : Int), .int .i64 c0, .int .i64 nn, .string t] (W2.setCell ⟨w.heap.size, 2, none⟩ (.int .i64 (f (an : Int))))) := S0.out.set ho rfl
    go_upto_region 7 with fail
    obtain ⟨V0, hV0⟩ : ∃ V0, W2.setCell ⟨w.heap.size, 2, none⟩ (.int .i64 (f (an : Int))) = V0 := ⟨_, rfl⟩
    rw [hV0] at S1 ⊢
    clear hV0 x0 x1 x2 x3 x4 x5 x6 xf o0 of0 S0
    have fc := (cells_of S1.out.bx).1
    have x0 := fc 0
    have x1 := fc 1
    have x2 := fc 2
    have x3 := fc 3
    have x4 := fc 4
    have x5 := fc 5
    have x6 := fc 6
    simp at x0 x1 x2 x3 x4 x5 x6
    clear fc
    have xf := (cells_of S1.out.bx).2
    obtain ⟨o0, of0⟩ := S1.out.of.at hbn
    have S2 : Hid (UsAt ob V f w #[.int .i64 2, .int .i64 d, .int .i64 (f (an : Int)), .int .i64 (f (bn : Int)), .int .i64 c0, .int .i64 nn, .string t] (V0.setCell ⟨w.heap.size, 3, none⟩ (.int .i64 (f (bn : Int))))) := S1.out.set ho rfl
    go_upto_region 15 with fail
    obtain ⟨V1, hV1⟩ : ∃ V1, V0.setCell ⟨w.heap.size, 3, none⟩ (.int .i64 (f (bn : Int))) = V1 := ⟨_, rfl⟩
    rw [hV1] at S2 ⊢
    clear hV1 x0 x1 x2 x3 x4 x5 x6 xf o0 of0 S1
    have fc := (cells_of S2.out.bx).1
    have x0 := fc 0
    have x1 := fc 1
    have x2 := fc 2
    have x3 := fc 3
    have x4 := fc 4
    have x5 := fc 5
    have x6 := fc 6
    simp at x0 x1 x2 x3 x4 x5 x6
    clear fc
    have fc := (cells_of S2.out.br).1
    have r0 := fc 0
    have r1 := fc 1
    have r2 := fc 2
    have r3 := fc 3
    have r4 := fc 4
    have r5 := fc 5
    have r6 := fc 6
    simp at r0 r1 r2 r3 r4 r5 r6
    clear fc
    have rf := (cells_of S2.out.br).2
    obtain ⟨z6, bu⟩ := put7n S2.out.br rfl (.int .i64 2) (.int .i64 d) (.int .i64 (f (an : Int))) (.int .i64 (f (bn : Int))) (.int .i64 c0) (.int .i64 nn) (.string t)
    have ZF := hideP z6
    have BU := hideP (S2.out.bel.trans (bu.below (Nat.le_succ _) S2.out.bel.size))
    clear z6 bu
    go_wp2
    refine bodyPost_ret (results_cell_row rfl _ _ (w.heap.size + 1) 48 #[.int .i64 2, .int .i64 d, .int .i64 (f (an : Int)), .int .i64 (f (bn : Int)), .int .i64 c0, .int .i64 nn, .string t] (0, 0) _ rfl ZF.out Try.underlying48 rfl (by kernel_rfl)) rfl ?_
    rw [EQ.out]
    exact ⟨rfl, BU.out⟩
  have h2b : (op == 2) = false := by simpa using h2
  by_cases h3 : op = 3
  · subst h3
    by_cases ha : a < 0
    · have hg : ¬ (0 ≤ a) := by omega
      obtain ⟨bn, rfl⟩ : ∃ bn : Nat, b0 = bn := ⟨b0.toNat, by have := hu b0 (by simp [usesP, cellP_neg ha]); omega⟩
      have hbn : bn < V := by have := hu bn (by simp [usesP, cellP_neg ha]); omega
      have EQ : Hid (useX f (⟨3, d, a, (bn : Int), c0, nn, t⟩ : Ins) = (⟨3, d, a, (f (bn : Int)), c0, nn, t⟩ : Ins)) := by show _ = _; simp [useX, hg]
      have fc := (cells_of S0.out.bx).1
      have x0 := fc 0
      have x1 := fc 1
      have x2 := fc 2
      have x3 := fc 3
      have x4 := fc 4
      have x5 := fc 5
      have x6 := fc 6
      simp at x0 x1 x2 x3 x4 x5 x6
      clear fc
      have xf := (cells_of S0.out.bx).2
      obtain ⟨o0, of0⟩ := S0.out.of.at hbn
      have S1 : Hid (UsAt ob V f w #[.int .i64 3, .int .i64 d, .int .i64 a, .int .i64 (f (bn : Int)), .int .i64 c0, .int .i64 nn, .string t] (W2.setCell ⟨w.heap.size, 3, none⟩ (.int .i64 (f (bn : Int))))) := S0.out.set ho rfl
      go_upto_region 11 with fail
      obtain ⟨V0, hV0⟩ : ∃ V0, W2.setCell ⟨w.heap.size, 3, none⟩ (.int .i64 (f (bn : Int))) = V0 := ⟨_, rfl⟩
      rw [hV0] at S1 ⊢
      clear hV0 x0 x1 x2 x3 x4 x5 x6 xf o0 of0 S0
      have fc := (cells_of S1.out.bx).1
      have x0 := fc 0
      have x1 := fc 1
      have x2 := fc 2
      have x3 := fc 3
      have x4 := fc 4
      have x5 := fc 5
      have x6 := fc 6
      simp at x0 x1 x2 x3 x4 x5 x6
      clear fc
      have fc := (cells_of S1.out.br).1
      have r0 := fc 0
      have r1 := fc 1
      have r2 := fc 2
      have r3 := fc 3
      have r4 := fc 4
      have r5 := fc 5
      have r6 := fc 6
      simp at r0 r1 r2 r3 r4 r5 r6
      clear fc
      have rf := (cells_of S1.out.br).2
      obtain ⟨z6, bu⟩ := put7n S1.out.br rfl (.int .i64 3) (.int .i64 d) (.int .i64 a) (.int .i64 (f (bn : Int))) (.int .i64 c0) (.int .i64 nn) (.string t)
      have ZF := hideP z6
      have BU := hideP (S1.out.bel.trans (bu.below (Nat.le_succ _) S1.out.bel.size))
      clear z6 bu
      go_wp2
      refine bodyPost_ret (results_cell_row rfl _ _ (w.heap.size + 1) 48 #[.int .i64 3, .int .i64 d, .int .i64 a, .int .i64 (f (bn : Int)), .int .i64 c0, .int .i64 nn, .string t] (0, 0) _ rfl ZF.out Try.underlying48 rfl (by kernel_rfl)) rfl ?_
      rw [EQ.out]
      exact ⟨rfl, BU.out⟩
    · obtain ⟨an, rfl⟩ : ∃ an : Nat, a = an := ⟨a.toNat, by have := hu a (by simp [usesP, cellP_pos ha]); omega⟩
      have han : an < V := by have := hu an (by simp [usesP, cellP_pos ha]); omega
      obtain ⟨bn, rfl⟩ : ∃ bn : Nat, b0 = bn := ⟨b0.toNat, by have := hu b0 (by simp [usesP, cellP_pos ha]); omega⟩
      have hbn : bn < V := by have := hu bn (by simp [usesP, cellP_pos ha]); omega
      have hg : (0 : Int) ≤ (an : Int) := by omega
      have EQ : Hid (useX f (⟨3, d, (an : Int), (bn : Int), c0, nn, t⟩ : Ins) = (⟨3, d, (f (an : Int)), (f (bn : Int)), c0, nn, t⟩ : Ins)) := by show _ = _; simp [useX]
      have fc := (cells_of S0.out.bx).1
      have x0 := fc 0
      have x1 := fc 1
      have x2 := fc 2
      have x3 := fc 3
      have x4 := fc 4
      have x5 := fc 5
      have x6 := fc 6
      simp at x0 x1 x2 x3 x4 x5 x6
      clear fc
      have xf := (cells_of S0.out.bx).2
      obtain ⟨o0, of0⟩ := S0.out.of.at hbn
      have S1 : Hid (UsAt ob V f w #[.int .i64 3, .int .i64 d, .int .i64 (an : Int), .int .i64 (f (bn : Int)), .int .i64 c0, .int .i64 nn, .string t] (W2.setCell ⟨w.heap.size, 3, none⟩ (.int .i64 (f (bn : Int))))) := S0.out.set ho rfl
      go_upto_region 11 with fail
      obtain ⟨V0, hV0⟩ : ∃ V0, W2.setCell ⟨w.heap.size, 3, none⟩ (.int .i64 (f (bn : Int))) = V0 := ⟨_, rfl⟩
      rw [hV0] at S1 ⊢
      clear hV0 x0 x1 x2 x3 x4 x5 x6 xf o0 of0 S0
      have fc := (cells_of S1.out.bx).1
      have x0 := fc 0
      have x1 := fc 1
      have x2 := fc 2
      have x3 := fc 3
      have x4 := fc 4
      have x5 := fc 5
      have x6 := fc 6
      simp at x0 x1 x2 x3 x4 x5 x6
      clear fc
      have xf := (cells_of S1.out.bx).2
      obtain ⟨o0, of0⟩ := S1.out.of.at han
      have S2 : Hid (UsAt ob V f w #[.int .i64 3, .int .i64 d, .int .i64 (f (an : Int)), .int .i64 (f (bn : Int)), .int .i64 c0, .int .i64 nn, .string t] (V0.setCell ⟨w.heap.size, 2, none⟩ (.int .i64 (f (an : Int))))) := S1.out.set ho rfl
      go_upto_region 13 with fail
      obtain ⟨V1, hV1⟩ : ∃ V1, V0.setCell ⟨w.heap.size, 2, none⟩ (.int .i64 (f (an : Int))) = V1 := ⟨_, rfl⟩
      rw [hV1] at S2 ⊢
      clear hV1 x0 x1 x2 x3 x4 x5 x6 xf o0 of0 S1
      have fc := (cells_of S2.out.bx).1
      have x0 := fc 0
      have x1 := fc 1
      have x2 := fc 2
      have x3 := fc 3
      have x4 := fc 4
      have x5 := fc 5
      have x6 := fc 6
      simp at x0 x1 x2 x3 x4 x5 x6
      clear fc
      have fc := (cells_of S2.out.br).1
      have r0 := fc 0
      have r1 := fc 1
      have r2 := fc 2
      have r3 := fc 3
      have r4 := fc 4
      have r5 := fc 5
      have r6 := fc 6
      simp at r0 r1 r2 r3 r4 r5 r6
      clear fc
      have rf := (cells_of S2.out.br).2
      obtain ⟨z6, bu⟩ := put7n S2.out.br rfl (.int .i64 3) (.int .i64 d) (.int .i64 (f (an : Int))) (.int .i64 (f (bn : Int))) (.int .i64 c0) (.int .i64 nn) (.string t)
      have ZF := hideP z6
      have BU := hideP (S2.out.bel.trans (bu.below (Nat.le_succ _) S2.out.bel.size))
      clear z6 bu
      go_wp2
      refine bodyPost_ret (results_cell_row rfl _ _ (w.heap.size + 1) 48 #[.int .i64 3, .int .i64 d, .int .i64 (f (an : Int)), .int .i64 (f (bn : Int)), .int .i64 c0, .int .i64 nn, .string t] (0, 0) _ rfl ZF.out Try.underlying48 rfl (by kernel_rfl)) rfl ?_
      rw [EQ.out]
      exact ⟨rfl, BU.out⟩
  have h3b : (op == 3) = false := by simpa using h3
  by_cases h4 : op = 4
  · subst h4
    by_cases ha : a < 0
    · have hg : ¬ (0 ≤ a) := by omega
      obtain ⟨bn, rfl⟩ : ∃ bn : Nat, b0 = bn := ⟨b0.toNat, by have := hu b0 (by simp [usesP, cellP_neg ha]); omega⟩
      have hbn : bn < V := by have := hu bn (by simp [usesP, cellP_neg ha]); omega
      obtain ⟨cn, rfl⟩ : ∃ cn : Nat, c0 = cn := ⟨c0.toNat, by have := hu c0 (by simp [usesP, cellP_neg ha]); omega⟩
      have hcn : cn < V := by have := hu cn (by simp [usesP, cellP_neg ha]); omega
      have EQ : Hid (useX f (⟨4, d, a, (bn : Int), (cn : Int), nn, t⟩ : Ins) = (⟨4, d, a, (f (bn : Int)), (f (cn : Int)), nn, t⟩ : Ins)) := by show _ = _; simp [useX, hg]
      have fc := (cells_of S0.out.bx).1
      have x0 := fc 0
      have x1 := fc 1
      have x2 := fc 2
      have x3 := fc 3
      have x4 := fc 4
      have x5 := fc 5
      have x6 := fc 6
      simp at x0 x1 x2 x3 x4 x5 x6
      clear fc
      have xf := (cells_of S0.out.bx).2
      obtain ⟨o0, of0⟩ := S0.out.of.at hbn
      have S1 : Hid (UsAt ob V f w #[.int .i64 4, .int .i64 d, .int .i64 a, .int .i64 (f (bn : Int)), .int .i64 (cn : Int), .int .i64 nn, .string t] (W2.setCell ⟨w.heap.size, 3, none⟩ (.int .i64 (f (bn : Int))))) := S0.out.set ho rfl
      go_upto_region 11 with fail
      obtain ⟨V0, hV0⟩ : ∃ V0, W2.setCell ⟨w.heap.size, 3, none⟩ (.int .i64 (f (bn : Int))) = V0 := ⟨_, rfl⟩
      rw [hV0] at S1 ⊢
      clear hV0 x0 x1 x2 x3 x4 x5 x6 xf o0 of0 S0
      have fc := (cells_of S1.out.bx).1
      have x0 := fc 0
      have x1 := fc 1
      have x2 := fc 2
      have x3 := fc 3
      have x4 := fc 4
      have x5 := fc 5
      have x6 := fc 6
      simp at x0 x1 x2 x3 x4 x5 x6
      clear fc
      have xf := (cells_of S1.out.bx).2
      obtain ⟨o0, of0⟩ := S1.out.of.at hcn
      have S2 : Hid (UsAt ob V f w #[.int .i64 4, .int .i64 d, .int .i64 a, .int .i64 (f (bn : Int)), .int .i64 (f (cn : Int)), .int .i64 nn, .string t] (V0.setCell ⟨w.heap.size, 4, none⟩ (.int .i64 (f (cn : Int))))) := S1.out.set ho rfl
      go_upto_region 15 with fail
      obtain ⟨V1, hV1⟩ : ∃ V1, V0.setCell ⟨w.heap.size, 4, none⟩ (.int .i64 (f (cn : Int))) = V1 := ⟨_, rfl⟩
      rw [hV1] at S2 ⊢
      clear hV1 x0 x1 x2 x3 x4 x5 x6 xf o0 of0 S1
      have fc := (cells_of S2.out.bx).1
      have x0 := fc 0
      have x1 := fc 1
      have x2 := fc 2
      have x3 := fc 3
      have x4 := fc 4
      have x5 := fc 5
      have x6 := fc 6
      simp at x0 x1 x2 x3 x4 x5 x6
      clear fc
      have fc := (cells_of S2.out.br).1
      have r0 := fc 0
      have r1 := fc 1
      have r2 := fc 2
      have r3 := fc 3
      have r4 := fc 4
      have r5 := fc 5
      have r6 := fc 6
      simp at r0 r1 r2 r3 r4 r5 r6
      clear fc
      have rf := (cells_of S2.out.br).2
      obtain ⟨z6, bu⟩ := put7n S2.out.br rfl (.int .i64 4) (.int .i64 d) (.int .i64 a) (.int .i64 (f (bn : Int))) (.int .i64 (f (cn : Int))) (.int .i64 nn) (.string t)
      have ZF := hideP z6
      have BU := hideP (S2.out.bel.trans (bu.below (Nat.le_succ _) S2.out.bel.size))
      clear z6 bu
      go_wp2
      refine bodyPost_ret (results_cell_row rfl _ _ (w.heap.size + 1) 48 #[.int .i64 4, .int .i64 d, .int .i64 a, .int .i64 (f (bn : Int)), .int .i64 (f (cn : Int)), .int .i64 nn, .string t] (0, 0) _ rfl ZF.out Try.underlying48 rfl (by kernel_rfl)) rfl ?_
      rw [EQ.out]
      exact ⟨rfl, BU.out⟩
    · obtain ⟨an, rfl⟩ : ∃ an : Nat, a = an := ⟨a.toNat, by have := hu a (by simp [usesP, cellP_pos ha]); omega⟩
      have han : an < V := by have := hu an (by simp [usesP, cellP_pos ha]); omega
      obtain ⟨bn, rfl⟩ : ∃ bn : Nat, b0 = bn := ⟨b0.toNat, by have := hu b0 (by simp [usesP, cellP_pos ha]); omega⟩
      have hbn : bn < V := by have := hu bn (by simp [usesP, cellP_pos ha]); omega
      obtain ⟨cn, rfl⟩ : ∃ cn : Nat, c0 = cn := ⟨c0.toNat, by have := hu c0 (by simp [usesP, cellP_pos ha]); omega⟩
      have hcn : cn < V := by have := hu cn (by simp [usesP, cellP_pos ha]); omega
      have hg : (0 : Int) ≤ (an : Int) := by omega
      have EQ : Hid (useX f (⟨4, d, (an : Int), (bn : Int), (cn : Int), nn, t⟩ : Ins) = (⟨4, d, (f (an : Int)), (f (bn : Int)), (f (cn : Int)), nn, t⟩ : Ins)) := by show _ = _; simp [useX]
      have fc := (cells_of S0.out.bx).1
      have x0 := fc 0
      have x1 := fc 1
      have x2 := fc 2
      have x3 := fc 3
      have x4 := fc 4
      have x5 := fc 5
      have x6 := fc 6
      simp at x0 x1 x2 x3 x4 x5 x6
      clear fc
      have xf := (cells_of S0.out.bx).2
      obtain ⟨o0, of0⟩ := S0.out.of.at hbn
      have S1 : Hid (UsAt ob V f w #[.int .i64 4, .int .i64 d, .int .i64 (an : Int), .int .i64 (f (bn : Int)), .int .i64 (cn : Int), .int .i64 nn, .string t] (W2.setCell ⟨w.heap.size, 3, none⟩ (.int .i64 (f (bn : Int))))) := S0.out.set ho rfl
      go_upto_region 11 with fail
      obtain ⟨V0, hV0⟩ : ∃ V0, W2.setCell ⟨w.heap.size, 3, none⟩ (.int .i64 (f (bn : Int))) = V0 := ⟨_, rfl⟩
      rw [hV0] at S1 ⊢
      clear hV0 x0 x1 x2 x3 x4 x5 x6 xf o0 of0 S0
      have fc := (cells_of S1.out.bx).1
      have x0 := fc 0
      have x1 := fc 1
      have x2 := fc 2
      have x3 := fc 3
      have x4 := fc 4
      have x5 := fc 5
      have x6 := fc 6
      simp at x0 x1 x2 x3 x4 x5 x6
      clear fc
      have xf := (cells_of S1.out.bx).2
      obtain ⟨o0, of0⟩ := S1.out.of.at han
      have S2 : Hid (UsAt ob V f w #[.int .i64 4, .int .i64 d, .int .i64 (f (an : Int)), .int .i64 (f (bn : Int)), .int .i64 (cn : Int), .int .i64 nn, .string t] (V0.setCell ⟨w.heap.size, 2, none⟩ (.int .i64 (f (an : Int))))) := S1.out.set ho rfl
      go_upto_region 13 with fail
      obtain ⟨V1, hV1⟩ : ∃ V1, V0.setCell ⟨w.heap.size, 2, none⟩ (.int .i64 (f (an : Int))) = V1 := ⟨_, rfl⟩
      rw [hV1] at S2 ⊢
      clear hV1 x0 x1 x2 x3 x4 x5 x6 xf o0 of0 S1
      have fc := (cells_of S2.out.bx).1
      have x0 := fc 0
      have x1 := fc 1
      have x2 := fc 2
      have x3 := fc 3
      have x4 := fc 4
      have x5 := fc 5
      have x6 := fc 6
      simp at x0 x1 x2 x3 x4 x5 x6
      clear fc
      have xf := (cells_of S2.out.bx).2
      obtain ⟨o0, of0⟩ := S2.out.of.at hcn
      have S3 : Hid (UsAt ob V f w #[.int .i64 4, .int .i64 d, .int .i64 (f (an : Int)), .int .i64 (f (bn : Int)), .int .i64 (f (cn : Int)), .int .i64 nn, .string t] (V1.setCell ⟨w.heap.size, 4, none⟩ (.int .i64 (f (cn : Int))))) := S2.out.set ho rfl
      go_upto_region 15 with fail
      obtain ⟨V2, hV2⟩ : ∃ V2, V1.setCell ⟨w.heap.size, 4, none⟩ (.int .i64 (f (cn : Int))) = V2 := ⟨_, rfl⟩
      rw [hV2] at S3 ⊢
      clear hV2 x0 x1 x2 x3 x4 x5 x6 xf o0 of0 S2
      have fc := (cells_of S3.out.bx).1
      have x0 := fc 0
      have x1 := fc 1
      have x2 := fc 2
      have x3 := fc 3
      have x4 := fc 4
      have x5 := fc 5
      have x6 := fc 6
      simp at x0 x1 x2 x3 x4 x5 x6
      clear fc
      have fc := (cells_of S3.out.br).1
      have r0 := fc 0
      have r1 := fc 1
      have r2 := fc 2
      have r3 := fc 3
      have r4 := fc 4
      have r5 := fc 5
      have r6 := fc 6
      simp at r0 r1 r2 r3 r4 r5 r6
      clear fc
      have rf := (cells_of S3.out.br).2
      obtain ⟨z6, bu⟩ := put7n S3.out.br rfl (.int .i64 4) (.int .i64 d) (.int .i64 (f (an : Int))) (.int .i64 (f (bn : Int))) (.int .i64 (f (cn : Int))) (.int .i64 nn) (.string t)
      have ZF := hideP z6
      have BU := hideP (S3.out.bel.trans (bu.below (Nat.le_succ _) S3.out.bel.size))
      clear z6 bu
      go_wp2
      refine bodyPost_ret (results_cell_row rfl _ _ (w.heap.size + 1) 48 #[.int .i64 4, .int .i64 d, .int .i64 (f (an : Int)), .int .i64 (f (bn : Int)), .int .i64 (f (cn : Int)), .int .i64 nn, .string t] (0, 0) _ rfl ZF.out Try.underlying48 rfl (by kernel_rfl)) rfl ?_
      rw [EQ.out]
      exact ⟨rfl, BU.out⟩
  have h4b : (op == 4) = false := by simpa using h4
  have EQ : Hid (useX f (⟨op, d, a, b0, c0, nn, t⟩ : Ins) = (⟨op, d, a, b0, c0, nn, t⟩ : Ins)) := by show _ = _; simp [useX, h1, h2, h3, h4, h6]
  have fc := (cells_of S0.out.bx).1
  have x0 := fc 0
  have x1 := fc 1
  have x2 := fc 2
  have x3 := fc 3
  have x4 := fc 4
  have x5 := fc 5
  have x6 := fc 6
  simp at x0 x1 x2 x3 x4 x5 x6
  clear fc
  go_upto_region 15 with fail
  clear x0 x1 x2 x3 x4 x5 x6
  have fc := (cells_of S0.out.bx).1
  have x0 := fc 0
  have x1 := fc 1
  have x2 := fc 2
  have x3 := fc 3
  have x4 := fc 4
  have x5 := fc 5
  have x6 := fc 6
  simp at x0 x1 x2 x3 x4 x5 x6
  clear fc
  have fc := (cells_of S0.out.br).1
  have r0 := fc 0
  have r1 := fc 1
  have r2 := fc 2
  have r3 := fc 3
  have r4 := fc 4
  have r5 := fc 5
  have r6 := fc 6
  simp at r0 r1 r2 r3 r4 r5 r6
  clear fc
  have rf := (cells_of S0.out.br).2
  obtain ⟨z6, bu⟩ := put7n S0.out.br rfl (.int .i64 op) (.int .i64 d) (.int .i64 a) (.int .i64 b0) (.int .i64 c0) (.int .i64 nn) (.string t)
  have ZF := hideP z6
  have BU := hideP (S0.out.bel.trans (bu.below (Nat.le_succ _) S0.out.bel.size))
  clear z6 bu
  go_wp2
  refine bodyPost_ret (results_cell_row rfl _ _ (w.heap.size + 1) 48 #[.int .i64 op, .int .i64 d, .int .i64 a, .int .i64 b0, .int .i64 c0, .int .i64 nn, .string t] (0, 0) _ rfl ZF.out Try.underlying48 rfl (by kernel_rfl)) rfl ?_
  rw [EQ.out]
  exact ⟨rfl, BU.out⟩
end Go.Proofs.Ytjmclmbepnbeoaa

/- The contract of spec.l09Made (written by wip/mkcops.py). -/
namespace Go.Proofs.Ytjmclmbepnbeoaa
open Go.ChangeShapes Go.WideShapes Go.ChangeAt Go.RowKit
/-- As far as the loop has come. -/
def madeM (f : Int → Int) (d : Int) (i : Nat) : Int → Int := fun s => if s < (i : Int) ∧ f s = d then s else f s
structure MdAt (ob V : Nat) (w : World) (y : Array Value) (f : Int → Int) (W : World) : Prop where
  bx : W.heap[w.heap.size]? = some (.cells y 48 (0, 0))
  of : OfAt ob V f W
  but : But ob w W
theorem MdAt.stays {ob V : Nat} {w W W' : World} {y : Array Value} {f : Int → Int} (h : MdAt ob V w y f W) (b : Below W.heap.size W W') : MdAt ob V w y f W' :=
  ⟨(b.block _ (Array.getElem?_eq_some_iff.1 h.bx).1).trans h.bx, h.of.stays b, ⟨b.os.trans h.but.os, b.tape.trans h.but.tape, b.output.trans h.but.output, Nat.le_trans h.but.size b.size, fun k hk hne => (b.block k (Nat.lt_of_lt_of_le hk h.but.size)).trans (h.but.block k hk hne)⟩⟩
theorem MdAt.drew {ob V : Nat} {w W : World} {y : Array Value} {f : Int → Int} (h : MdAt ob V w y f W) : MdAt ob V w y f W.drew := h.stays (Below.refl _ _).drew
theorem MdAt.set {ob V : Nat} {w W : World} {y : Array Value} {f f' : Int → Int} (h : MdAt ob V w y f W) (ho : ob < w.heap.size) {d : Nat} (hd : d < V) {v : Int} (e : ∀ s : Nat, s < V → (if (s : Int) = (d : Int) then v else f s) = f' s) : MdAt ob V w y f' (W.setCell ⟨ob, d, none⟩ (.int .i64 v)) := by
  have hb : But ob W (W.setCell ⟨ob, d, none⟩ (.int .i64 v)) := (But.refl ob W).set _ _
  exact ⟨(hb.block _ (Array.getElem?_eq_some_iff.1 h.bx).1 (by omega)).trans h.bx, (h.of.set hd v).congr e, ⟨hb.os.trans h.but.os, hb.tape.trans h.but.tape, hb.output.trans h.but.output, Nat.le_trans h.but.size hb.size, fun k hk hne => (hb.block k (Nat.lt_of_lt_of_le hk h.but.size) hne).trans (h.but.block k hk hne)⟩⟩
set_option maxRecDepth 100000 in
set_option maxHeartbeats 8000000 in
theorem made09_any (x : Ins) (f : Int → Int) (V : Nat) (w : World) (ob cap : Nat) (h : OfAt ob V f w) (hd : ¬ (x.op = 4 ∨ x.op = 6) → 0 ≤ x.d ∧ x.d < V) (hV : V ≤ 1000) :
    Calls Try.prog 41 #[.agg (insV x), .slice (some ⟨ob, 0, none⟩) V cap] w fun e w' => e = .returned (.tuple #[]) ∧ OfAt ob V (madeX f x) w' ∧ But ob w w' := by
  obtain ⟨op, d, a, b0, c0, nn, t⟩ := x
  simp only [insV]
  simp only at hd
  have ho := h.lt
  have al := (Below.refl w.heap.size w).alloc (Nat.le_refl _) (.cells #[.int .i64 op, .int .i64 d, .int .i64 a, .int .i64 b0, .int .i64 c0, .int .i64 nn, .string t] 48)
  have bx : (w.alloc (.cells #[.int .i64 op, .int .i64 d, .int .i64 a, .int .i64 b0, .int .i64 c0, .int .i64 nn, .string t] 48)).heap[w.heap.size]? = some (.cells #[.int .i64 op, .int .i64 d, .int .i64 a, .int .i64 b0, .int .i64 c0, .int .i64 nn, .string t] 48 (0, 0)) := by show (w.heap.push _)[w.heap.size]? = _; exact Array.getElem?_push_size
  have S1 : Hid (MdAt ob V w #[.int .i64 op, .int .i64 d, .int .i64 a, .int .i64 b0, .int .i64 c0, .int .i64 nn, .string t] f (w.alloc (.cells #[.int .i64 op, .int .i64 d, .int .i64 a, .int .i64 b0, .int .i64 c0, .int .i64 nn, .string t] 48))) := ⟨bx, h.stays al, ⟨al.os, al.tape, al.output, al.size, fun k hk _ => al.block k hk⟩⟩
  obtain ⟨W1, hW1⟩ : ∃ W1, w.alloc (.cells #[.int .i64 op, .int .i64 d, .int .i64 a, .int .i64 b0, .int .i64 c0, .int .i64 nn, .string t] 48) = W1 := ⟨_, rfl⟩
  rw [hW1] at S1
  have HW := hideP hW1
  clear al bx hW1 h
  obtain ⟨df, hdf⟩ : ∃ df, decide (op ≠ 4 ∧ op ≠ 6) = df := ⟨_, rfl⟩
  have HDF := hideP hdf
  have DE : Hid (∀ W, Calls Try.prog 58 #[.agg #[.int .i64 op, .int .i64 d, .int .i64 a, .int .i64 b0, .int .i64 c0, .int .i64 nn, .string t]] W fun e w' => e = .returned (.bool df) ∧ Below W.heap.size W w') := fun W => hdf ▸ def_any (⟨op, d, a, b0, c0, nn, t⟩ : Ins) W
  clear hdf
  go_enter Try.func41, Try.ntmps41
  go_upto_region 1 with fail
  rw [HW.out]
  clear HW
  have fc := (cells_of S1.out.bx).1
  have x0 := fc 0
  have x1 := fc 1
  have x2 := fc 2
  have x3 := fc 3
  have x4 := fc 4
  have x5 := fc 5
  have x6 := fc 6
  simp at x0 x1 x2 x3 x4 x5 x6
  clear fc
  go_wp2_with fail
  refine (DE.out W1).mono ?_
  rintro e2 w2 ⟨rfl, b2⟩
  have S2 := hideP (S1.out.stays b2)
  clear b2 S1 DE x0 x1 x2 x3 x4 x5 x6
  have fc := (cells_of S2.out.bx).1
  have x0 := fc 0
  have x1 := fc 1
  have x2 := fc 2
  have x3 := fc 3
  have x4 := fc 4
  have x5 := fc 5
  have x6 := fc 6
  simp at x0 x1 x2 x3 x4 x5 x6
  clear fc
  cases df with
  | false =>
    have EQ : Hid (madeX f (⟨op, d, a, b0, c0, nn, t⟩ : Ins) = f) := by
      have := HDF.out
      rw [decide_eq_false_iff_not] at this
      show _ = _
      unfold madeX
      rw [if_pos (by simp only; omega)]
    go_wp2
    refine bodyPost_ret (results_none rfl _ _ _) rfl ?_
    rw [EQ.out]
    exact ⟨rfl, S2.out.of, S2.out.but⟩
  | true =>
    have hop : op ≠ 4 ∧ op ≠ 6 := of_decide_eq_true HDF.out
    obtain ⟨dn, rfl⟩ : ∃ dn : Nat, d = dn := ⟨d.toNat, by have := hd (by omega); omega⟩
    have hdn : dn < V := by have := hd (by omega); omega
    by_cases hs : op = 1 ∧ a = dn
    · obtain ⟨rfl, rfl⟩ := hs
      have EQ : Hid (madeX f (⟨1, (dn : Int), (dn : Int), b0, c0, nn, t⟩ : Ins) = f) := by show _ = _; unfold madeX; rw [if_pos (by simp)]
      go_wp2
      refine bodyPost_ret (results_none rfl _ _ _) rfl ?_
      rw [EQ.out]
      exact ⟨rfl, S2.out.of, S2.out.but⟩
    · have EQ : Hid (∀ s : Nat, s < V → madeX f (⟨op, (dn : Int), a, b0, c0, nn, t⟩ : Ins) s = if (s : Int) = dn then (if op = 1 then a else dn) else if f s = dn then (s : Int) else f s) := fun s _ => by unfold madeX; rw [if_neg (by simp only; omega)]
      have S3 : Hid (MdAt ob V w #[.int .i64 op, .int .i64 (dn : Int), .int .i64 a, .int .i64 b0, .int .i64 c0, .int .i64 nn, .string t] (madeM f dn 0) w2) := ⟨S2.out.bx, S2.out.of.congr (fun s _ => by unfold madeM; rw [if_neg (by omega)]), S2.out.but⟩
      clear S2
      have hop1 : (op == 1 && a == (dn : Int)) = false := by
        by_cases e : op = 1
        · simp [e]; intro e2; exact hs ⟨e, e2⟩
        · simp [e]
      by_cases h1 : op = 1
      · have hane : (a == (dn : Int)) = false := by
          have : a ≠ dn := fun e => hs ⟨h1, e⟩
          simpa using this
        subst h1
        go_wp2
        clear x0 x1 x2 x3 x4 x5 x6
        go_loopg [4] V (fun gk i wr => ∃ j : Nat, gk + j = V ∧ i = .int .i64 j ∧ Hid (MdAt ob V w #[.int .i64 1, .int .i64 (dn : Int), .int .i64 a, .int .i64 b0, .int .i64 c0, .int .i64 nn, .string t] (madeM f dn j) wr))
        case atStart => exact ⟨0, by simp, rfl, S3.out⟩
        case round =>
          obtain ⟨j, hj, rfl, hS⟩ := hrel
          clear S3
          by_cases hlt : j < V
          · obtain ⟨o0, of0⟩ := hS.out.of.at hlt
            have e0 : madeM f dn j j = f j := by unfold madeM; rw [if_neg (by omega)]
            rw [e0] at o0
            have SK : Hid (wr.drew.cell? ⟨ob, j, none⟩ = some (.int .i64 (f j)) ∧ wr.drew.cell? ⟨w.heap.size, 1, none⟩ = some (.int .i64 (dn : Int))) := ⟨o0, (cells_of hS.out.bx).1 1⟩
            by_cases hf : f j = dn
            · have hfb : (f j == (dn : Int)) = true := by simpa using hf
              have N6 : Hid (MdAt ob V w #[.int .i64 1, .int .i64 (dn : Int), .int .i64 a, .int .i64 b0, .int .i64 c0, .int .i64 nn, .string t] (madeM f dn (j + 1)) (wr.drew.setCell ⟨ob, j, none⟩ (.int .i64 (j : Int)))) := hS.out.drew.set ho hlt (fun s hs' => by
                unfold madeM
                by_cases e : (s : Int) = j
                · rw [if_pos e, if_pos ⟨by omega, by rw [e]; exact hf⟩, e]
                · rw [if_neg e]
                  by_cases e2 : (s : Int) < j ∧ f s = dn
                  · rw [if_pos e2, if_pos ⟨by omega, e2.2⟩]
                  · rw [if_neg e2, if_neg (fun e3 => e2 ⟨by omega, e3.2⟩)])
              go_upto_region 5 with fail
              go_region_held3 (fun W' => W'.cell? ⟨ob, j, none⟩ = some (.int .i64 (f j)) ∧ W'.cell? ⟨w.heap.size, 1, none⟩ = some (.int .i64 (dn : Int))) (first | with_reducible exact SK.out) (first | fail)
              go_wp2
              go_roundg (V - (j + 1))
              case rel => exact ⟨j + 1, by omega, by go_num, N6.out⟩
              case measure => omega
            · have hfb : (f j == (dn : Int)) = false := by simpa using hf
              have N6 : Hid (MdAt ob V w #[.int .i64 1, .int .i64 (dn : Int), .int .i64 a, .int .i64 b0, .int .i64 c0, .int .i64 nn, .string t] (madeM f dn (j + 1)) wr.drew) := ⟨hS.out.drew.bx, hS.out.drew.of.congr (fun s hs' => by
                unfold madeM
                by_cases e : (s : Int) = j
                · rw [if_neg (by omega), if_neg (fun e3 => hf (by rw [← e]; exact e3.2))]
                · by_cases e2 : (s : Int) < j ∧ f s = dn
                  · rw [if_pos e2, if_pos ⟨by omega, e2.2⟩]
                  · rw [if_neg e2, if_neg (fun e3 => e2 ⟨by omega, e3.2⟩)]), hS.out.drew.but⟩
              go_upto_region 5 with fail
              go_region_held3 (fun W' => W'.cell? ⟨ob, j, none⟩ = some (.int .i64 (f j)) ∧ W'.cell? ⟨w.heap.size, 1, none⟩ = some (.int .i64 (dn : Int))) (first | with_reducible exact SK.out) (first | fail)
              go_wp2
              go_roundg (V - (j + 1))
              case rel => exact ⟨j + 1, by omega, by go_num, N6.out⟩
              case measure => omega
          · have hjn : j = V := by omega
            subst hjn
            have x0 := (cells_of hS.out.bx).1 0
            have x1 := (cells_of hS.out.bx).1 1
            have x2 := (cells_of hS.out.bx).1 2
            simp at x0 x1 x2
            obtain ⟨o0, of0⟩ := hS.out.of.at hdn
            have M7 : Hid (MdAt ob j w #[.int .i64 1, .int .i64 (dn : Int), .int .i64 a, .int .i64 b0, .int .i64 c0, .int .i64 nn, .string t] (fun s => if s = (dn : Int) then (dn : Int) else madeM f dn j s) (wr.setCell ⟨ob, dn, none⟩ (.int .i64 (dn : Int)))) := hS.out.set ho hdn (fun s _ => rfl)
            go_upto_region 8 with fail
            clear x0 x1 x2 o0 of0
            obtain ⟨W7, hW7⟩ : ∃ W7, wr.setCell ⟨ob, dn, none⟩ (.int .i64 (dn : Int)) = W7 := ⟨_, rfl⟩
            rw [hW7] at M7 ⊢
            clear hW7 hS
            have x0 := (cells_of M7.out.bx).1 0
            have x1 := (cells_of M7.out.bx).1 1
            have x2 := (cells_of M7.out.bx).1 2
            simp at x0 x1 x2
            obtain ⟨o0, of0⟩ := M7.out.of.at hdn
            have M9 : Hid (MdAt ob j w #[.int .i64 1, .int .i64 (dn : Int), .int .i64 a, .int .i64 b0, .int .i64 c0, .int .i64 nn, .string t] (madeX f (⟨1, (dn : Int), a, b0, c0, nn, t⟩ : Ins)) (W7.setCell ⟨ob, dn, none⟩ (.int .i64 a))) := M7.out.set ho hdn (fun s hs' => by
              rw [EQ.out s hs']
              by_cases e : (s : Int) = dn
              · rw [if_pos e, if_pos e]; simp
              · rw [if_neg e, if_neg e, if_neg e]
                unfold madeM
                by_cases e2 : f s = dn
                · rw [if_pos ⟨by omega, e2⟩, if_pos e2]
                · rw [if_neg (fun e3 => e2 e3.2), if_neg e2])
            go_wp2
            go_end0
            exact ⟨rfl, M9.out.of, M9.out.but⟩
      · have h1b : (op == 1) = false := by simpa using h1
        go_wp2
        clear x0 x1 x2 x3 x4 x5 x6
        go_loopg [4] V (fun gk i wr => ∃ j : Nat, gk + j = V ∧ i = .int .i64 j ∧ Hid (MdAt ob V w #[.int .i64 op, .int .i64 (dn : Int), .int .i64 a, .int .i64 b0, .int .i64 c0, .int .i64 nn, .string t] (madeM f dn j) wr))
        case atStart => exact ⟨0, by simp, rfl, S3.out⟩
        case round =>
          obtain ⟨j, hj, rfl, hS⟩ := hrel
          clear S3
          by_cases hlt : j < V
          · obtain ⟨o0, of0⟩ := hS.out.of.at hlt
            have e0 : madeM f dn j j = f j := by unfold madeM; rw [if_neg (by omega)]
            rw [e0] at o0
            have SK : Hid (wr.drew.cell? ⟨ob, j, none⟩ = some (.int .i64 (f j)) ∧ wr.drew.cell? ⟨w.heap.size, 1, none⟩ = some (.int .i64 (dn : Int))) := ⟨o0, (cells_of hS.out.bx).1 1⟩
            by_cases hf : f j = dn
            · have hfb : (f j == (dn : Int)) = true := by simpa using hf
              have N6 : Hid (MdAt ob V w #[.int .i64 op, .int .i64 (dn : Int), .int .i64 a, .int .i64 b0, .int .i64 c0, .int .i64 nn, .string t] (madeM f dn (j + 1)) (wr.drew.setCell ⟨ob, j, none⟩ (.int .i64 (j : Int)))) := hS.out.drew.set ho hlt (fun s hs' => by
                unfold madeM
                by_cases e : (s : Int) = j
                · rw [if_pos e, if_pos ⟨by omega, by rw [e]; exact hf⟩, e]
                · rw [if_neg e]
                  by_cases e2 : (s : Int) < j ∧ f s = dn
                  · rw [if_pos e2, if_pos ⟨by omega, e2.2⟩]
                  · rw [if_neg e2, if_neg (fun e3 => e2 ⟨by omega, e3.2⟩)])
              go_upto_region 5 with fail
              go_region_held3 (fun W' => W'.cell? ⟨ob, j, none⟩ = some (.int .i64 (f j)) ∧ W'.cell? ⟨w.heap.size, 1, none⟩ = some (.int .i64 (dn : Int))) (first | with_reducible exact SK.out) (first | fail)
              go_wp2
              go_roundg (V - (j + 1))
              case rel => exact ⟨j + 1, by omega, by go_num, N6.out⟩
              case measure => omega
            · have hfb : (f j == (dn : Int)) = false := by simpa using hf
              have N6 : Hid (MdAt ob V w #[.int .i64 op, .int .i64 (dn : Int), .int .i64 a, .int .i64 b0, .int .i64 c0, .int .i64 nn, .string t] (madeM f dn (j + 1)) wr.drew) := ⟨hS.out.drew.bx, hS.out.drew.of.congr (fun s hs' => by
                unfold madeM
                by_cases e : (s : Int) = j
                · rw [if_neg (by omega), if_neg (fun e3 => hf (by rw [← e]; exact e3.2))]
                · by_cases e2 : (s : Int) < j ∧ f s = dn
                  · rw [if_pos e2, if_pos ⟨by omega, e2.2⟩]
                  · rw [if_neg e2, if_neg (fun e3 => e2 ⟨by omega, e3.2⟩)]), hS.out.drew.but⟩
              go_upto_region 5 with fail
              go_region_held3 (fun W' => W'.cell? ⟨ob, j, none⟩ = some (.int .i64 (f j)) ∧ W'.cell? ⟨w.heap.size, 1, none⟩ = some (.int .i64 (dn : Int))) (first | with_reducible exact SK.out) (first | fail)
              go_wp2
              go_roundg (V - (j + 1))
              case rel => exact ⟨j + 1, by omega, by go_num, N6.out⟩
              case measure => omega
          · have hjn : j = V := by omega
            subst hjn
            have x0 := (cells_of hS.out.bx).1 0
            have x1 := (cells_of hS.out.bx).1 1
            have x2 := (cells_of hS.out.bx).1 2
            simp at x0 x1 x2
            obtain ⟨o0, of0⟩ := hS.out.of.at hdn
            have M7 : Hid (MdAt ob j w #[.int .i64 op, .int .i64 (dn : Int), .int .i64 a, .int .i64 b0, .int .i64 c0, .int .i64 nn, .string t] (fun s => if s = (dn : Int) then (dn : Int) else madeM f dn j s) (wr.setCell ⟨ob, dn, none⟩ (.int .i64 (dn : Int)))) := hS.out.set ho hdn (fun s _ => rfl)
            go_upto_region 8 with fail
            clear x0 x1 x2 o0 of0
            obtain ⟨W7, hW7⟩ : ∃ W7, wr.setCell ⟨ob, dn, none⟩ (.int .i64 (dn : Int)) = W7 := ⟨_, rfl⟩
            rw [hW7] at M7 ⊢
            clear hW7 hS
            have x0 := (cells_of M7.out.bx).1 0
            have x1 := (cells_of M7.out.bx).1 1
            have x2 := (cells_of M7.out.bx).1 2
            simp at x0 x1 x2
            have M9 : Hid (OfAt ob j (madeX f (⟨op, (dn : Int), a, b0, c0, nn, t⟩ : Ins)) W7) := M7.out.of.congr (fun s hs' => by
              rw [EQ.out s hs']
              by_cases e : (s : Int) = dn
              · rw [if_pos e, if_pos e, if_neg h1]
              · rw [if_neg e, if_neg e]
                unfold madeM
                by_cases e2 : f s = dn
                · rw [if_pos ⟨by omega, e2⟩, if_pos e2]
                · rw [if_neg (fun e3 => e2 e3.2), if_neg e2])
            go_wp2
            go_end0
            exact ⟨rfl, M9.out, M7.out.but⟩
end Go.Proofs.Ytjmclmbepnbeoaa
