/- The contract of spec.l09Use (written by wip/mkusex.py). -/
import Derived.Test.YtelkpikbjfkpcaaFldPG
import Derived.Test.YtelkpikbjfkpcaaRowA
import Derived.Deep.CutRange
import Derived.Deep.RegionHeld3
namespace Go.Proofs.Ytelkpikbjfkpcaa
open Go.ChangeShapes Go.WideShapes Go.ChangeAt Go.RowKit
structure UsAt (ob V : Nat) (f : Int → Int) (w : World) (y : Array Value) (W : World) : Prop where
  bx : W.heap[w.heap.size]? = some (.cells y 45 (0, 0))
  br : W.heap[w.heap.size + 1]? = some (.cells #[.int .i64 0, .int .i64 0, .int .i64 0, .int .i64 0, .int .i64 0, .int .i64 0, .string ⟨#[]⟩] 45 (0, 0))
  of : OfAt ob V f W
  bel : Below w.heap.size w W
theorem UsAt.set {ob V : Nat} {f : Int → Int} {w W : World} {y y' : Array Value} (h : UsAt ob V f w y W) (ho : ob < w.heap.size) {i : Nat} {v : Value} (e : y.setIfInBounds i v = y') : UsAt ob V f w y' (W.setCell ⟨w.heap.size, i, none⟩ v) := by
  subst e
  have b : But w.heap.size W (W.setCell ⟨w.heap.size, i, none⟩ v) := (But.refl _ W).set _ _
  exact ⟨heap_setCell_same W _ i _ _ v h.bx, keepQ b h.br (by omega), h.of.but b (by omega), h.bel.trans (b.below (Nat.le_refl _) h.bel.size)⟩
set_option maxRecDepth 100000 in
set_option maxHeartbeats 16000000 in
theorem use09_any (x : Ins) (f : Int → Int) (V : Nat) (w : World) (ob cap : Nat) (h : OfAt ob V f w) (hu : ∀ s ∈ usesP x, 0 ≤ s ∧ s < V) :
    Calls Try.prog 33 #[.agg (insV x), .slice (some ⟨ob, 0, none⟩) V cap] w fun e w' => e = .returned (.agg (insV (useX f x))) ∧ Below w.heap.size w w' := by
  obtain ⟨op, d, a, b0, c0, nn, t⟩ := x
  simp only [insV]
  have ho := h.lt
  have al := below2 w (.cells #[.int .i64 op, .int .i64 d, .int .i64 a, .int .i64 b0, .int .i64 c0, .int .i64 nn, .string t] 45) (.cells #[.int .i64 0, .int .i64 0, .int .i64 0, .int .i64 0, .int .i64 0, .int .i64 0, .string ⟨#[]⟩] 45)
  have tw := bxx2 w (.cells #[.int .i64 op, .int .i64 d, .int .i64 a, .int .i64 b0, .int .i64 c0, .int .i64 nn, .string t] 45) (.cells #[.int .i64 0, .int .i64 0, .int .i64 0, .int .i64 0, .int .i64 0, .int .i64 0, .string ⟨#[]⟩] 45)
  obtain ⟨W2, hW2⟩ : ∃ W2, (w.alloc (.cells #[.int .i64 op, .int .i64 d, .int .i64 a, .int .i64 b0, .int .i64 c0, .int .i64 nn, .string t] 45)).alloc (.cells #[.int .i64 0, .int .i64 0, .int .i64 0, .int .i64 0, .int .i64 0, .int .i64 0, .string ⟨#[]⟩] 45) = W2 := ⟨_, rfl⟩
  rw [hW2] at al tw
  have S0 : Hid (UsAt ob V f w #[.int .i64 op, .int .i64 d, .int .i64 a, .int .i64 b0, .int .i64 c0, .int .i64 nn, .string t] W2) := ⟨tw.1, tw.2.1, h.stays al, al⟩
  have HW := hideP hW2
  clear al tw hW2 h
  go_enter Try.func33, Try.ntmps33
  go_upto_region 1 with fail
  rw [HW.out]
  clear HW
  by_cases h1 : op = 1
  · subst h1
    obtain ⟨an, rfl⟩ : ∃ an : Nat, a = an := ⟨a.toNat, by have := hu a (by simp [usesP]); omega⟩
    have han : an < V := by have := hu an (by simp [usesP]); omega
    have EQ : Hid (useX f (⟨1, d, (an : Int), b0, c0, nn, t⟩ : Ins) = (⟨1, d, (f (an : Int)), b0, c0, nn, t⟩ : Ins)) := by show _ = _; simp [useX]
    have fc := (cells_of S0.out.bx).1
    have x0 := fc 0
    have x1 := fc 1
    have x2 := fc 2
    have x3 := fc 3
    have x4 := fc 4
    have x5 := fc 5
    have x6 := fc 6
    simp at x0 x1 x2 x3 x4 x5 x6
    clear fc
    have xf := (cells_of S0.out.bx).2
    obtain ⟨o0, of0⟩ := S0.out.of.at han
    have S1 : Hid (UsAt ob V f w #[.int .i64 1, .int .i64 d, .int .i64 (f (an : Int)), .int .i64 b0, .int .i64 c0, .int .i64 nn, .string t] (W2.setCell ⟨w.heap.size, 2, none⟩ (.int .i64 (f (an : Int))))) := S0.out.set ho rfl
    go_upto_region 15 with fail
    obtain ⟨V0, hV0⟩ : ∃ V0, W2.setCell ⟨w.heap.size, 2, none⟩ (.int .i64 (f (an : Int))) = V0 := ⟨_, rfl⟩
    rw [hV0] at S1 ⊢
    clear hV0 x0 x1 x2 x3 x4 x5 x6 xf o0 of0 S0
    have fc := (cells_of S1.out.bx).1
    have x0 := fc 0
    have x1 := fc 1
    have x2 := fc 2
    have x3 := fc 3
    have x4 := fc 4
    have x5 := fc 5
    have x6 := fc 6
    simp at x0 x1 x2 x3 x4 x5 x6
    clear fc
    have fc := (cells_of S1.out.br).1
    have r0 := fc 0
    have r1 := fc 1
    have r2 := fc 2
    have r3 := fc 3
    have r4 := fc 4
    have r5 := fc 5
    have r6 := fc 6
    simp at r0 r1 r2 r3 r4 r5 r6
    clear fc
    have rf := (cells_of S1.out.br).2
    obtain ⟨z6, bu⟩ := put7n S1.out.br rfl (.int .i64 1) (.int .i64 d) (.int .i64 (f (an : Int))) (.int .i64 b0) (.int .i64 c0) (.int .i64 nn) (.string t)
    have ZF := hideP z6
    have BU := hideP (S1.out.bel.trans (bu.below (Nat.le_succ _) S1.out.bel.size))
    clear z6 bu
    go_wp2
    refine bodyPost_ret (results_cell_row rfl _ _ (w.heap.size + 1) 45 #[.int .i64 1, .int .i64 d, .int .i64 (f (an : Int)), .int .i64 b0, .int .i64 c0, .int .i64 nn, .string t] (0, 0) _ rfl ZF.out Try.underlying45 rfl (by kernel_rfl)) rfl ?_
    rw [EQ.out]
    exact ⟨rfl, BU.out⟩
  have h1b : (op == 1) = false := by simpa using h1
  by_cases h6 : op = 6
  · subst h6
    obtain ⟨an, rfl⟩ : ∃ an : Nat, a = an := ⟨a.toNat, by have := hu a (by simp [usesP]); omega⟩
    have han : an < V := by have := hu an (by simp [usesP]); omega
    have EQ : Hid (useX f (⟨6, d, (an : Int), b0, c0, nn, t⟩ : Ins) = (⟨6, d, (f (an : Int)), b0, c0, nn, t⟩ : Ins)) := by show _ = _; simp [useX]
    have fc := (cells_of S0.out.bx).1
    have x0 := fc 0
    have x1 := fc 1
    have x2 := fc 2
    have x3 := fc 3
    have x4 := fc 4
    have x5 := fc 5
    have x6 := fc 6
    simp at x0 x1 x2 x3 x4 x5 x6
    clear fc
    have xf := (cells_of S0.out.bx).2
    obtain ⟨o0, of0⟩ := S0.out.of.at han
    have S1 : Hid (UsAt ob V f w #[.int .i64 6, .int .i64 d, .int .i64 (f (an : Int)), .int .i64 b0, .int .i64 c0, .int .i64 nn, .string t] (W2.setCell ⟨w.heap.size, 2, none⟩ (.int .i64 (f (an : Int))))) := S0.out.set ho rfl
    go_upto_region 15 with fail
    obtain ⟨V0, hV0⟩ : ∃ V0, W2.setCell ⟨w.heap.size, 2, none⟩ (.int .i64 (f (an : Int))) = V0 := ⟨_, rfl⟩
    rw [hV0] at S1 ⊢
    clear hV0 x0 x1 x2 x3 x4 x5 x6 xf o0 of0 S0
    have fc := (cells_of S1.out.bx).1
    have x0 := fc 0
    have x1 := fc 1
    have x2 := fc 2
    have x3 := fc 3
    have x4 := fc 4
    have x5 := fc 5
    have x6 := fc 6
    simp at x0 x1 x2 x3 x4 x5 x6
    clear fc
    have fc := (cells_of S1.out.br).1
    have r0 := fc 0
    have r1 := fc 1
    have r2 := fc 2
    have r3 := fc 3
    have r4 := fc 4
    have r5 := fc 5
    have r6 := fc 6
    simp at r0 r1 r2 r3 r4 r5 r6
    clear fc
    have rf := (cells_of S1.out.br).2
    obtain ⟨z6, bu⟩ := put7n S1.out.br rfl (.int .i64 6) (.int .i64 d) (.int .i64 (f (an : Int))) (.int .i64 b0) (.int .i64 c0) (.int .i64 nn) (.string t)
    have ZF := hideP z6
    have BU := hideP (S1.out.bel.trans (bu.below (Nat.le_succ _) S1.out.bel.size))
    clear z6 bu
    go_wp2
    refine bodyPost_ret (results_cell_row rfl _ _ (w.heap.size + 1) 45 #[.int .i64 6, .int .i64 d, .int .i64 (f (an : Int)), .int .i64 b0, .int .i64 c0, .int .i64 nn, .string t] (0, 0) _ rfl ZF.out Try.underlying45 rfl (by kernel_rfl)) rfl ?_
    rw [EQ.out]
    exact ⟨rfl, BU.out⟩
  have h6b : (op == 6) = false := by simpa using h6
  by_cases h2 : op = 2
  · subst h2
    obtain ⟨an, rfl⟩ : ∃ an : Nat, a = an := ⟨a.toNat, by have := hu a (by simp [usesP]); omega⟩
    have han : an < V := by have := hu an (by simp [usesP]); omega
    obtain ⟨bn, rfl⟩ : ∃ bn : Nat, b0 = bn := ⟨b0.toNat, by have := hu b0 (by simp [usesP]); omega⟩
    have hbn : bn < V := by have := hu bn (by simp [usesP]); omega
    have EQ : Hid (useX f (⟨2, d, (an : Int), (bn : Int), c0, nn, t⟩ : Ins) = (⟨2, d, (f (an : Int)), (f (bn : Int)), c0, nn, t⟩ : Ins)) := by show _ = _; simp [useX]
    have fc := (cells_of S0.out.bx).1
    have x0 := fc 0
    have x1 := fc 1
    have x2 := fc 2
    have x3 := fc 3
    have x4 := fc 4
    have x5 := fc 5
    have x6 := fc 6
    simp at x0 x1 x2 x3 x4 x5 x6
    clear fc
    have xf := (cells_of S0.out.bx).2
    obtain ⟨o0, of0⟩ := S0.out.of.at han
    have S1 : Hid (UsAt ob V f w #[.int .i64 2, .int .i64 d, .int .i64 (f (an : Int)), .int .i64 (bn : Int), .int .i64 c0, .int .i64 nn, .string t] (W2.setCell ⟨w.heap.size, 2, none⟩ (.int .i64 (f (an : Int))))) := S0.out.set ho rfl
    go_upto_region 7 with fail
    obtain ⟨V0, hV0⟩ : ∃ V0, W2.setCell ⟨w.heap.size, 2, none⟩ (.int .i64 (f (an : Int))) = V0 := ⟨_, rfl⟩
    rw [hV0] at S1 ⊢
    clear hV0 x0 x1 x2 x3 x4 x5 x6 xf o0 of0 S0
    have fc := (cells_of S1.out.bx).1
    have x0 := fc 0
    have x1 := fc 1
    have x2 := fc 2
    have x3 := fc 3
    have x4 := fc 4
    have x5 := fc 5
    have x6 := fc 6
    simp at x0 x1 x2 x3 x4 x5 x6
    clear fc
    have xf := (cells_of S1.out.bx).2
    obtain ⟨o0, of0⟩ := S1.out.of.at hbn
    have S2 : Hid (UsAt ob V f w #[.int .i64 2, .int .i64 d, .int .i64 (f (an : Int)), .int .i64 (f (bn : Int)), .int .i64 c0, .int .i64 nn, .string t] (V0.setCell ⟨w.heap.size, 3, none⟩ (.int .i64 (f (bn : Int))))) := S1.out.set ho rfl
    go_upto_region 15 with fail
    obtain ⟨V1, hV1⟩ : ∃ V1, V0.setCell ⟨w.heap.size, 3, none⟩ (.int .i64 (f (bn : Int))) = V1 := ⟨_, rfl⟩
    rw [hV1] at S2 ⊢
    clear hV1 x0 x1 x2 x3 x4 x5 x6 xf o0 of0 S1
    have fc := (cells_of S2.out.bx).1
    have x0 := fc 0
    have x1 := fc 1
    have x2 := fc 2
    have x3 := fc 3
    have x4 := fc 4
    have x5 := fc 5
    have x6 := fc 6
    simp at x0 x1 x2 x3 x4 x5 x6
    clear fc
    have fc := (cells_of S2.out.br).1
    have r0 := fc 0
    have r1 := fc 1
    have r2 := fc 2
    have r3 := fc 3
    have r4 := fc 4
    have r5 := fc 5
    have r6 := fc 6
    simp at r0 r1 r2 r3 r4 r5 r6
    clear fc
    have rf := (cells_of S2.out.br).2
    obtain ⟨z6, bu⟩ := put7n S2.out.br rfl (.int .i64 2) (.int .i64 d) (.int .i64 (f (an : Int))) (.int .i64 (f (bn : Int))) (.int .i64 c0) (.int .i64 nn) (.string t)
    have ZF := hideP z6
    have BU := hideP (S2.out.bel.trans (bu.below (Nat.le_succ _) S2.out.bel.size))
    clear z6 bu
    go_wp2
    refine bodyPost_ret (results_cell_row rfl _ _ (w.heap.size + 1) 45 #[.int .i64 2, .int .i64 d, .int .i64 (f (an : Int)), .int .i64 (f (bn : Int)), .int .i64 c0, .int .i64 nn, .string t] (0, 0) _ rfl ZF.out Try.underlying45 rfl (by kernel_rfl)) rfl ?_
    rw [EQ.out]
    exact ⟨rfl, BU.out⟩
  have h2b : (op == 2) = false := by simpa using h2
  by_cases h3 : op = 3
  · subst h3
    by_cases ha : a < 0
    · have hg : ¬ (0 ≤ a) := by omega
      obtain ⟨bn, rfl⟩ : ∃ bn : Nat, b0 = bn := ⟨b0.toNat, by have := hu b0 (by simp [usesP, cellP_neg ha]); omega⟩
      have hbn : bn < V := by have := hu bn (by simp [usesP, cellP_neg ha]); omega
      have EQ : Hid (useX f (⟨3, d, a, (bn : Int), c0, nn, t⟩ : Ins) = (⟨3, d, a, (f (bn : Int)), c0, nn, t⟩ : Ins)) := by show _ = _; simp [useX, hg]
      have fc := (cells_of S0.out.bx).1
      have x0 := fc 0
      have x1 := fc 1
      have x2 := fc 2
      have x3 := fc 3
      have x4 := fc 4
      have x5 := fc 5
      have x6 := fc 6
      simp at x0 x1 x2 x3 x4 x5 x6
      clear fc
      have xf := (cells_of S0.out.bx).2
      obtain ⟨o0, of0⟩ := S0.out.of.at hbn
      have S1 : Hid (UsAt ob V f w #[.int .i64 3, .int .i64 d, .int .i64 a, .int .i64 (f (bn : Int)), .int .i64 c0, .int .i64 nn, .string t] (W2.setCell ⟨w.heap.size, 3, none⟩ (.int .i64 (f (bn : Int))))) := S0.out.set ho rfl
      go_upto_region 11 with fail
      obtain ⟨V0, hV0⟩ : ∃ V0, W2.setCell ⟨w.heap.size, 3, none⟩ (.int .i64 (f (bn : Int))) = V0 := ⟨_, rfl⟩
      rw [hV0] at S1 ⊢
      clear hV0 x0 x1 x2 x3 x4 x5 x6 xf o0 of0 S0
      have fc := (cells_of S1.out.bx).1
      have x0 := fc 0
      have x1 := fc 1
      have x2 := fc 2
      have x3 := fc 3
      have x4 := fc 4
      have x5 := fc 5
      have x6 := fc 6
      simp at x0 x1 x2 x3 x4 x5 x6
      clear fc
      have fc := (cells_of S1.out.br).1
      have r0 := fc 0
      have r1 := fc 1
      have r2 := fc 2
      have r3 := fc 3
      have r4 := fc 4
      have r5 := fc 5
      have r6 := fc 6
      simp at r0 r1 r2 r3 r4 r5 r6
      clear fc
      have rf := (cells_of S1.out.br).2
      obtain ⟨z6, bu⟩ := put7n S1.out.br rfl (.int .i64 3) (.int .i64 d) (.int .i64 a) (.int .i64 (f (bn : Int))) (.int .i64 c0) (.int .i64 nn) (.string t)
      have ZF := hideP z6
      have BU := hideP (S1.out.bel.trans (bu.below (Nat.le_succ _) S1.out.bel.size))
      clear z6 bu
      go_wp2
      refine bodyPost_ret (results_cell_row rfl _ _ (w.heap.size + 1) 45 #[.int .i64 3, .int .i64 d, .int .i64 a, .int .i64 (f (bn : Int)), .int .i64 c0, .int .i64 nn, .string t] (0, 0) _ rfl ZF.out Try.underlying45 rfl (by kernel_rfl)) rfl ?_
      rw [EQ.out]
      exact ⟨rfl, BU.out⟩
    · obtain ⟨an, rfl⟩ : ∃ an : Nat, a = an := ⟨a.toNat, by have := hu a (by simp [usesP, cellP_pos ha]); omega⟩
      have han : an < V := by have := hu an (by simp [usesP, cellP_pos ha]); omega
      obtain ⟨bn, rfl⟩ : ∃ bn : Nat, b0 = bn := ⟨b0.toNat, by have := hu b0 (by simp [usesP, cellP_pos ha]); omega⟩
      have hbn : bn < V := by have := hu bn (by simp [usesP, cellP_pos ha]); omega
      have hg : (0 : Int) ≤ (an : Int) := by omega
      have EQ : Hid (useX f (⟨3, d, (an : Int), (bn : Int), c0, nn, t⟩ : Ins) = (⟨3, d, (f (an : Int)), (f (bn : Int)), c0, nn, t⟩ : Ins)) := by show _ = _; simp [useX]
      have fc := (cells_of S0.out.bx).1
      have x0 := fc 0
      have x1 := fc 1
      have x2 := fc 2
      have x3 := fc 3
      have x4 := fc 4
      have x5 := fc 5
      have x6 := fc 6
      simp at x0 x1 x2 x3 x4 x5 x6
      clear fc
      have xf := (cells_of S0.out.bx).2
      obtain ⟨o0, of0⟩ := S0.out.of.at hbn
      have S1 : Hid (UsAt ob V f w #[.int .i64 3, .int .i64 d, .int .i64 (an : Int), .int .i64 (f (bn : Int)), .int .i64 c0, .int .i64 nn, .string t] (W2.setCell ⟨w.heap.size, 3, none⟩ (.int .i64 (f (bn : Int))))) := S0.out.set ho rfl
      go_upto_region 11 with fail
      obtain ⟨V0, hV0⟩ : ∃ V0, W2.setCell ⟨w.heap.size, 3, none⟩ (.int .i64 (f (bn : Int))) = V0 := ⟨_, rfl⟩
      rw [hV0] at S1 ⊢
      clear hV0 x0 x1 x2 x3 x4 x5 x6 xf o0 of0 S0
      have fc := (cells_of S1.out.bx).1
      have x0 := fc 0
      have x1 := fc 1
      have x2 := fc 2
      have x3 := fc 3
      have x4 := fc 4
      have x5 := fc 5
      have x6 := fc 6
      simp at x0 x1 x2 x3 x4 x5 x6
      clear fc
      have xf := (cells_of S1.out.bx).2
      obtain ⟨o0, of0⟩ := S1.out.of.at han
      have S2 : Hid (UsAt ob V f w #[.int .i64 3, .int .i64 d, .int .i64 (f (an : Int)), .int .i64 (f (bn : Int)), .int .i64 c0, .int .i64 nn, .string t] (V0.setCell ⟨w.heap.size, 2, none⟩ (.int .i64 (f (an : Int))))) := S1.out.set ho rfl
      go_upto_region 13 with fail
      obtain ⟨V1, hV1⟩ : ∃ V1, V0.setCell ⟨w.heap.size, 2, none⟩ (.int .i64 (f (an : Int))) = V1 := ⟨_, rfl⟩
      rw [hV1] at S2 ⊢
      clear hV1 x0 x1 x2 x3 x4 x5 x6 xf o0 of0 S1
      have fc := (cells_of S2.out.bx).1
      have x0 := fc 0
      have x1 := fc 1
      have x2 := fc 2
      have x3 := fc 3
      have x4 := fc 4
      have x5 := fc 5
      have x6 := fc 6
      simp at x0 x1 x2 x3 x4 x5 x6
      clear fc
      have fc := (cells_of S2.out.br).1
      have r0 := fc 0
      have r1 := fc 1
      have r2 := fc 2
      have r3 := fc 3
      have r4 := fc 4
      have r5 := fc 5
      have r6 := fc 6
      simp at r0 r1 r2 r3 r4 r5 r6
      clear fc
      have rf := (cells_of S2.out.br).2
      obtain ⟨z6, bu⟩ := put7n S2.out.br rfl (.int .i64 3) (.int .i64 d) (.int .i64 (f (an : Int))) (.int .i64 (f (bn : Int))) (.int .i64 c0) (.int .i64 nn) (.string t)
      have ZF := hideP z6
      have BU := hideP (S2.out.bel.trans (bu.below (Nat.le_succ _) S2.out.bel.size))
      clear z6 bu
      go_wp2
      refine bodyPost_ret (results_cell_row rfl _ _ (w.heap.size + 1) 45 #[.int .i64 3, .int .i64 d, .int .i64 (f (an : Int)), .int .i64 (f (bn : Int)), .int .i64 c0, .int .i64 nn, .string t] (0, 0) _ rfl ZF.out Try.underlying45 rfl (by kernel_rfl)) rfl ?_
      rw [EQ.out]
      exact ⟨rfl, BU.out⟩
  have h3b : (op == 3) = false := by simpa using h3
  by_cases h4 : op = 4
  · subst h4
    by_cases ha : a < 0
    · have hg : ¬ (0 ≤ a) := by omega
      obtain ⟨bn, rfl⟩ : ∃ bn : Nat, b0 = bn := ⟨b0.toNat, by have := hu b0 (by simp [usesP, cellP_neg ha]); omega⟩
      have hbn : bn < V := by have := hu bn (by simp [usesP, cellP_neg ha]); omega
      obtain ⟨cn, rfl⟩ : ∃ cn : Nat, c0 = cn := ⟨c0.toNat, by have := hu c0 (by simp [usesP, cellP_neg ha]); omega⟩
      have hcn : cn < V := by have := hu cn (by simp [usesP, cellP_neg ha]); omega
      have EQ : Hid (useX f (⟨4, d, a, (bn : Int), (cn : Int), nn, t⟩ : Ins) = (⟨4, d, a, (f (bn : Int)), (f (cn : Int)), nn, t⟩ : Ins)) := by show _ = _; simp [useX, hg]
      have fc := (cells_of S0.out.bx).1
      have x0 := fc 0
      have x1 := fc 1
      have x2 := fc 2
      have x3 := fc 3
      have x4 := fc 4
      have x5 := fc 5
      have x6 := fc 6
      simp at x0 x1 x2 x3 x4 x5 x6
      clear fc
      have xf := (cells_of S0.out.bx).2
      obtain ⟨o0, of0⟩ := S0.out.of.at hbn
      have S1 : Hid (UsAt ob V f w #[.int .i64 4, .int .i64 d, .int .i64 a, .int .i64 (f (bn : Int)), .int .i64 (cn : Int), .int .i64 nn, .string t] (W2.setCell ⟨w.heap.size, 3, none⟩ (.int .i64 (f (bn : Int))))) := S0.out.set ho rfl
      go_upto_region 11 with fail
      obtain ⟨V0, hV0⟩ : ∃ V0, W2.setCell ⟨w.heap.size, 3, none⟩ (.int .i64 (f (bn : Int))) = V0 := ⟨_, rfl⟩
      rw [hV0] at S1 ⊢
      clear hV0 x0 x1 x2 x3 x4 x5 x6 xf o0 of0 S0
      have fc := (cells_of S1.out.bx).1
      have x0 := fc 0
      have x1 := fc 1
      have x2 := fc 2
      have x3 := fc 3
      have x4 := fc 4
      have x5 := fc 5
      have x6 := fc 6
      simp at x0 x1 x2 x3 x4 x5 x6
      clear fc
      have xf := (cells_of S1.out.bx).2
      obtain ⟨o0, of0⟩ := S1.out.of.at hcn
      have S2 : Hid (UsAt ob V f w #[.int .i64 4, .int .i64 d, .int .i64 a, .int .i64 (f (bn : Int)), .int .i64 (f (cn : Int)), .int .i64 nn, .string t] (V0.setCell ⟨w.heap.size, 4, none⟩ (.int .i64 (f (cn : Int))))) := S1.out.set ho rfl
      go_upto_region 15 with fail
      obtain ⟨V1, hV1⟩ : ∃ V1, V0.setCell ⟨w.heap.size, 4, none⟩ (.int .i64 (f (cn : Int))) = V1 := ⟨_, rfl⟩
      rw [hV1] at S2 ⊢
      clear hV1 x0 x1 x2 x3 x4 x5 x6 xf o0 of0 S1
      have fc := (cells_of S2.out.bx).1
      have x0 := fc 0
      have x1 := fc 1
      have x2 := fc 2
      have x3 := fc 3
      have x4 := fc 4
      have x5 := fc 5
      have x6 := fc 6
      simp at x0 x1 x2 x3 x4 x5 x6
      clear fc
      have fc := (cells_of S2.out.br).1
      have r0 := fc 0
      have r1 := fc 1
      have r2 := fc 2
      have r3 := fc 3
      have r4 := fc 4
      have r5 := fc 5
      have r6 := fc 6
      simp at r0 r1 r2 r3 r4 r5 r6
      clear fc
      have rf := (cells_of S2.out.br).2
      obtain ⟨z6, bu⟩ := put7n S2.out.br rfl (.int .i64 4) (.int .i64 d) (.int .i64 a) (.int .i64 (f (bn : Int))) (.int .i64 (f (cn : Int))) (.int .i64 nn) (.string t)
      have ZF := hideP z6
      have BU := hideP (S2.out.bel.trans (bu.below (Nat.le_succ _) S2.out.bel.size))
      clear z6 bu
      go_wp2
      refine bodyPost_ret (results_cell_row rfl _ _ (w.heap.size + 1) 45 #[.int .i64 4, .int .i64 d, .int .i64 a, .int .i64 (f (bn : Int)), .int .i64 (f (cn : Int)), .int .i64 nn, .string t] (0, 0) _ rfl ZF.out Try.underlying45 rfl (by kernel_rfl)) rfl ?_
      rw [EQ.out]
      exact ⟨rfl, BU.out⟩
    · obtain ⟨an, rfl⟩ : ∃ an : Nat, a = an := ⟨a.toNat, by have := hu a (by simp [usesP, cellP_pos ha]); omega⟩
      have han : an < V := by have := hu an (by simp [usesP, cellP_pos ha]); omega
      obtain ⟨bn, rfl⟩ : ∃ bn : Nat, b0 = bn := ⟨b0.toNat, by have := hu b0 (by simp [usesP, cellP_pos ha]); omega⟩
      have hbn : bn < V := by have := hu bn (by simp [usesP, cellP_pos ha]); omega
      obtain ⟨cn, rfl⟩ : ∃ cn : Nat, c0 = cn := ⟨c0.toNat, by have := hu c0 (by simp [usesP, cellP_pos ha]); omega⟩
      have hcn : cn < V := by have := hu cn (by simp [usesP, cellP_pos ha]); omega
      have hg : (0 : Int) ≤ (an : Int) := by omega
      have EQ : Hid (useX f (⟨4, d, (an : Int), (bn : Int), (cn : Int), nn, t⟩ : Ins) = (⟨4, d, (f (an : Int)), (f (bn : Int)), (f (cn : Int)), nn, t⟩ : Ins)) := by show _ = _; simp [useX]
      have fc := (cells_of S0.out.bx).1
      have x0 := fc 0
      have x1 := fc 1
      have x2 := fc 2
      have x3 := fc 3
      have x4 := fc 4
      have x5 := fc 5
      have x6 := fc 6
      simp at x0 x1 x2 x3 x4 x5 x6
      clear fc
      have xf := (cells_of S0.out.bx).2
      obtain ⟨o0, of0⟩ := S0.out.of.at hbn
      have S1 : Hid (UsAt ob V f w #[.int .i64 4, .int .i64 d, .int .i64 (an : Int), .int .i64 (f (bn : Int)), .int .i64 (cn : Int), .int .i64 nn, .string t] (W2.setCell ⟨w.heap.size, 3, none⟩ (.int .i64 (f (bn : Int))))) := S0.out.set ho rfl
      go_upto_region 11 with fail
      obtain ⟨V0, hV0⟩ : ∃ V0, W2.setCell ⟨w.heap.size, 3, none⟩ (.int .i64 (f (bn : Int))) = V0 := ⟨_, rfl⟩
      rw [hV0] at S1 ⊢
      clear hV0 x0 x1 x2 x3 x4 x5 x6 xf o0 of0 S0
      have fc := (cells_of S1.out.bx).1
      have x0 := fc 0
      have x1 := fc 1
      have x2 := fc 2
      have x3 := fc 3
      have x4 := fc 4
      have x5 := fc 5
      have x6 := fc 6
      simp at x0 x1 x2 x3 x4 x5 x6
      clear fc
      have xf := (cells_of S1.out.bx).2
      obtain ⟨o0, of0⟩ := S1.out.of.at han
      have S2 : Hid (UsAt ob V f w #[.int .i64 4, .int .i64 d, .int .i64 (f (an : Int)), .int .i64 (f (bn : Int)), .int .i64 (cn : Int), .int .i64 nn, .string t] (V0.setCell ⟨w.heap.size, 2, none⟩ (.int .i64 (f (an : Int))))) := S1.out.set ho rfl
      go_upto_region 13 with fail
      obtain ⟨V1, hV1⟩ : ∃ V1, V0.setCell ⟨w.heap.size, 2, none⟩ (.int .i64 (f (an : Int))) = V1 := ⟨_, rfl⟩
      rw [hV1] at S2 ⊢
      clear hV1 x0 x1 x2 x3 x4 x5 x6 xf o0 of0 S1
      have fc := (cells_of S2.out.bx).1
      have x0 := fc 0
      have x1 := fc 1
      have x2 := fc 2
      have x3 := fc 3
      have x4 := fc 4
      have x5 := fc 5
      have x6 := fc 6
      simp at x0 x1 x2 x3 x4 x5 x6
      clear fc
      have xf := (cells_of S2.out.bx).2
      obtain ⟨o0, of0⟩ := S2.out.of.at hcn
      have S3 : Hid (UsAt ob V f w #[.int .i64 4, .int .i64 d, .int .i64 (f (an : Int)), .int .i64 (f (bn : Int)), .int .i64 (f (cn : Int)), .int .i64 nn, .string t] (V1.setCell ⟨w.heap.size, 4, none⟩ (.int .i64 (f (cn : Int))))) := S2.out.set ho rfl
      go_upto_region 15 with fail
      obtain ⟨V2, hV2⟩ : ∃ V2, V1.setCell ⟨w.heap.size, 4, none⟩ (.int .i64 (f (cn : Int))) = V2 := ⟨_, rfl⟩
      rw [hV2] at S3 ⊢
      clear hV2 x0 x1 x2 x3 x4 x5 x6 xf o0 of0 S2
      have fc := (cells_of S3.out.bx).1
      have x0 := fc 0
      have x1 := fc 1
      have x2 := fc 2
      have x3 := fc 3
      have x4 := fc 4
      have x5 := fc 5
      have x6 := fc 6
      simp at x0 x1 x2 x3 x4 x5 x6
      clear fc
      have fc := (cells_of S3.out.br).1
      have r0 := fc 0
      have r1 := fc 1
      have r2 := fc 2
      have r3 := fc 3
      have r4 := fc 4
      have r5 := fc 5
      have r6 := fc 6
      simp at r0 r1 r2 r3 r4 r5 r6
      clear fc
      have rf := (cells_of S3.out.br).2
      obtain ⟨z6, bu⟩ := put7n S3.out.br rfl (.int .i64 4) (.int .i64 d) (.int .i64 (f (an : Int))) (.int .i64 (f (bn : Int))) (.int .i64 (f (cn : Int))) (.int .i64 nn) (.string t)
      have ZF := hideP z6
      have BU := hideP (S3.out.bel.trans (bu.below (Nat.le_succ _) S3.out.bel.size))
      clear z6 bu
      go_wp2
      refine bodyPost_ret (results_cell_row rfl _ _ (w.heap.size + 1) 45 #[.int .i64 4, .int .i64 d, .int .i64 (f (an : Int)), .int .i64 (f (bn : Int)), .int .i64 (f (cn : Int)), .int .i64 nn, .string t] (0, 0) _ rfl ZF.out Try.underlying45 rfl (by kernel_rfl)) rfl ?_
      rw [EQ.out]
      exact ⟨rfl, BU.out⟩
  have h4b : (op == 4) = false := by simpa using h4
  have EQ : Hid (useX f (⟨op, d, a, b0, c0, nn, t⟩ : Ins) = (⟨op, d, a, b0, c0, nn, t⟩ : Ins)) := by show _ = _; simp [useX, h1, h2, h3, h4, h6]
  have fc := (cells_of S0.out.bx).1
  have x0 := fc 0
  have x1 := fc 1
  have x2 := fc 2
  have x3 := fc 3
  have x4 := fc 4
  have x5 := fc 5
  have x6 := fc 6
  simp at x0 x1 x2 x3 x4 x5 x6
  clear fc
  go_upto_region 15 with fail
  clear x0 x1 x2 x3 x4 x5 x6
  have fc := (cells_of S0.out.bx).1
  have x0 := fc 0
  have x1 := fc 1
  have x2 := fc 2
  have x3 := fc 3
  have x4 := fc 4
  have x5 := fc 5
  have x6 := fc 6
  simp at x0 x1 x2 x3 x4 x5 x6
  clear fc
  have fc := (cells_of S0.out.br).1
  have r0 := fc 0
  have r1 := fc 1
  have r2 := fc 2
  have r3 := fc 3
  have r4 := fc 4
  have r5 := fc 5
  have r6 := fc 6
  simp at r0 r1 r2 r3 r4 r5 r6
  clear fc
  have rf := (cells_of S0.out.br).2
  obtain ⟨z6, bu⟩ := put7n S0.out.br rfl (.int .i64 op) (.int .i64 d) (.int .i64 a) (.int .i64 b0) (.int .i64 c0) (.int .i64 nn) (.string t)
  have ZF := hideP z6
  have BU := hideP (S0.out.bel.trans (bu.below (Nat.le_succ _) S0.out.bel.size))
  clear z6 bu
  go_wp2
  refine bodyPost_ret (results_cell_row rfl _ _ (w.heap.size + 1) 45 #[.int .i64 op, .int .i64 d, .int .i64 a, .int .i64 b0, .int .i64 c0, .int .i64 nn, .string t] (0, 0) _ rfl ZF.out Try.underlying45 rfl (by kernel_rfl)) rfl ?_
  rw [EQ.out]
  exact ⟨rfl, BU.out⟩
end Go.Proofs.Ytelkpikbjfkpcaa
