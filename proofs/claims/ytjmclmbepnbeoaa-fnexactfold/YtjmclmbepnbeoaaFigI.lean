/- Figures as a list: how they lie; the contracts of folded, makeAnew and jump (written by wip/mkfig.py). -/
import Derived.Test.YtjmclmbepnbeoaaFgB
import Derived.Test.YtjmclmbepnbeoaaFolA
import Derived.Test.YtjmclmbepnbeoaaAliB
import Derived.Test.YtjmclmbepnbeoaaOrdPA
import Derived.Test.YtjmclmbepnbeoaaTwcQ
import Derived.Laws.Rows
import Derived.Deep.RegionHeld3
import Derived.Deep.CutRange
import Derived.WalkMore
namespace Go.Proofs.Ytjmclmbepnbeoaa
open Go.ChangeShapes Go.WideShapes Go.ChangeAt Go.RowKit
/-- Block m holds the figures of V slots. -/
def FiAt (m V : Nat) (K : Kn) (W : World) : Prop := ∃ c, W.heap[m]? = some (.cells c 120 (0, 0)) ∧ c.size = V * 2 ∧ ∀ s : Nat, s < V → c[s * 2]? = some (.bool (K s).isSome) ∧ ∃ v, c[s * 2 + 1]? = some (.int .i64 v) ∧ ∀ u, K s = some u → v = u
section
variable {m V : Nat} {K : Kn} {W W' : World}
theorem FiAt.lt (h : FiAt m V K W) : m < W.heap.size := let ⟨_, h1, _⟩ := h; hltP h1
theorem FiAt.keep (h : FiAt m V K W) (h1 : W'.heap[m]? = W.heap[m]?) : FiAt m V K W' := let ⟨c, a, b⟩ := h; ⟨c, h1.trans a, b⟩
theorem FiAt.stays (h : FiAt m V K W) (b : Below W.heap.size W W') : FiAt m V K W' := h.keep (b.block _ h.lt)
theorem FiAt.but (h : FiAt m V K W) {g : Nat} (b : But g W W') (hne : m ≠ g) : FiAt m V K W' := h.keep (b.block _ h.lt hne)
theorem FiAt.at (h : FiAt m V K W) {s : Nat} (hs : s < V) : ∃ v, W.cell? ⟨m, s * 2, none⟩ = some (.bool (K s).isSome) ∧ W.cell? ⟨m, s * 2 + 1, none⟩ = some (.int .i64 v) ∧ (∀ u, K s = some u → v = u) ∧ ∀ i, W.frozen? ⟨m, i, none⟩ = false := by
  obtain ⟨c, a1, _, a3⟩ := h
  obtain ⟨h1, v, h2, h3⟩ := a3 s hs
  exact ⟨v, by simp only [World.cell?, a1]; exact h1, by simp only [World.cell?, a1]; exact h2, h3, (cells_of a1).2⟩
/-- A slot is made anew. -/
theorem FiAt.set (h : FiAt m V K W) {d : Nat} (hd : d < V) {v : Int} {k : Option Int} (hk : ∀ u, k = some u → v = u) : FiAt m V (fun s => if s = (d : Int) then k else K s) ((W.setCell ⟨m, d * 2, none⟩ (.bool k.isSome)).setCell ⟨m, d * 2 + 1, none⟩ (.int .i64 v)) := by
  obtain ⟨c, a1, a2, a3⟩ := h
  have s1 := heap_setCell_same W m (d * 2) c _ (.bool k.isSome) a1
  have s2 := heap_setCell_same (W.setCell ⟨m, d * 2, none⟩ (.bool k.isSome)) m (d * 2 + 1) _ _ (.int .i64 v) s1
  refine ⟨_, s2, by simpa using a2, fun s hs => ?_⟩
  simp only [Array.getElem?_setIfInBounds, Array.size_setIfInBounds]
  by_cases e : d = s
  · subst e
    rw [if_neg (by omega), if_pos rfl, if_pos (by omega), if_pos rfl, if_pos rfl, if_pos (by omega)]
    exact ⟨rfl, v, rfl, hk⟩
  · rw [if_neg (by omega), if_neg (by omega), if_neg (by omega), if_neg (by omega), if_neg (by omega)]
    exact a3 s hs
end
/-- What is asked of a step. -/
def OkF (V : Nat) (z : Ins) : Prop := WfX z ∧ (z.op = 1 ∨ z.op = 2 → InR V z.a) ∧ (z.op = 2 → InR V z.b) ∧ (¬ (z.op = 4 ∨ z.op = 6) → InR V z.d)
theorem inr_nat {V : Nat} {a : Int} (h : InR V a) : ∃ n : Nat, a = (n : Int) ∧ n < V := ⟨a.toNat, by unfold InR at h; omega, by unfold InR at h; omega⟩
set_option maxRecDepth 100000 in
set_option maxHeartbeats 8000000 in
theorem folded_any (x : Ins) (K : Kn) (w : World) (m V cap : Nat) (h : FiAt m V K w) (hx : OkF V x) :
    Calls Try.prog 64 #[.slice (some ⟨m, 0, none⟩) V cap, .agg (insV x)] w fun e w' => e = .returned (.agg (insV (foldX K x))) ∧ Below w.heap.size w w' := by
  obtain ⟨op, d, a, b0, c0, nn, t⟩ := x
  simp only [insV]
  have b2 := Bx2.of w #[.int .i64 op, .int .i64 d, .int .i64 a, .int .i64 b0, .int .i64 c0, .int .i64 nn, .string t] #[.int .i64 0, .int .i64 0, .int .i64 0, .int .i64 0, .int .i64 0, .int .i64 0, .string ⟨#[]⟩] 48
  obtain ⟨W2, hW2⟩ : ∃ W2, (w.alloc (.cells #[.int .i64 op, .int .i64 d, .int .i64 a, .int .i64 b0, .int .i64 c0, .int .i64 nn, .string t] 48)).alloc (.cells #[.int .i64 0, .int .i64 0, .int .i64 0, .int .i64 0, .int .i64 0, .int .i64 0, .string ⟨#[]⟩] 48) = W2 := ⟨_, rfl⟩
  rw [hW2] at b2
  have S2 := hideP b2
  have HW := hideP hW2
  have F2 := hideP (h.stays b2.bel)
  obtain ⟨_, hA, hB, _⟩ := hx
  simp only at hA hB
  clear b2 hW2 h
  go_enter Try.func64, Try.ntmps64
  go_upto_region 1 with fail
  rw [HW.out]
  clear HW
  have fc := (cells_of S2.out.bx).1
  have x0 := fc 0
  have x1 := fc 1
  have x2 := fc 2
  have x3 := fc 3
  have x4 := fc 4
  have x5 := fc 5
  have x6 := fc 6
  simp at x0 x1 x2 x3 x4 x5 x6
  clear fc
  by_cases h1 : op = 1
  · subst h1
    obtain ⟨an, rfl, han⟩ := inr_nat (hA (Or.inl rfl))
    obtain ⟨v, q0, q1, hv, qf⟩ := F2.out.at han
    obtain ⟨ka, hka⟩ : ∃ ka, (K (an : Int)).isSome = ka := ⟨_, rfl⟩
    rw [hka] at q0
    have HKA := hideP hka
    have HV := hideP hv
    have ai : (an : Int) < (V : Int) := by omega
    have al := (Below.refl W2.heap.size W2).alloc (Nat.le_refl _) (.cells #[.bool ka, .int .i64 v] 120)
    have S3 := hideP (S2.out.stays al)
    have M3 := hideP (newB1 W2 (.cells #[.bool ka, .int .i64 v] 120))
    clear hka hv al
    go_upto_region 4 with fail
    obtain ⟨W3, hW3⟩ : ∃ W3, W2.alloc (.cells #[.bool ka, .int .i64 v] 120) = W3 := ⟨_, rfl⟩
    obtain ⟨b5, hb5⟩ : ∃ b5, W2.heap.size = b5 := ⟨_, rfl⟩
    rw [hW3] at S3 M3 ⊢
    rw [hb5] at M3 ⊢
    clear hW3 hb5 x0 x1 x2 x3 x4 x5 x6 q0 q1 qf S2 F2
    have fc := (cells_of S3.out.bx).1
    have x0 := fc 0
    have x1 := fc 1
    have x2 := fc 2
    have x3 := fc 3
    have x4 := fc 4
    have x5 := fc 5
    have x6 := fc 6
    simp at x0 x1 x2 x3 x4 x5 x6
    clear fc
    have fc := (cells_of M3.out).1
    have m0 := fc 0
    have m1 := fc 1
    simp at m0 m1
    clear fc
    cases ka with
    | false =>
      have EQ : Hid (foldX K (⟨1, d, (an : Int), b0, c0, nn, t⟩ : Ins) = ⟨1, d, (an : Int), b0, c0, nn, t⟩) := by show _ = _; unfold foldX; rw [if_pos rfl]; simp only [none_of HKA.out]
      have fc := (cells_of S3.out.br).1
      have r0 := fc 0
      have r1 := fc 1
      have r2 := fc 2
      have r3 := fc 3
      have r4 := fc 4
      have r5 := fc 5
      have r6 := fc 6
      simp at r0 r1 r2 r3 r4 r5 r6
      clear fc
      have rf := (cells_of S3.out.br).2
      obtain ⟨z4, bu⟩ := put7n S3.out.br rfl (.int .i64 1) (.int .i64 d) (.int .i64 (an : Int)) (.int .i64 b0) (.int .i64 c0) (.int .i64 nn) (.string t)
      have ZF := hideP z4
      have BU := hideP bu
      clear z4 bu
      go_wp2
      refine bodyPost_ret (results_cell_row rfl _ _ (w.heap.size + 1) 48 #[.int .i64 1, .int .i64 d, .int .i64 (an : Int), .int .i64 b0, .int .i64 c0, .int .i64 nn, .string t] (0, 0) _ rfl ZF.out Try.underlying48 rfl (by kernel_rfl)) rfl ?_
      rw [EQ.out]
      exact ⟨rfl, S3.out.bel.trans (BU.out.below (by omega) S3.out.bel.size)⟩
    | true =>
      have EQ : Hid (foldX K (⟨1, d, (an : Int), b0, c0, nn, t⟩ : Ins) = ⟨0, d, 0, 0, 0, v, ⟨#[]⟩⟩) := by show _ = _; unfold foldX; rw [if_pos rfl]; simp only [some_of HKA.out HV.out]
      have fc := (cells_of S3.out.br).1
      have r0 := fc 0
      have r1 := fc 1
      have r2 := fc 2
      have r3 := fc 3
      have r4 := fc 4
      have r5 := fc 5
      have r6 := fc 6
      simp at r0 r1 r2 r3 r4 r5 r6
      clear fc
      have rf := (cells_of S3.out.br).2
      obtain ⟨z4, bu⟩ := put7n S3.out.br rfl (.int .i64 0) (.int .i64 d) (.int .i64 0) (.int .i64 0) (.int .i64 0) (.int .i64 v) (.string ⟨#[]⟩)
      have ZF := hideP z4
      have BU := hideP bu
      clear z4 bu
      go_wp2
      refine bodyPost_ret (results_cell_row rfl _ _ (w.heap.size + 1) 48 #[.int .i64 0, .int .i64 d, .int .i64 0, .int .i64 0, .int .i64 0, .int .i64 v, .string ⟨#[]⟩] (0, 0) _ rfl ZF.out Try.underlying48 rfl (by kernel_rfl)) rfl ?_
      rw [EQ.out]
      exact ⟨rfl, S3.out.bel.trans (BU.out.below (by omega) S3.out.bel.size)⟩
  · have h1b : (op == 1) = false := by simpa using h1
    by_cases h2 : op = 2
    · subst h2
      obtain ⟨an, rfl, han⟩ := inr_nat (hA (Or.inr rfl))
      obtain ⟨bn, rfl, hbn⟩ := inr_nat (hB rfl)
      obtain ⟨v, q0, q1, hv, qf⟩ := F2.out.at han
      obtain ⟨u, p0, p1, hu, _⟩ := F2.out.at hbn
      obtain ⟨ka, hka⟩ : ∃ ka, (K (an : Int)).isSome = ka := ⟨_, rfl⟩
      obtain ⟨kb, hkb⟩ : ∃ kb, (K (bn : Int)).isSome = kb := ⟨_, rfl⟩
      rw [hka] at q0
      rw [hkb] at p0
      have HKA := hideP hka
      have HKB := hideP hkb
      have HV := hideP hv
      have HU := hideP hu
      have ai : (an : Int) < (V : Int) := by omega
      have bi : (bn : Int) < (V : Int) := by omega
      have TA : Hid (∀ A B : Array Value, Below W2.heap.size W2 ((W2.alloc (.cells A 120)).alloc (.cells B 120)) ∧ ((W2.alloc (.cells A 120)).alloc (.cells B 120)).heap[W2.heap.size]? = some (.cells A 120 (0, 0)) ∧ ((W2.alloc (.cells A 120)).alloc (.cells B 120)).heap[W2.heap.size + 1]? = some (.cells B 120 (0, 0))) := fun A B => ⟨below2 W2 _ _, heap_alloc2_old W2 _ _, by
        have := newB1 (W2.alloc (.cells A 120)) (.cells B 120)
        rw [World.size_alloc] at this
        exact this⟩
      have hm0 : m < W2.heap.size := F2.out.lt
      have hm1 : m < W2.heap.size + 1 := by omega
      have hm2 : m < W2.heap.size + 1 + 1 := by omega
      have hw0 : w.heap.size < W2.heap.size := hltP S2.out.bx
      have hw1 : w.heap.size < W2.heap.size + 1 := by omega
      have hw2 : w.heap.size < W2.heap.size + 1 + 1 := by omega
      clear hka hkb hv hu
      go_upto_region 7 with fail
      go_cut [6, 7] from 26 to 52 (fun s6 s7 wx => ∃ b6 b7, s6 = .pointer (some ⟨b6, 0, none⟩) ∧ s7 = .pointer (some ⟨b7, 0, none⟩) ∧ Hid (wx.heap[b6]? = some (.cells #[.bool ka, .int .i64 v] 120 (0, 0))) ∧ Hid (wx.heap[b7]? = some (.cells #[.bool kb, .int .i64 u] 120 (0, 0))) ∧ Hid (Below W2.heap.size W2 wx))
      case first =>
        go_region
        all_goals (go_wp2_with fail; go_meet)
        · exact ⟨_, _, rfl, rfl, (TA.out _ _).2.1, (TA.out _ _).2.2, (TA.out _ _).1.drew⟩
        · exact ⟨_, _, rfl, rfl, (TA.out _ _).2.2, (TA.out _ _).2.1, (TA.out _ _).1.drew⟩
      case rest =>
      obtain ⟨b6, b7, rfl, rfl, hM6, hM7, hB3⟩ := hcut
      obtain ⟨W3, rfl⟩ : ∃ q, q = wc := ⟨_, rfl⟩
      have S3 := hideP (S2.out.stays hB3.out)
      clear TA x0 x1 x2 x3 x4 x5 x6 q0 q1 qf p0 p1 S2 F2 hB3 hm0 hm1 hm2 hw0 hw1 hw2
      have fc := (cells_of S3.out.bx).1
      have x0 := fc 0
      have x1 := fc 1
      have x2 := fc 2
      have x3 := fc 3
      have x4 := fc 4
      have x5 := fc 5
      have x6 := fc 6
      simp at x0 x1 x2 x3 x4 x5 x6
      clear fc
      have fc := (cells_of hM6.out).1
      have m0 := fc 0
      have m1 := fc 1
      simp at m0 m1
      clear fc
      have fc := (cells_of hM7.out).1
      have n0 := fc 0
      have n1 := fc 1
      simp at n0 n1
      clear fc
      cases ka with
      | false =>
        have EQ : Hid (foldX K (⟨2, d, (an : Int), (bn : Int), c0, nn, t⟩ : Ins) = ⟨2, d, (an : Int), (bn : Int), c0, nn, t⟩) := by show _ = _; unfold foldX; rw [if_neg (show ¬ (2 : Int) = 1 by decide), if_pos rfl]; simp only [none_of HKA.out]
        have fc := (cells_of S3.out.br).1
        have r0 := fc 0
        have r1 := fc 1
        have r2 := fc 2
        have r3 := fc 3
        have r4 := fc 4
        have r5 := fc 5
        have r6 := fc 6
        simp at r0 r1 r2 r3 r4 r5 r6
        clear fc
        have rf := (cells_of S3.out.br).2
        obtain ⟨z4, bu⟩ := put7n S3.out.br rfl (.int .i64 2) (.int .i64 d) (.int .i64 (an : Int)) (.int .i64 (bn : Int)) (.int .i64 c0) (.int .i64 nn) (.string t)
        have ZF := hideP z4
        have BU := hideP bu
        clear z4 bu
        go_wp2
        refine bodyPost_ret (results_cell_row rfl _ _ (w.heap.size + 1) 48 #[.int .i64 2, .int .i64 d, .int .i64 (an : Int), .int .i64 (bn : Int), .int .i64 c0, .int .i64 nn, .string t] (0, 0) _ rfl ZF.out Try.underlying48 rfl (by kernel_rfl)) rfl ?_
        rw [EQ.out]
        exact ⟨rfl, S3.out.bel.trans (BU.out.below (by omega) S3.out.bel.size)⟩
      | true =>
        cases kb with
        | false =>
          have EQ : Hid (foldX K (⟨2, d, (an : Int), (bn : Int), c0, nn, t⟩ : Ins) = ⟨2, d, (an : Int), (bn : Int), c0, nn, t⟩) := by show _ = _; unfold foldX; rw [if_neg (show ¬ (2 : Int) = 1 by decide), if_pos rfl]; simp only [none_of HKB.out, some_of HKA.out HV.out]
          have fc := (cells_of S3.out.br).1
          have r0 := fc 0
          have r1 := fc 1
          have r2 := fc 2
          have r3 := fc 3
          have r4 := fc 4
          have r5 := fc 5
          have r6 := fc 6
          simp at r0 r1 r2 r3 r4 r5 r6
          clear fc
          have rf := (cells_of S3.out.br).2
          obtain ⟨z4, bu⟩ := put7n S3.out.br rfl (.int .i64 2) (.int .i64 d) (.int .i64 (an : Int)) (.int .i64 (bn : Int)) (.int .i64 c0) (.int .i64 nn) (.string t)
          have ZF := hideP z4
          have BU := hideP bu
          clear z4 bu
          go_wp2
          refine bodyPost_ret (results_cell_row rfl _ _ (w.heap.size + 1) 48 #[.int .i64 2, .int .i64 d, .int .i64 (an : Int), .int .i64 (bn : Int), .int .i64 c0, .int .i64 nn, .string t] (0, 0) _ rfl ZF.out Try.underlying48 rfl (by kernel_rfl)) rfl ?_
          rw [EQ.out]
          exact ⟨rfl, S3.out.bel.trans (BU.out.below (by omega) S3.out.bel.size)⟩
        | true =>
          have EQ : Hid (foldX K (⟨2, d, (an : Int), (bn : Int), c0, nn, t⟩ : Ins) = ⟨0, d, 0, 0, 0, binL t.toList v u, ⟨#[]⟩⟩) := by show _ = _; unfold foldX; rw [if_neg (show ¬ (2 : Int) = 1 by decide), if_pos rfl]; simp only [some_of HKA.out HV.out, some_of HKB.out HU.out]
          have BN := hideP (fun W => implBin_any t v u W)
          obtain ⟨rb, hrb⟩ : ∃ rb, binL t.toList v u = rb := ⟨_, rfl⟩
          rw [hrb] at EQ
          simp only [hrb] at BN
          clear hrb
          have fc := (cells_of S3.out.br).1
          have r0 := fc 0
          have r1 := fc 1
          have r2 := fc 2
          have r3 := fc 3
          have r4 := fc 4
          have r5 := fc 5
          have r6 := fc 6
          simp at r0 r1 r2 r3 r4 r5 r6
          clear fc
          have rf := (cells_of S3.out.br).2
          have hn6 : b6 ≠ w.heap.size + 1 ∧ b7 ≠ w.heap.size + 1 := by
            constructor
            · intro e
              have := hM6.out
              rw [e, S3.out.br] at this
              injection this with this
              injection this with _ e2
              exact absurd e2 (by decide)
            · intro e
              have := hM7.out
              rw [e, S3.out.br] at this
              injection this with this
              injection this with _ e2
              exact absurd e2 (by decide)
          have SK : Hid (∀ W' : World, (∀ k, k < W3.heap.size → k ≠ w.heap.size + 1 → W'.heap[k]? = W3.heap[k]?) → W'.cell? ⟨w.heap.size, 1, none⟩ = some (.int .i64 d) ∧ W'.cell? ⟨w.heap.size, 6, none⟩ = some (.string t) ∧ W'.cell? ⟨b6, 1, none⟩ = some (.int .i64 v) ∧ W'.cell? ⟨b7, 1, none⟩ = some (.int .i64 u)) := fun W' hk => by
            have f := (cells_of ((hk _ (hltP S3.out.bx) (by omega)).trans S3.out.bx)).1
            have g6 := (cells_of ((hk _ (hltP hM6.out) hn6.1).trans hM6.out)).1
            have g7 := (cells_of ((hk _ (hltP hM7.out) hn6.2).trans hM7.out)).1
            exact ⟨f 1, f 6, g6 1, g7 1⟩
          have SF : Hid (∀ W' : World, (((((((W3.setCell ⟨w.heap.size + 1, 0, none⟩ (.int .i64 0)).setCell ⟨w.heap.size + 1, 1, none⟩ (.int .i64 d)).setCell ⟨w.heap.size + 1, 2, none⟩ (.int .i64 0)).setCell ⟨w.heap.size + 1, 3, none⟩ (.int .i64 0)).setCell ⟨w.heap.size + 1, 4, none⟩ (.int .i64 0)).setCell ⟨w.heap.size + 1, 5, none⟩ (.int .i64 rb)).setCell ⟨w.heap.size + 1, 6, none⟩ (.string ⟨#[]⟩)).drew = W' → W'.heap[w.heap.size + 1]? = some (.cells #[.int .i64 0, .int .i64 d, .int .i64 0, .int .i64 0, .int .i64 0, .int .i64 rb, .string ⟨#[]⟩] 48 (0, 0)) ∧ But (w.heap.size + 1) W3 W') := fun W' hW' => put7 S3.out.br rfl _ _ _ _ _ _ _ hW'
          have SG : Hid (∀ k, k < W3.heap.size → k ≠ w.heap.size + 1 → (((((((W3.setCell ⟨w.heap.size + 1, 0, none⟩ (.int .i64 0)).setCell ⟨w.heap.size + 1, 1, none⟩ (.int .i64 d)).setCell ⟨w.heap.size + 1, 2, none⟩ (.int .i64 0)).setCell ⟨w.heap.size + 1, 3, none⟩ (.int .i64 0)).setCell ⟨w.heap.size + 1, 4, none⟩ (.int .i64 0)).setCell ⟨w.heap.size + 1, 5, none⟩ (.int .i64 rb)).setCell ⟨w.heap.size + 1, 6, none⟩ (.string ⟨#[]⟩)).drew.heap[k]? = W3.heap[k]?) := fun k hk hne => (SF.out _ rfl).2.block k hk hne
          have SD : Hid (∀ k, k < W3.heap.size → k ≠ w.heap.size + 1 → W3.drew.heap[k]? = W3.heap[k]?) := fun _ _ _ => rfl
          go_upto_region 9 with fail
          go_region_held3 (fun W' => W'.cell? ⟨w.heap.size, 1, none⟩ = some (.int .i64 d) ∧ W'.cell? ⟨w.heap.size, 6, none⟩ = some (.string t) ∧ W'.cell? ⟨b6, 1, none⟩ = some (.int .i64 v) ∧ W'.cell? ⟨b7, 1, none⟩ = some (.int .i64 u)) (first | with_reducible exact SK.out _ SG.out | with_reducible exact SK.out _ SD.out) (first
            | (go_at_call 106; refine (BN.out _).mono ?_; rintro e9 w9 ⟨rfl, rfl⟩))
          obtain ⟨W4, hW4⟩ : ∃ W4, (((((((W3.setCell ⟨w.heap.size + 1, 0, none⟩ (.int .i64 0)).setCell ⟨w.heap.size + 1, 1, none⟩ (.int .i64 d)).setCell ⟨w.heap.size + 1, 2, none⟩ (.int .i64 0)).setCell ⟨w.heap.size + 1, 3, none⟩ (.int .i64 0)).setCell ⟨w.heap.size + 1, 4, none⟩ (.int .i64 0)).setCell ⟨w.heap.size + 1, 5, none⟩ (.int .i64 rb)).setCell ⟨w.heap.size + 1, 6, none⟩ (.string ⟨#[]⟩)).drew = W4 := ⟨_, rfl⟩
          rw [hW4]
          obtain ⟨z6, bq⟩ := SF.out _ hW4
          have ZF := hideP z6
          have BU := hideP bq
          clear hW4 z6 bq SF SG SK BN SD
          go_wp2
          refine bodyPost_ret (results_cell_row rfl _ _ (w.heap.size + 1) 48 #[.int .i64 0, .int .i64 d, .int .i64 0, .int .i64 0, .int .i64 0, .int .i64 rb, .string ⟨#[]⟩] (0, 0) _ rfl ZF.out Try.underlying48 rfl (by kernel_rfl)) rfl ?_
          rw [EQ.out]
          exact ⟨rfl, S3.out.bel.trans (BU.out.below (by omega) S3.out.bel.size)⟩
    · have h2b : (op == 2) = false := by simpa using h2
      have EQ : Hid (foldX K (⟨op, d, a, b0, c0, nn, t⟩ : Ins) = (⟨op, d, a, b0, c0, nn, t⟩ : Ins)) := by show _ = _; unfold foldX; rw [if_neg h1, if_neg h2]
      have fc := (cells_of S2.out.br).1
      have r0 := fc 0
      have r1 := fc 1
      have r2 := fc 2
      have r3 := fc 3
      have r4 := fc 4
      have r5 := fc 5
      have r6 := fc 6
      simp at r0 r1 r2 r3 r4 r5 r6
      clear fc
      have rf := (cells_of S2.out.br).2
      obtain ⟨z4, bu⟩ := put7n S2.out.br rfl (.int .i64 op) (.int .i64 d) (.int .i64 a) (.int .i64 b0) (.int .i64 c0) (.int .i64 nn) (.string t)
      have ZF := hideP z4
      have BU := hideP bu
      clear z4 bu
      go_wp2
      refine bodyPost_ret (results_cell_row rfl _ _ (w.heap.size + 1) 48 #[.int .i64 op, .int .i64 d, .int .i64 a, .int .i64 b0, .int .i64 c0, .int .i64 nn, .string t] (0, 0) _ rfl ZF.out Try.underlying48 rfl (by kernel_rfl)) rfl ?_
      rw [EQ.out]
      exact ⟨rfl, S2.out.bel.trans (BU.out.below (by omega) S2.out.bel.size)⟩
end Go.Proofs.Ytjmclmbepnbeoaa
