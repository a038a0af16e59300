/- The contract of spec.Order. -/
import Derived.Test.YtdkdimklacblaalRRVisitS
import Derived.Test.YtdkdimklacblaalRRAheadP
namespace Go.Proofs.YtdkdimklacblaalRR
open Go.ChangeShapes Go.WideShapes Go.ChangeAt Go.RowKit
theorem infoB : (Try.prog.info? 4).map (fun i => (i.zero, i.size, i.bytes)) = some (some (.bool false), 1, 1) := by kernel_rfl
theorem made_bools (n : Nat) : ∀ i, i < n → (madeCells #[Value.bool false] n)[i]? = some (.bool (decide ((i : Int) ∈ ([] : List Int)))) := by
  intro i hi
  simp [madeCells, hi, Nat.mod_one]
theorem seen_made (w : World) (n : Nat) : SeenIs (w.alloc (.cells (madeCells #[Value.bool false] n) 4)) w.heap.size n [] :=
  ⟨_, by show (w.heap.push _)[w.heap.size]? = _; exact Array.getElem?_push_size, by simp [size_madeCells], made_bools n⟩
set_option maxHeartbeats 4000000 in
set_option maxRecDepth 100000 in
theorem spec_order (g : Gr) (w : World) (B : Nat) (v : Array Value) (h : GrIs w B v g) (GO : OkIs 36 g) :
    Calls Try.prog 22 #[.agg v] w fun en w' => ∃ v', en = .returned v' ∧ OwnI w' w.heap.size v' (orderP g) ∧ Below w.heap.size w w' := by
  have hG := hideP h
  have HGO := hideP GO
  clear GO
  obtain ⟨sizes, params, vars, slots, blocks⟩ := g
  obtain ⟨us, cs, ub, cb, rfl, _, _, hb⟩ := h
  simp only at *
  have hm := maxLen_lt
  have hlb := hb.1
  clear hb
  obtain ⟨R, hR⟩ : ∃ R, orderP ⟨sizes, params, vars, slots, blocks⟩ = R := ⟨_, rfl⟩
  rw [hR]
  have HR := hideP hR
  clear hR
  obtain ⟨gok, hgok⟩ : ∃ r, grOk ⟨sizes, params, vars, slots, blocks⟩ = r := ⟨_, rfl⟩
  have GO1 : Hid (∀ W A v, GrIs W A v ⟨sizes, params, vars, slots, blocks⟩ → Calls Try.prog 36 #[.agg v] W fun en w' => en = .returned (.bool gok) ∧ Below W.heap.size W w') := fun W A v hv => hgok ▸ HGO.out W A v hv
  have HK := hideP hgok
  clear hgok HGO
  have Q1 : Hid ((w.alloc (.cells #[.slice us sizes.length cs, .int .i64 params, .int .i64 vars, .int .i64 slots, .slice ub blocks.length cb] 44)).heap[w.heap.size]? = some (.cells #[.slice us sizes.length cs, .int .i64 params, .int .i64 vars, .int .i64 slots, .slice ub blocks.length cb] 44 (0, 0))) := by show (w.heap.push _)[w.heap.size]? = _; exact Array.getElem?_push_size
  have BW := hideP ((Below.refl w.heap.size w).alloc (Nat.le_refl _) (.cells #[.slice us sizes.length cs, .int .i64 params, .int .i64 vars, .int .i64 slots, .slice ub blocks.length cb] 44))
  cases gok with
  | false =>
    go_enter Try.func22, Try.ntmps22
    go_wp2_with fail
    refine (GO1.out _ B _ (GrKeeps.stays hG.out BW.out)).mono ?_
    rintro e1 w1 ⟨rfl, bel1⟩
    have E : Hid (R = []) := by rw [← HR.out]; exact orderP_none (by simp [HK.out])
    have BB := hideP (below_trans BW.out bel1)
    clear bel1
    go_wp2
    go_ret
    exact ⟨_, rfl, by rw [E.out]; exact (own_lit w1 [] #[] _ 0 rfl rfl rfl (by simp)).mono BB.out.size, BB.out.alloc BB.out.size _⟩
  | true =>
    have hbl := grOk_blocks HK.out
    simp only at hbl
    have hmk := make_n (P := Try.prog) Try.underlying70 infoB blocks.length (by omega) (by decide)
    go_enter Try.func22, Try.ntmps22
    go_wp2_with fail
    refine (GO1.out _ B _ (GrKeeps.stays hG.out BW.out)).mono ?_
    rintro e1 w1 ⟨rfl, bel1⟩
    have BB := hideP (below_trans BW.out bel1)
    have QQ := hideP ((bel1.block w.heap.size (Array.getElem?_eq_some_iff.1 Q1.out).1).trans Q1.out)
    have VA : Hid (∀ W' gs vo, Below w1.heap.size w1 W' → w1.heap.size ≤ gs → SeenIs W' gs blocks.length [] → OwnI W' w1.heap.size vo [] → vo.ownBlock ≠ some gs → Calls Try.prog 46 #[.agg #[.slice us sizes.length cs, .int .i64 params, .int .i64 vars, .int .i64 slots, .slice ub blocks.length cb], .int .i64 0, .slice (some ⟨gs, 0, none⟩) blocks.length blocks.length, vo] W' fun en w' => ∃ q, en = .returned q ∧ OwnI w' w.heap.size q R ∧ Below w.heap.size w w' ∧ Below w1.heap.size w1 w') := fun W' gs vo h1 h2 h3 h4 h5 => by
      refine (visit_any sizes params vars slots blocks (allIn_of HK.out) hbl.2 w1 B us cs ub cb (GrKeeps.stays hG.out BB.out) blocks.length 0 [] W' gs vo (free_le _ _) (by omega) (few_nil _) h1 h2 h3 h4 h5).mono ?_
      rintro en w' ⟨q, out', he, hv⟩
      have hr := Run.det (hv.run [] out' (Run.nil out')) (orderP_run HK.out)
      rw [HR.out] at hr
      subst hr
      have hb1 := h1.trans (hv.frm.below h2 (fun b hb => (h4.low b hb).1) h1.size)
      exact ⟨q, he, hv.own.mono BB.out.size, BB.out.trans (hb1.mono BB.out.size), hb1⟩
    have ES : Hid (∀ W', Below w1.heap.size w1 W' → W'.cell? ⟨w.heap.size, 0, none⟩ = some (.slice us sizes.length cs) ∧ W'.cell? ⟨w.heap.size, 1, none⟩ = some (.int .i64 params) ∧ W'.cell? ⟨w.heap.size, 2, none⟩ = some (.int .i64 vars) ∧ W'.cell? ⟨w.heap.size, 3, none⟩ = some (.int .i64 slots) ∧ W'.cell? ⟨w.heap.size, 4, none⟩ = some (.slice ub blocks.length cb)) := fun W' hF => by
      have h3 := (cells_of ((hF.block w.heap.size (Array.getElem?_eq_some_iff.1 QQ.out).1).trans QQ.out)).1
      exact ⟨h3 0, h3 1, h3 2, h3 3, h3 4⟩
    have FA : Hid (Below w1.heap.size w1 ((w1.alloc (.cells (madeCells #[Value.bool false] blocks.length) 4)).alloc (.cells #[] 3)).drew ∧ SeenIs ((w1.alloc (.cells (madeCells #[Value.bool false] blocks.length) 4)).alloc (.cells #[] 3)).drew w1.heap.size blocks.length [] ∧ OwnI ((w1.alloc (.cells (madeCells #[Value.bool false] blocks.length) 4)).alloc (.cells #[] 3)).drew w1.heap.size (.slice (some ⟨w1.heap.size + 1, 0, none⟩) 0 0) []) := by
      have a1 := (Below.refl (w1.alloc (.cells (madeCells #[Value.bool false] blocks.length) 4)).heap.size _).alloc (Nat.le_refl _) (.cells #[] 3)
      have s1 := (seen_made w1 blocks.length).keep (a1.block w1.heap.size (by simp))
      have o1 := own_lit2 w1 (.cells (madeCells #[Value.bool false] blocks.length) 4) [] #[] (w1.heap.size + 1) 0 rfl rfl rfl (by simp)
      exact ⟨(below2 w1 _ _).drew, s1.keep rfl, o1.stays (Below.refl _ _).drew⟩
    have FB : Hid (Below w1.heap.size w1 ((w1.alloc (.cells #[] 3)).alloc (.cells (madeCells #[Value.bool false] blocks.length) 4)).drew ∧ SeenIs ((w1.alloc (.cells #[] 3)).alloc (.cells (madeCells #[Value.bool false] blocks.length) 4)).drew (w1.heap.size + 1) blocks.length [] ∧ OwnI ((w1.alloc (.cells #[] 3)).alloc (.cells (madeCells #[Value.bool false] blocks.length) 4)).drew w1.heap.size (.slice (some ⟨w1.heap.size, 0, none⟩) 0 0) []) := by
      have s1 := seen_made (w1.alloc (.cells #[] 3)) blocks.length
      simp only [show (w1.alloc (.cells #[] 3)).heap.size = w1.heap.size + 1 by simp] at s1
      have o1 := (own_lit w1 [] #[] w1.heap.size 0 rfl rfl rfl (by simp)).stays ((Below.refl _ _).alloc (Nat.le_refl _) (.cells (madeCells #[Value.bool false] blocks.length) 4))
      exact ⟨(below2 w1 _ _).drew, s1.keep rfl, o1.stays (Below.refl _ _).drew⟩
    clear bel1 Q1 BW GO1
    go_upto_region 3 with fail
    go_region_held3 (fun W' => W'.cell? ⟨w.heap.size, 0, none⟩ = some (.slice us sizes.length cs) ∧ W'.cell? ⟨w.heap.size, 1, none⟩ = some (.int .i64 params) ∧ W'.cell? ⟨w.heap.size, 2, none⟩ = some (.int .i64 vars) ∧ W'.cell? ⟨w.heap.size, 3, none⟩ = some (.int .i64 slots) ∧ W'.cell? ⟨w.heap.size, 4, none⟩ = some (.slice ub blocks.length cb)) (first | exact ES.out _ (Below.refl _ _).drew | exact ES.out _ (below2 _ _ _).drew | exact ES.out _ ((Below.refl _ _).alloc (Nat.le_refl _) _).drew | exact ES.out _ (below2 _ _ _) | exact ES.out _ ((Below.refl _ _).alloc (Nat.le_refl _) _) | exact ES.out _ FR.out) (first
      | (go_at_call_of 46 (Value.slice (some ⟨w1.heap.size, 0, none⟩) blocks.length blocks.length); refine (VA.out _ w1.heap.size (.slice (some ⟨w1.heap.size + 1, 0, none⟩) 0 0) (FA.out).1 (Nat.le_refl _) (FA.out).2.1 (FA.out).2.2 (by simp [Value.ownBlock])).mono ?_; rintro yy wy ⟨qn, rfl, on, bn, fn⟩; have ON := hideP on; have BN := hideP bn; have FR := hideP fn; clear on bn fn)
      | (go_at_call 46; refine (VA.out _ (w1.heap.size + 1) (.slice (some ⟨w1.heap.size, 0, none⟩) 0 0) (FB.out).1 (Nat.le_succ _) (FB.out).2.1 (FB.out).2.2 (by simp [Value.ownBlock])).mono ?_; rintro yy wy ⟨qn, rfl, on, bn, fn⟩; have ON := hideP on; have BN := hideP bn; have FR := hideP fn; clear on bn fn))
    all_goals
      go_wp2
      go_ret
      exact ⟨_, rfl, ON.out, BN.out⟩
end Go.Proofs.YtdkdimklacblaalRR
