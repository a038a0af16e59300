/- The contracts of both SizeOf. -/
import Derived.Test.YtfoaplihindeaahFlatA
import Derived.Test.YtfoaplihindeaahNdOf
import Derived.Deep.RegionHeld3
namespace Go.Proofs.Ytfoaplihindeaah
open Go.ChangeShapes Go.WideShapes Go.ChangeAt Go.RowKit

theorem ret_int' {k : IntKind} {a b : Int} (h : a = b) : Ending.returned (.int k a) = .returned (.int k b) := by rw [h]
/-! Both count the same. -/
theorem cnt_exs : ∀ l : List Ex, (∀ e ∈ l, e.flat.length = e.vis.length) → (exsFlat l).length = (exsVis l).length
  | [], _ => by simp [exsFlat, exsVis]
  | x :: l, h => by
    have h1 := cnt_exs l fun e he => h e (by simp [he])
    have h2 := h x (by simp)
    simp [exsFlat, exsVis, h1, h2]; omega
theorem cnt_ex (e : Ex) : e.flat.length = e.vis.length := by
  induction e using Ex.ind with
  | h k n b t kids ih => simp [Ex.flat, Ex.vis, cnt_exs kids ih]
theorem cnt_sts : ∀ l : List St, (∀ e ∈ l, e.flat.length + (allOf e.flat).length = e.vis.length) → (stsFlat l).length + (allOf (stsFlat l)).length = (stsVis l).length
  | [], _ => by simp [stsFlat, stsVis, allOf]
  | x :: l, h => by
    have h1 := cnt_sts l fun e he => h e (by simp [he])
    have h2 := h x (by simp)
    simp [stsFlat, stsVis, allOf_append]; omega
theorem cnt_st (e : St) : e.flat.length + (allOf e.flat).length = e.vis.length := by
  induction e using St.ind with
  | h k n b exps xs ys ihx ihy =>
    have h1 := cnt_sts xs ihx
    have h2 := cnt_sts ys ihy
    have h3 := cnt_exs exps fun e _ => cnt_ex e
    simp [St.flat, St.vis, allOf, allOf_append, St.exps]; omega
theorem cnt_all (l : List St) : (stsFlat l).length + (allOf (stsFlat l)).length = (stsVis l).length := cnt_sts l fun e _ => cnt_st e

set_option maxHeartbeats 2000000 in
theorem impl_sizeOf (p : Pr) (w : World) (B : Nat) (v : Array Value) (hp : PrIs w B v p) (hB : 0 < B) (hsz : p.sz ≤ 1048576) :
    Calls Try.prog 11 #[.agg v] w fun en w' => en = .returned (.int .i64 ((stsVis p.body).length : Nat)) ∧ Below w.heap.size w w' := by
  obtain ⟨a, cap, ab, cb, rfl, hz, hb⟩ := hp
  obtain ⟨sizes, params, vars, body⟩ := p
  simp only [Pr.sz] at hsz hz hb ⊢
  have hbs : stsSz body ≤ 1048576 := by omega
  have hbl : body.length ≤ 1048576 := by unfold stsSz at hbs; omega
  have al := (Below.refl w.heap.size w).alloc (Nat.le_refl _) (.cells #[.slice a sizes.length cap, .int .i64 params, .int .i64 vars, .slice ab body.length cb] 30)
  obtain ⟨ha, nds, hpts, hG⟩ := ndSts _ body B ab (hb.stays al) hB hbs
  obtain ⟨hv, hall⟩ := visSt hG
  have hN : (ndsVisit nds).length = (stsVis body).length := hv.len
  have hNsz : ndsSz nds ≤ 2097152 := by rw [← ndsVisit_len, hN]; have := vis_le_sts body; omega
  have hvl : (stsVis body).length ≤ 1048576 := by have := vis_le_sts body; omega
  have AL := hideP al
  have HALL := hideP hall
  have HPTS := hideP hpts
  have HN := hideP hN
  clear hz hb hG hv hall hpts hN al
  go_enter Try.func11, Try.ntmps11
  go_wp2_with fail
  refine (stmtParts_row _ ab body.length cb hbl ha).mono ?_
  rintro e1 w1 ⟨v1, rfl, own1, bel1⟩
  rw [← HPTS.out] at own1
  have OWN1 := hideP own1
  have HB1 := hideP bel1
  clear own1 bel1
  go_wp2_with fail
  refine (partsWithin_any nds _ _ v1 _ OWN1.out HB1.out.size (fun x hx => (HALL.out x hx).mono fun y hy => hy.on HB1.out) hNsz).mono ?_
  rintro e2 w2 ⟨v2, rfl, own2, bel2⟩
  obtain ⟨g2, c2, rfl, _⟩ := own2
  have HB2 := hideP ((AL.out.trans ((HB1.out.trans bel2).mono (by simp))))
  rw [HN.out]
  clear bel2 HALL
  go_wp2
  go_ret
  exact ⟨rfl, HB2.out⟩

set_option maxHeartbeats 2000000 in
theorem spec_sizeOf (p : Pr) (w : World) (B : Nat) (v : Array Value) (hp : PrIs w B v p) (hsz : p.sz ≤ 1048576) :
    Calls Try.prog 9 #[.agg v] w fun en w' => en = .returned (.int .i64 ((stsVis p.body).length : Nat)) ∧ Below w.heap.size w w' := by
  have hp0 := hp
  obtain ⟨a, cap, ab, cb, rfl, hz, hb⟩ := hp
  obtain ⟨sizes, params, vars, body⟩ := p
  have hbs : stsSz body ≤ 1048576 := by simp only [Pr.sz] at hsz; omega
  have hall := all_le_sts body fun e _ => all_le_st e
  have hflat := flat_le_sts body fun e _ => flat_le_st e
  have hcnt := cnt_all body
  simp only at hz hb hp0 ⊢
  obtain ⟨n1, hn1⟩ : ∃ n1, (stsFlat body).length = n1 := ⟨_, rfl⟩
  obtain ⟨n2, hn2⟩ : ∃ n2, (allOf (stsFlat body)).length = n2 := ⟨_, rfl⟩
  rw [hn1, hn2] at hcnt
  rw [hn2] at hall
  rw [hn1] at hflat
  obtain ⟨W, hW⟩ : ∃ W, w.alloc (.cells #[.slice a sizes.length cap, .int .i64 params, .int .i64 vars, .slice ab body.length cb] 30) = W := ⟨_, rfl⟩
  have al : Below w.heap.size w W := by rw [← hW]; exact (Below.refl _ _).alloc (Nat.le_refl _) _
  have bx : W.heap[w.heap.size]? = some (.cells #[.slice a sizes.length cap, .int .i64 params, .int .i64 vars, .slice ab body.length cb] 30 (0, 0)) := by rw [← hW]; exact blk_new' _ _
  have hbx : w.heap.size < W.heap.size := (Array.getElem?_eq_some_iff.1 bx).1
  have C1 : Hid (∀ X, Below w.heap.size w X → Calls Try.prog 31 #[.slice ab body.length cb] X fun en w' => ∃ g c, en = .returned (.slice (some ⟨g, 0, none⟩) n1 c) ∧ Below X.heap.size X w') := fun X hX =>
    (l02Stmts_any body w X B ab cb hb hX hbs).mono fun _ _ ⟨r, xs, he, ⟨g, c, hr, _⟩, _, h⟩ => ⟨g, c, by rw [he, hr, hn1], h⟩
  have C2 : Hid (∀ X, Below w.heap.size w X → Calls Try.prog 32 #[.agg #[.slice a sizes.length cap, .int .i64 params, .int .i64 vars, .slice ab body.length cb]] X fun en w' => ∃ g c, en = .returned (.slice (some ⟨g, 0, none⟩) n2 c) ∧ Below X.heap.size X w') := fun X hX =>
    (l02All_any ⟨sizes, params, vars, body⟩ w X B _ hp0 hX hsz).mono fun _ _ ⟨r, xs, he, ⟨g, c, hr, _⟩, _, h⟩ => ⟨g, c, by rw [he, hr, hn2], h⟩
  have SK : Hid (∀ W', Below W.heap.size W W' → W'.cell? ⟨w.heap.size, 0, none⟩ = some (.slice a sizes.length cap) ∧ W'.cell? ⟨w.heap.size, 1, none⟩ = some (.int .i64 params) ∧ W'.cell? ⟨w.heap.size, 2, none⟩ = some (.int .i64 vars) ∧ W'.cell? ⟨w.heap.size, 3, none⟩ = some (.slice ab body.length cb)) := fun W' h => by
    have b' := (h.block w.heap.size hbx).trans bx
    refine ⟨?_, ?_, ?_, ?_⟩ <;> simp [World.cell?, b']
  have E : Hid ((stsVis body).length = n1 + n2) := hcnt.symm
  have AL := hideP al
  have HWe := hideP hW
  have s1 : n1 ≤ 1048576 := by omega
  have s2 : n2 ≤ 1048576 := by omega
  clear hW al bx hz hb hp0 hsz hbs hall hflat hcnt hn1 hn2 hbx
  go_enter Try.func9, Try.ntmps9
  go_upto_region 1 with fail
  rw [HWe.out]
  clear HWe
  go_region_held3 (fun W' => W'.cell? ⟨w.heap.size, 0, none⟩ = some (.slice a sizes.length cap) ∧ W'.cell? ⟨w.heap.size, 1, none⟩ = some (.int .i64 params) ∧ W'.cell? ⟨w.heap.size, 2, none⟩ = some (.int .i64 vars) ∧ W'.cell? ⟨w.heap.size, 3, none⟩ = some (.slice ab body.length cb)) (first | exact SK.out _ (Below.refl _ _).drew | exact SK.out _ HB2.out | exact SK.out _ HB1.out) (first
    | (go_at_call 31; refine (C1.out _ AL.out.drew).mono ?_; rintro e1 w1 ⟨g1, c1, rfl, bel1⟩; have HB1 := hideP ((Below.refl W.heap.size W).drew.trans (bel1.mono (Nat.le_refl _))); clear bel1)
    | (go_at_call 32; refine (C2.out _ (AL.out.trans (HB1.out.mono AL.out.size))).mono ?_; rintro e2 w2 ⟨g2, c2, rfl, bel2⟩; have HB2 := hideP (HB1.out.trans (bel2.mono HB1.out.size)); clear bel2))
  all_goals
    go_wp2
    go_ret
    exact ⟨ret_int' (by rw [E.out, IntKind.wrap_i64]; omega), AL.out.trans (HB2.out.mono AL.out.size)⟩
end Go.Proofs.Ytfoaplihindeaah
