/- The contracts of both SameExp. -/
import Derived.Test.YtfoaplihindeaagSamePs
import Derived.Test.YtfoaplihindeaagSmE
namespace Go.Proofs.Ytfoaplihindeaag
open Go.ChangeShapes Go.WideShapes Go.ChangeAt Go.RowKit

theorem own_blk {w : World} {B : Nat} {v : Value} {l : List Pt} (h : OwnPts w B v l) : ∃ g, v.ownBlock = Option.some g := h.some
theorem cellsAt {X : World} {blk : Nat} {cs : Array Value} {T : TypeId} (h : X.heap[blk]? = some (.cells cs T (0, 0))) : ∀ j, X.cell? ⟨blk, j, none⟩ = cs[j]? := fun j => by simp [World.cell?, h]
theorem lit_exs {X : World} {blk B : Nat} {cs : Array Value} {T : TypeId} {e : Ex} (h : X.heap[blk]? = some (.cells cs T (0, 0))) (hx : ExIs X B cs e) : ExsIs X 0 (some ⟨blk, 0, none⟩) [e] := by
  refine ⟨by unfold maxLen; simp, fun _ => cs, Or.inr ⟨blk, 0, rfl, Nat.zero_le _, (Array.getElem?_eq_some_iff.1 h).1, fun h0 => absurd h0 (Nat.lt_irrefl 0), fun i hi => ?_⟩, fun i hi => ?_⟩
  · have hi0 : i = 0 := by simpa using hi
    subst hi0
    obtain ⟨k, n, b, t, kids⟩ := e
    obtain ⟨a, cap, rfl, _⟩ := hx.out
    exact ⟨rfl, fun j hj => by rw [cellsAt h]; simp⟩
  · have hi0 : i = 0 := by simpa using hi
    subst hi0
    simpa using hx.mono (Nat.zero_le _)
theorem same_two (w X : World) (a b : Ex) (B1 B2 : Nat) (ca cb : Array Value) (T : TypeId) (blkA blkB Ka Kb : Nat) (va vb : Value) (r : Bool) (hr : r = true ↔ a = b)
    (hw : Below w.heap.size w X) (ha : ExIs w B1 ca a) (hb : ExIs w B2 cb b) (hB1 : 0 < B1) (hB2 : 0 < B2) (sa : a.sz ≤ 1048576) (sb : b.sz ≤ 1048576)
    (hA : X.heap[blkA]? = some (.cells ca T (0, 0))) (hBk : X.heap[blkB]? = some (.cells cb T (0, 0))) (k1 : blkA < Ka) (k2 : blkB < Kb) (k3 : w.heap.size ≤ Ka) (k4 : Ka ≤ Kb) (k5 : Kb ≤ X.heap.size)
    (oA : OwnPts X Ka va [.ex blkA 0]) (oB : OwnPts X Kb vb [.ex blkB 0]) (hne : va.ownBlock ≠ vb.ownBlock) (hneB : va.ownBlock ≠ some blkB) :
    Calls Try.prog 35 #[va, vb] X fun e w' => e = .returned (.bool r) ∧ Below Ka X w' := by
  have cA : ca.size = 5 := by obtain ⟨k, n, bs, t, kids⟩ := a; obtain ⟨_, _, rfl, _⟩ := ha.out; rfl
  have cB : cb.size = 5 := by obtain ⟨k, n, bs, t, kids⟩ := b; obtain ⟨_, _, rfl, _⟩ := hb.out; rfl
  obtain ⟨na, hpa, hga, hfa⟩ := ndEx w X Ka hw k3 a B1 ca blkA 0 ha hB1 (fun j hj => by rw [Nat.zero_add]; exact cellsAt hA j) ⟨_, _, hA⟩ k1 sa
  obtain ⟨ga, ega⟩ := own_blk oA
  obtain ⟨gb, egb⟩ := own_blk oB
  have va1 := vis_le_ex a
  have vb1 := vis_le_ex b
  have e : allEq a.vis b.vis = r := by
    cases r with
    | true => rw [hr.1 rfl]; exact allEq_refl _
    | false => rw [← Bool.not_eq_true, visE_iff]; intro h; exact Bool.noConfusion (hr.2 h)
  rw [← e]
  refine sameParts_any X Ka Kb ga gb va vb [na] [.ex blkB 0] a.vis b.vis (innOf X) k4 k5 (by simpa [hpa] using oA) oB ega egb (fun h => hne (by rw [ega, egb, h])) (fun x hx => by simp at hx; subst hx; exact hga) (by simpa [ndsVisit] using hfa) ?_ (by omega) (by omega)
  intro w1 but1 bel1
  have bw1 : Below w.heap.size w w1 := hw.trans (bel1.mono k3)
  have hB1' : w1.heap[blkB]? = some (.cells cb T (0, 0)) := (but1.block blkB (Array.getElem?_eq_some_iff.1 hBk).1 (fun h => hneB (by rw [ega, h]))).trans hBk
  obtain ⟨nb, hpb, hgb, hfb⟩ := ndEx w w1 Kb bw1 (Nat.le_trans k3 k4) b B2 cb blkB 0 hb hB2 (fun j hj => by rw [Nat.zero_add]; exact cellsAt hB1' j) ⟨_, _, hB1'⟩ k2 sb
  exact ⟨[nb], innOf w1, by simp [hpb], fun x hx => by simp at hx; subst hx; exact hgb, by simpa [ndsVisit] using hfb⟩
theorem belAD {W w1 : World} {o : Obj} (h : Below (W.alloc o).drew.heap.size (W.alloc o).drew w1) : Hid (Below W.heap.size W w1) :=
  ((Below.refl W.heap.size W).alloc (Nat.le_refl _) o).drew.trans (h.mono (by show W.heap.size ≤ (W.alloc o).heap.size; simp))
theorem belA2 {W w1 w2 : World} {o : Obj} (h1 : Hid (Below W.heap.size W w1)) (h : Below (w1.alloc o).heap.size (w1.alloc o) w2) : Hid (Below W.heap.size W w2) :=
  h1.out.trans ((below_new h).mono h1.out.size)
theorem same_lit (w W w1 w2 : World) (a b : Ex) (B1 B2 : Nat) (ca cb : Array Value) (T : TypeId) (x1 x2 : Value) (r : Bool) (hr : r = true ↔ a = b)
    (hw : Below w.heap.size w W) (ha : ExIs w B1 ca a) (hb : ExIs w B2 cb b) (hB1 : 0 < B1) (hB2 : 0 < B2) (sa : a.sz ≤ 1048576) (sb : b.sz ≤ 1048576)
    (own1 : OwnPts w1 (W.alloc (.cells ca T)).drew.heap.size x1 (rowPts .ex 5 (some ⟨W.heap.size, 0, none⟩) 1)) (bel1 : Below (W.alloc (.cells ca T)).drew.heap.size (W.alloc (.cells ca T)).drew w1)
    (own2 : OwnPts w2 (w1.alloc (.cells cb T)).heap.size x2 (rowPts .ex 5 (some ⟨w1.heap.size, 0, none⟩) 1)) (bel2 : Below (w1.alloc (.cells cb T)).heap.size (w1.alloc (.cells cb T)) w2) :
    Calls Try.prog 35 #[x1, x2] w2 fun e w' => e = .returned (.bool r) ∧ Below W.heap.size W w' := by
  have HB2 := belA2 (belAD bel1) bel2
  have b12 : Below w1.heap.size w1 w2 := below_new bel2
  have s1 : (W.alloc (.cells ca T)).drew.heap.size = W.heap.size + 1 := by show (W.alloc (.cells ca T)).heap.size = _; simp
  have s2 : (w1.alloc (.cells cb T)).heap.size = w1.heap.size + 1 := by simp
  have z1 := bel1.size
  have z2 := bel2.size
  have z0 := hw.size
  have hA1 : w1.heap[W.heap.size]? = some (.cells ca T (0, 0)) := (bel1.block W.heap.size (by omega)).trans (blk_new' W _)
  have hA : w2.heap[W.heap.size]? = some (.cells ca T (0, 0)) := (b12.block W.heap.size (by omega)).trans hA1
  have hB : w2.heap[w1.heap.size]? = some (.cells cb T (0, 0)) := (bel2.block w1.heap.size (by omega)).trans (blk_new' w1 _)
  obtain ⟨ga, ega⟩ := own_blk own1
  obtain ⟨gb, egb⟩ := own_blk own2
  have l1 := own1.lt ga ega
  have l2 := own2.low gb egb
  refine (same_two w w2 a b B1 B2 ca cb T W.heap.size w1.heap.size _ _ x1 x2 r hr (hw.trans (HB2.out.mono z0)) ha hb hB1 hB2 sa sb hA hB (by omega) (by omega) (by omega) (by omega) z2 (own1.stays b12) own2 (by rw [ega, egb]; intro h; injection h with h; omega) (by rw [ega]; intro h; injection h with h; omega)).mono ?_
  rintro e w' ⟨rfl, bel⟩
  exact ⟨rfl, HB2.out.trans (bel.mono (by omega))⟩
theorem belAAD {W w1 : World} {o o' : Obj} (h : Below ((W.alloc o).alloc o').drew.heap.size ((W.alloc o).alloc o').drew w1) : Hid (Below W.heap.size W w1) :=
  (((Below.refl W.heap.size W).alloc (Nat.le_refl _) o).alloc (by simp) o').drew.trans (h.mono (by show W.heap.size ≤ ((W.alloc o).alloc o').heap.size; simp; omega))
theorem belC {W w1 w2 : World} (h1 : Hid (Below W.heap.size W w1)) (h : Below w1.heap.size w1 w2) : Hid (Below W.heap.size W w2) :=
  h1.out.trans (h.mono h1.out.size)
theorem same_lit2 (w W X w1 w2 : World) (a b : Ex) (B1 B2 : Nat) (ca cb : Array Value) (T : TypeId) (blkA blkB : Nat) (x1 x2 : Value) (r : Bool) (hr : r = true ↔ a = b)
    (hw : Below w.heap.size w W) (hWX : Below W.heap.size W X) (ha : ExIs w B1 ca a) (hb : ExIs w B2 cb b) (hB1 : 0 < B1) (hB2 : 0 < B2) (sa : a.sz ≤ 1048576) (sb : b.sz ≤ 1048576)
    (kA : X.heap[blkA]? = some (.cells ca T (0, 0))) (kB : X.heap[blkB]? = some (.cells cb T (0, 0)))
    (own1 : OwnPts w1 X.heap.size x1 (rowPts .ex 5 (some ⟨blkA, 0, none⟩) 1)) (bel1 : Below X.heap.size X w1)
    (own2 : OwnPts w2 w1.heap.size x2 (rowPts .ex 5 (some ⟨blkB, 0, none⟩) 1)) (bel2 : Below w1.heap.size w1 w2) :
    Calls Try.prog 35 #[x1, x2] w2 fun e w' => e = .returned (.bool r) ∧ Below W.heap.size W w' := by
  have zA := (Array.getElem?_eq_some_iff.1 kA).1
  have zB := (Array.getElem?_eq_some_iff.1 kB).1
  have z1 := bel1.size
  have z2 := bel2.size
  have z0 := hw.size
  have zX := hWX.size
  have HB2 : Below W.heap.size W w2 := (hWX.trans (bel1.mono zX)).trans (bel2.mono (by omega))
  have hA : w2.heap[blkA]? = some (.cells ca T (0, 0)) := (bel2.block blkA (by omega)).trans ((bel1.block blkA zA).trans kA)
  have hB : w2.heap[blkB]? = some (.cells cb T (0, 0)) := (bel2.block blkB (by omega)).trans ((bel1.block blkB zB).trans kB)
  obtain ⟨ga, ega⟩ := own_blk own1
  obtain ⟨gb, egb⟩ := own_blk own2
  have l0 := own1.low ga ega
  have l1 := own1.lt ga ega
  have l2 := own2.low gb egb
  refine (same_two w w2 a b B1 B2 ca cb T blkA blkB _ _ x1 x2 r hr (hw.trans (HB2.mono z0)) ha hb hB1 hB2 sa sb hA hB (by omega) (by omega) (by omega) (by omega) z2 (own1.stays bel2) own2 (by rw [ega, egb]; intro h; injection h with h; omega) (by rw [ega]; intro h; injection h with h; omega)).mono ?_
  rintro e w' ⟨rfl, bel⟩
  exact ⟨rfl, HB2.trans (bel.mono (by omega))⟩
theorem two_blk (W : World) (o o' : Obj) : ((W.alloc o).alloc o').drew.heap[W.heap.size]? = (W.alloc o).heap[W.heap.size]? ∧ ((W.alloc o).alloc o').drew.heap[W.heap.size + 1]? = ((W.alloc o).alloc o').heap[(W.alloc o).heap.size]? ∧ Below W.heap.size W ((W.alloc o).alloc o').drew := by
  refine ⟨((Below.refl _ _).alloc (Nat.le_refl _) _).block W.heap.size (by simp), ?_, (((Below.refl W.heap.size W).alloc (Nat.le_refl _) o).alloc (by simp) o').drew⟩
  show ((W.alloc o).alloc o').heap[W.heap.size + 1]? = _
  simp
theorem same_lit2a (w W w1 w2 : World) (a b : Ex) (B1 B2 : Nat) (ca cb : Array Value) (T : TypeId) (x1 x2 : Value) (r : Bool) (hr : r = true ↔ a = b)
    (hw : Below w.heap.size w W) (ha : ExIs w B1 ca a) (hb : ExIs w B2 cb b) (hB1 : 0 < B1) (hB2 : 0 < B2) (sa : a.sz ≤ 1048576) (sb : b.sz ≤ 1048576)
    (own1 : OwnPts w1 ((W.alloc (.cells ca T)).alloc (.cells cb T)).drew.heap.size x1 (rowPts .ex 5 (some ⟨W.heap.size, 0, none⟩) 1)) (bel1 : Below ((W.alloc (.cells ca T)).alloc (.cells cb T)).drew.heap.size ((W.alloc (.cells ca T)).alloc (.cells cb T)).drew w1)
    (own2 : OwnPts w2 w1.heap.size x2 (rowPts .ex 5 (some ⟨W.heap.size + 1, 0, none⟩) 1)) (bel2 : Below w1.heap.size w1 w2) :
    Calls Try.prog 35 #[x1, x2] w2 fun e w' => e = .returned (.bool r) ∧ Below W.heap.size W w' := by
  obtain ⟨e0, e1, eb⟩ := two_blk W (.cells ca T) (.cells cb T)
  exact same_lit2 w W _ w1 w2 a b B1 B2 ca cb T _ _ x1 x2 r hr hw eb ha hb hB1 hB2 sa sb (e0.trans (blk_new' _ _)) (e1.trans (blk_new' _ _)) own1 bel1 own2 bel2
theorem same_lit2b (w W w1 w2 : World) (a b : Ex) (B1 B2 : Nat) (ca cb : Array Value) (T : TypeId) (x1 x2 : Value) (r : Bool) (hr : r = true ↔ a = b)
    (hw : Below w.heap.size w W) (ha : ExIs w B1 ca a) (hb : ExIs w B2 cb b) (hB1 : 0 < B1) (hB2 : 0 < B2) (sa : a.sz ≤ 1048576) (sb : b.sz ≤ 1048576)
    (own1 : OwnPts w1 ((W.alloc (.cells cb T)).alloc (.cells ca T)).drew.heap.size x1 (rowPts .ex 5 (some ⟨W.heap.size + 1, 0, none⟩) 1)) (bel1 : Below ((W.alloc (.cells cb T)).alloc (.cells ca T)).drew.heap.size ((W.alloc (.cells cb T)).alloc (.cells ca T)).drew w1)
    (own2 : OwnPts w2 w1.heap.size x2 (rowPts .ex 5 (some ⟨W.heap.size, 0, none⟩) 1)) (bel2 : Below w1.heap.size w1 w2) :
    Calls Try.prog 35 #[x1, x2] w2 fun e w' => e = .returned (.bool r) ∧ Below W.heap.size W w' := by
  obtain ⟨e0, e1, eb⟩ := two_blk W (.cells cb T) (.cells ca T)
  exact same_lit2 w W _ w1 w2 a b B1 B2 ca cb T _ _ x1 x2 r hr hw eb ha hb hB1 hB2 sa sb (e1.trans (blk_new' _ _)) (e0.trans (blk_new' _ _)) own1 bel1 own2 bel2
set_option maxHeartbeats 4000000 in
theorem impl_sameExp (a b : Ex) (w : World) (B1 B2 : Nat) (v1 v2 : Array Value) (r : Bool) (hr : r = true ↔ a = b) (h1 : ExIs w B1 v1 a) (h2 : ExIs w B2 v2 b) (hB1 : 0 < B1) (hB2 : 0 < B2) (sa : a.sz ≤ 1048576) (sb : b.sz ≤ 1048576) :
    Calls Try.prog 20 #[.agg v1, .agg v2] w fun e w' => e = .returned (.bool r) ∧ Below w.heap.size w w' := by
  obtain ⟨k, n, bs, t, kids⟩ := a
  obtain ⟨k', n', bs', t', kids'⟩ := b
  obtain ⟨a1, c1, rfl, _, _⟩ := h1.out
  obtain ⟨a2, c2, rfl, _, _⟩ := h2.out
  obtain ⟨W, hW⟩ : ∃ W, (w.alloc (.cells #[.int .i64 k, .int .i64 n, .int .i64 bs, .string t, .slice a1 kids.length c1] 42)).alloc (.cells #[.int .i64 k', .int .i64 n', .int .i64 bs', .string t', .slice a2 kids'.length c2] 42) = W := ⟨_, rfl⟩
  have al : Below w.heap.size w W := by rw [← hW]; exact below2' w _ _
  have hWs : W.heap.size = w.heap.size + 2 := by rw [← hW]; simp
  have b1 : W.heap[w.heap.size + 1]? = some (.cells #[.int .i64 k', .int .i64 n', .int .i64 bs', .string t', .slice a2 kids'.length c2] 42 (0, 0)) := by
    rw [← hW]
    have e := blk_new' (w.alloc (.cells #[.int .i64 k, .int .i64 n, .int .i64 bs, .string t, .slice a1 kids.length c1] 42)) (.cells #[.int .i64 k', .int .i64 n', .int .i64 bs', .string t', .slice a2 kids'.length c2] 42)
    simpa using e
  have b0 : W.heap[w.heap.size]? = some (.cells #[.int .i64 k, .int .i64 n, .int .i64 bs, .string t, .slice a1 kids.length c1] 42 (0, 0)) := by
    rw [← hW]
    exact (((Below.refl _ _).alloc (Nat.le_refl _) _).block w.heap.size (by simp)).trans (blk_new' w _)
  have SK : Hid (∀ W', Below W.heap.size W W' → W'.cell? ⟨w.heap.size, 0, none⟩ = some (.int .i64 k) ∧ W'.cell? ⟨w.heap.size, 1, none⟩ = some (.int .i64 n) ∧ W'.cell? ⟨w.heap.size, 2, none⟩ = some (.int .i64 bs) ∧ W'.cell? ⟨w.heap.size, 3, none⟩ = some (.string t) ∧ W'.cell? ⟨w.heap.size, 4, none⟩ = some (.slice a1 kids.length c1) ∧ W'.cell? ⟨w.heap.size + 1, 0, none⟩ = some (.int .i64 k') ∧ W'.cell? ⟨w.heap.size + 1, 1, none⟩ = some (.int .i64 n') ∧ W'.cell? ⟨w.heap.size + 1, 2, none⟩ = some (.int .i64 bs') ∧ W'.cell? ⟨w.heap.size + 1, 3, none⟩ = some (.string t') ∧ W'.cell? ⟨w.heap.size + 1, 4, none⟩ = some (.slice a2 kids'.length c2)) := fun W' h => by
    have e0 := cellsAt ((h.block w.heap.size (by omega)).trans b0)
    have e1 := cellsAt ((h.block (w.heap.size + 1) (by omega)).trans b1)
    exact ⟨e0 0, e0 1, e0 2, e0 3, e0 4, e1 0, e1 1, e1 2, e1 3, e1 4⟩
  have AL := hideP al
  have HWe := hideP hW
  have HWS := hideP hWs
  have tok : Hid True := trivial
  clear hW al hWs b0 b1
  go_enter Try.func20, Try.ntmps20
  go_upto_region 1 with fail
  rw [HWe.out]
  clear HWe
  go_region_held3 (fun W' => W'.cell? ⟨w.heap.size, 0, none⟩ = some (.int .i64 k) ∧ W'.cell? ⟨w.heap.size, 1, none⟩ = some (.int .i64 n) ∧ W'.cell? ⟨w.heap.size, 2, none⟩ = some (.int .i64 bs) ∧ W'.cell? ⟨w.heap.size, 3, none⟩ = some (.string t) ∧ W'.cell? ⟨w.heap.size, 4, none⟩ = some (.slice a1 kids.length c1) ∧ W'.cell? ⟨w.heap.size + 1, 0, none⟩ = some (.int .i64 k') ∧ W'.cell? ⟨w.heap.size + 1, 1, none⟩ = some (.int .i64 n') ∧ W'.cell? ⟨w.heap.size + 1, 2, none⟩ = some (.int .i64 bs') ∧ W'.cell? ⟨w.heap.size + 1, 3, none⟩ = some (.string t') ∧ W'.cell? ⟨w.heap.size + 1, 4, none⟩ = some (.slice a2 kids'.length c2))
    (first | exact SK.out _ (Below.refl _ _).drew | exact SK.out _ ((Below.refl _ _).drew.alloc (Nat.le_refl _) _) | exact SK.out _ (((Below.refl _ _).drew.alloc (Nat.le_refl _) _).alloc (by simp) _) | exact SK.out _ HB3.out | exact SK.out _ HB2.out | exact SK.out _ (HB1.out.alloc HB1.out.size _) | exact SK.out _ HB1.out) (first
    | (go_at_call 43; have tk := tok; refine (expParts_any _ _ 0 1 1 (by omega)).mono ?_; rintro e1 w1 ⟨x1, rfl, own1, bel1⟩; have HB1 : Hid (Below W.heap.size W w1) := (by first | exact belAD bel1 | exact belAAD bel1); clear tk tok)
    | (go_at_call 43; refine (expParts_any _ _ 0 1 1 (by omega)).mono ?_; rintro e2 w2 ⟨x2, rfl, own2, bel2⟩; have HB2 : Hid (Below W.heap.size W w2) := (by first | exact belA2 HB1 bel2 | exact belC HB1 bel2))
    | (go_at_call 35; (first | refine (same_lit w W w1 w2 _ _ B1 B2 _ _ 42 x1 x2 r hr AL.out h1 h2 hB1 hB2 sa sb own1 bel1 own2 bel2).mono ?_ | refine (same_lit2a w W w1 w2 _ _ B1 B2 _ _ 42 x1 x2 r hr AL.out h1 h2 hB1 hB2 sa sb own1 bel1 own2 bel2).mono ?_ | refine (same_lit2b w W w1 w2 _ _ B1 B2 _ _ 42 x1 x2 r hr AL.out h1 h2 hB1 hB2 sa sb own1 bel1 own2 bel2).mono ?_); rintro e3 w3 ⟨rfl, bel3⟩; have HB3 : Hid (Below W.heap.size W w3) := bel3))
  all_goals (go_wp2; go_ret; exact ⟨rfl, AL.out.trans (HB3.out.mono AL.out.size)⟩)
end Go.Proofs.Ytfoaplihindeaag
