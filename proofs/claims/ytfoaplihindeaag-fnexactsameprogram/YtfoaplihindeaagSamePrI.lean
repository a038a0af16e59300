/- The contract of impl.SameProgram. -/
import Derived.Test.YtfoaplihindeaagSameS0
import Derived.Test.YtfoaplihindeaagIntsQ
import Derived.Deep.QuietTactic
import Derived.BigQuiet
namespace Go.Proofs.Ytfoaplihindeaag
open Go.ChangeShapes Go.WideShapes Go.ChangeAt Go.RowKit
theorem boolOf (p : Prop) : ∃ r : Bool, (r = true ↔ p) := by
  by_cases h : p
  · exact ⟨true, fun _ => h, fun _ => rfl⟩
  · exact ⟨false, fun h0 => Bool.noConfusion h0, fun h0 => absurd h0 h⟩
theorem dn_below {B : Nat} {a w : World} (h : Below B a w) (q : Nat) : Below B a (w.drewN q) := ⟨h.os, h.tape, h.output, h.size, h.block⟩
theorem same_bodies (w W w0 w1 w2 : World) (a b : List St) (B1 B2 : Nat) (d1 d2 : Option Addr) (x1 x2 : Value) (r : Bool) (hr : r = true ↔ a = b)
    (hw : Below w.heap.size w W) (h0 : Below W.heap.size W w0) (ha : StsIs w B1 d1 a) (hb : StsIs w B2 d2 b) (hB1 : 0 < B1) (hB2 : 0 < B2) (sa : stsSz a ≤ 1048576) (sb : stsSz b ≤ 1048576)
    (own1 : OwnPts w1 w0.heap.size x1 (rowPts .st 6 d1 a.length)) (bel1 : Below w0.heap.size w0 w1) (own2 : OwnPts w2 w1.heap.size x2 (rowPts .st 6 d2 b.length)) (bel2 : Below w1.heap.size w1 w2) :
    Calls Try.prog 35 #[x1, x2] w2 fun e w' => e = .returned (.bool r) ∧ Below W.heap.size W w' := by
  have z := hw.size
  have z0 := h0.size
  have z1 := bel1.size
  have z2 := bel2.size
  have HB2 : Below W.heap.size W w2 := (h0.trans (bel1.mono z0)).trans (bel2.mono (by omega))
  obtain ⟨ga, ega⟩ := own1.some
  obtain ⟨gb, egb⟩ := own2.some
  have l1 := own1.lt ga ega
  have l2 := own2.low gb egb
  refine (same_body w w2 a b B1 B2 d1 d2 w0.heap.size w1.heap.size x1 x2 r hr (hw.trans (HB2.mono z)) ha hb hB1 hB2 sa sb (by omega) z1 z2 (own1.stays bel2) own2 (by rw [ega, egb]; intro h; injection h with h; omega)).mono ?_
  rintro e w' ⟨rfl, bel⟩
  exact ⟨rfl, HB2.trans (bel.mono (by omega))⟩
theorem sts_row {w : World} {B : Nat} {d : Option Addr} {l : List St} (h : StsIs w B d l) : l.length = 0 ∨ ∃ b o, d = some ⟨b, o, none⟩ := by
  obtain ⟨_, vs, hr, _⟩ := h
  rcases hr with h0 | ⟨g, p, rfl, _⟩
  · exact Or.inl h0
  · exact Or.inr ⟨g, p, rfl⟩
theorem cells_at {X : World} {blk : Nat} {cs : Array Value} {T : TypeId} (h : X.heap[blk]? = some (.cells cs T (0, 0))) : ∀ j, X.cell? ⟨blk, j, none⟩ = cs[j]? := fun j => by simp [World.cell?, h]
theorem ints_stays {w w' : World} {a : Option Addr} {B : Nat} {zs : List Int} (h : IntsIs w B a zs) (bel : Below w.heap.size w w') : IntsGet w' a zs := by
  refine ⟨h.1, ?_⟩
  rcases h.2 with h0 | ⟨b, o, ha, _, hlt, hc⟩
  · exact Or.inl h0
  · exact Or.inr ⟨b, o, ha, fun i hi => (bel.cell (p := ⟨b, _, none⟩) hlt).trans (hc i hi)⟩
set_option maxHeartbeats 8000000 in
theorem impl_sameProgram (a b : Pr) (w : World) (B1 B2 : Nat) (v1 v2 : Array Value) (r : Bool) (hr : r = true ↔ a = b) (h1 : PrIs w B1 v1 a) (h2 : PrIs w B2 v2 b) (hB1 : 0 < B1) (hB2 : 0 < B2) (sa : a.sz ≤ 1048576) (sb : b.sz ≤ 1048576) :
    Calls Try.prog 13 #[.agg v1, .agg v2] w fun e w' => e = .returned (.bool r) ∧ Below w.heap.size w w' := by
  obtain ⟨sz, ps, vs, bd⟩ := a
  obtain ⟨sz', ps', vs', bd'⟩ := b
  obtain ⟨a1, c1, d1, e1, rfl, hz, hb⟩ := h1
  obtain ⟨a2, c2, d2, e2, rfl, hz', hb'⟩ := h2
  simp only at *
  unfold Pr.sz at sa sb
  simp only at sa sb
  obtain ⟨W, hW⟩ : ∃ W, (w.alloc (.cells #[.slice a1 sz.length c1, .int .i64 ps, .int .i64 vs, .slice d1 bd.length e1] 30)).alloc (.cells #[.slice a2 sz'.length c2, .int .i64 ps', .int .i64 vs', .slice d2 bd'.length e2] 30) = W := ⟨_, rfl⟩
  have al : Below w.heap.size w W := by rw [← hW]; exact below2' w _ _
  have hWs : W.heap.size = w.heap.size + 2 := by rw [← hW]; simp
  have b1 : W.heap[w.heap.size + 1]? = some (.cells #[.slice a2 sz'.length c2, .int .i64 ps', .int .i64 vs', .slice d2 bd'.length e2] 30 (0, 0)) := by
    rw [← hW]
    have e := blk_new' (w.alloc (.cells #[.slice a1 sz.length c1, .int .i64 ps, .int .i64 vs, .slice d1 bd.length e1] 30)) (.cells #[.slice a2 sz'.length c2, .int .i64 ps', .int .i64 vs', .slice d2 bd'.length e2] 30)
    simpa using e
  have b0 : W.heap[w.heap.size]? = some (.cells #[.slice a1 sz.length c1, .int .i64 ps, .int .i64 vs, .slice d1 bd.length e1] 30 (0, 0)) := by
    rw [← hW]
    exact (((Below.refl _ _).alloc (Nat.le_refl _) _).block w.heap.size (by simp)).trans (blk_new' w _)
  have SK : Hid (∀ W', Below W.heap.size W W' → W'.cell? ⟨w.heap.size, 0, none⟩ = some (.slice a1 sz.length c1) ∧ W'.cell? ⟨w.heap.size, 1, none⟩ = some (.int .i64 ps) ∧ W'.cell? ⟨w.heap.size, 2, none⟩ = some (.int .i64 vs) ∧ W'.cell? ⟨w.heap.size, 3, none⟩ = some (.slice d1 bd.length e1) ∧ W'.cell? ⟨w.heap.size + 1, 0, none⟩ = some (.slice a2 sz'.length c2) ∧ W'.cell? ⟨w.heap.size + 1, 1, none⟩ = some (.int .i64 ps') ∧ W'.cell? ⟨w.heap.size + 1, 2, none⟩ = some (.int .i64 vs') ∧ W'.cell? ⟨w.heap.size + 1, 3, none⟩ = some (.slice d2 bd'.length e2)) := fun W' h => by
    have e0 := cells_at ((h.block w.heap.size (by omega)).trans b0)
    have e1 := cells_at ((h.block (w.heap.size + 1) (by omega)).trans b1)
    exact ⟨e0 0, e0 1, e0 2, e0 3, e1 0, e1 1, e1 2, e1 3⟩
  obtain ⟨rz, hrz⟩ := boolOf (sz = sz')
  have CE : Hid (∀ X, Below W.heap.size W X → Calls Try.prog 34 #[.slice a1 sz.length c1, .slice a2 sz'.length c2] X fun e w' => e = .returned (.bool rz) ∧ Below W.heap.size W w') := fun X hX => by
    have bX : Below w.heap.size w X := al.trans (hX.mono al.size)
    have e : (sz == sz') = rz := by
      cases rz with
      | true => rw [beq_iff_eq]; exact hrz.1 rfl
      | false => rw [beq_eq_false_iff_ne]; intro h; exact Bool.noConfusion (hrz.2 h)
    refine (slicesEqual_any sz sz' X a1 a2 c1 c2 (ints_stays hz bX) (ints_stays hz' bX)).mono ?_
    rintro e0 w0 ⟨rfl, q, rfl⟩
    exact ⟨by rw [e], dn_below hX q⟩
  have CQ : Hid (∀ m, Calls Try.prog 34 #[.slice a1 sz.length c1, .slice a2 sz'.length c2] (W.drewN m) fun e w' => e = .returned (.bool rz) ∧ ∃ q2, w' = (W.drewN m).drewN q2) := fun m => by
    have bX : Below w.heap.size w (W.drewN m) := dn_below al m
    have e : (sz == sz') = rz := by
      cases rz with
      | true => rw [beq_iff_eq]; exact hrz.1 rfl
      | false => rw [beq_eq_false_iff_ne]; intro h; exact Bool.noConfusion (hrz.2 h)
    refine (slicesEqual_any sz sz' (W.drewN m) a1 a2 c1 c2 (ints_stays hz bX) (ints_stays hz' bX)).mono ?_
    rintro e0 w0 ⟨rfl, q, rfl⟩
    exact ⟨by rw [e], q, rfl⟩
  have hbl : bd.length ≤ 1048576 := by unfold stsSz at sa; omega
  have hbl' : bd'.length ≤ 1048576 := by unfold stsSz at sb; omega
  have r1 := hideP (sts_row hb)
  have r2 := hideP (sts_row hb')
  have NO : Hid ((⟨sz, ps, vs, bd⟩ : Pr) ≠ ⟨sz', ps', vs', bd'⟩ → r = false) := fun h => by
    rw [← Bool.not_eq_true]; intro hh; exact h (hr.1 hh)
  have AL := hideP al
  have HWe := hideP hW
  have tok : Hid True := trivial
  have SA := hideP sa
  have SB := hideP sb
  have HRZ := hideP hrz
  have HZ := hideP hz
  have HBD := hideP hb
  have HBD' := hideP hb'
  have HR := hideP hr
  clear hW al hWs b0 b1 sa sb hrz hz hz' hb hb' hr HZ
  go_enter Try.func13, Try.ntmps13
  go_upto_region 1 with fail
  rw [HWe.out]
  clear HWe
  cases rz with
  | false =>
    have hrf : Hid (r = false) := NO.out (fun h => by injection h with h1 _ _ _; exact Bool.noConfusion (HRZ.out.2 h1))
    clear NO HRZ
    obtain ⟨z0, z1, z2, z3, y0, y1, y2, y3⟩ := SK.out W (Below.refl _ _)
    go_quiet (first | (go_at_call 34; refine Calls.quiet_of (CQ.out _)))
    go_wp2
    go_ret
    exact ⟨by rw [hrf.out]; rfl, dn_below AL.out _⟩
  | true =>
  by_cases hp : ps = ps'
  rotate_left
  · have f1 : (ps == ps') = false := by rw [beq_eq_false_iff_ne]; exact hp
    have f1' : decide (ps = ps') = false := decide_eq_false hp
    have hrf : Hid (r = false) := NO.out (fun h => by injection h with _ h1 _ _; exact hp h1)
    clear NO HRZ
    obtain ⟨z0, z1, z2, z3, y0, y1, y2, y3⟩ := SK.out W (Below.refl _ _)
    go_quiet (first | (go_at_call 34; refine Calls.quiet_of (CQ.out _)))
    go_wp2
    go_ret
    exact ⟨by rw [hrf.out]; rfl, dn_below AL.out _⟩
  subst hp
  by_cases hv : vs = vs'
  rotate_left
  · have f1 : (vs == vs') = false := by rw [beq_eq_false_iff_ne]; exact hv
    have f1' : decide (vs = vs') = false := decide_eq_false hv
    have hrf : Hid (r = false) := NO.out (fun h => by injection h with _ _ h1 _; exact hv h1)
    clear NO HRZ
    obtain ⟨z0, z1, z2, z3, y0, y1, y2, y3⟩ := SK.out W (Below.refl _ _)
    go_quiet (first | (go_at_call 34; refine Calls.quiet_of (CQ.out _)))
    go_wp2
    go_ret
    exact ⟨by rw [hrf.out]; rfl, dn_below AL.out _⟩
  subst hv
  · have HRB : Hid (r = true ↔ bd = bd') := by
      show r = true ↔ bd = bd'
      rw [HR.out, HRZ.out.1 rfl]
      constructor
      · intro h; injection h
      · intro h; rw [h]
    clear NO HRZ HR
    go_region_held3 (fun W' => W'.cell? ⟨w.heap.size, 0, none⟩ = some (.slice a1 sz.length c1) ∧ W'.cell? ⟨w.heap.size, 1, none⟩ = some (.int .i64 ps) ∧ W'.cell? ⟨w.heap.size, 2, none⟩ = some (.int .i64 vs) ∧ W'.cell? ⟨w.heap.size, 3, none⟩ = some (.slice d1 bd.length e1) ∧ W'.cell? ⟨w.heap.size + 1, 0, none⟩ = some (.slice a2 sz'.length c2) ∧ W'.cell? ⟨w.heap.size + 1, 1, none⟩ = some (.int .i64 ps) ∧ W'.cell? ⟨w.heap.size + 1, 2, none⟩ = some (.int .i64 vs) ∧ W'.cell? ⟨w.heap.size + 1, 3, none⟩ = some (.slice d2 bd'.length e2))
      (first | exact SK.out _ (Below.refl _ _).drew | exact SK.out _ HB3.out | exact SK.out _ HB2.out | exact SK.out _ HB1.out | exact SK.out _ HB0.out) (first
      | (go_at_call 34; refine (CE.out _ (Below.refl _ _).drew).mono ?_; rintro e0 w0 ⟨rfl, bel0⟩; have HB0 : Hid (Below W.heap.size W w0) := bel0)
      | (go_at_call 36; have tk := tok; refine (stmtParts_row _ d1 bd.length e1 hbl r1.out).mono ?_; rintro e4 w1 ⟨x1, rfl, own1, bel1⟩; have HB1 : Hid (Below W.heap.size W w1) := HB0.out.trans (bel1.mono HB0.out.size); clear tk tok)
      | (go_at_call 36; refine (stmtParts_row _ d2 bd'.length e2 hbl' r2.out).mono ?_; rintro e5 w2 ⟨x2, rfl, own2, bel2⟩; have HB2 : Hid (Below W.heap.size W w2) := HB1.out.trans (bel2.mono HB1.out.size))
      | (go_at_call 35; refine (same_bodies w W w0 w1 w2 bd bd' B1 B2 d1 d2 x1 x2 r HRB.out AL.out HB0.out HBD.out HBD'.out hB1 hB2 (Nat.le_trans (Nat.le_add_left _ _) SA.out) (Nat.le_trans (Nat.le_add_left _ _) SB.out) own1 bel1 own2 bel2).mono ?_; rintro e3 w3 ⟨rfl, bel3⟩; have HB3 : Hid (Below W.heap.size W w3) := bel3))
    all_goals (go_wp2; go_ret; exact ⟨rfl, AL.out.trans (HB3.out.mono AL.out.size)⟩)
end Go.Proofs.Ytfoaplihindeaag
