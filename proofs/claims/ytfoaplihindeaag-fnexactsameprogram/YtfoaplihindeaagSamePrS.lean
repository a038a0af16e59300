/- The contract of spec.SameProgram. -/
import Derived.Test.YtfoaplihindeaagSamePrI
import Derived.Test.YtfoaplihindeaagSmS
namespace Go.Proofs.Ytfoaplihindeaag
open Go.ChangeShapes Go.WideShapes Go.ChangeAt Go.RowKit
set_option maxHeartbeats 8000000 in
theorem spec_sameProgram (a b : Pr) (w : World) (B1 B2 : Nat) (v1 v2 : Array Value) (r : Bool) (hr : r = true ↔ a = b) (h1 : PrIs w B1 v1 a) (h2 : PrIs w B2 v2 b) :
    Calls Try.prog 12 #[.agg v1, .agg v2] w fun e w' => e = .returned (.bool r) ∧ Below w.heap.size w w' := by
  obtain ⟨sz, ps, vs, bd⟩ := a
  obtain ⟨sz', ps', vs', bd'⟩ := b
  obtain ⟨a1, c1, d1, e1, rfl, hz, hb⟩ := h1
  obtain ⟨a2, c2, d2, e2, rfl, hz', hb'⟩ := h2
  simp only at *
  obtain ⟨W, hW⟩ : ∃ W, (w.alloc (.cells #[.slice a1 sz.length c1, .int .i64 ps, .int .i64 vs, .slice d1 bd.length e1] 30)).alloc (.cells #[.slice a2 sz'.length c2, .int .i64 ps', .int .i64 vs', .slice d2 bd'.length e2] 30) = W := ⟨_, rfl⟩
  have al : Below w.heap.size w W := by rw [← hW]; exact below2' w _ _
  have hWs : W.heap.size = w.heap.size + 2 := by rw [← hW]; simp
  have b1 : W.heap[w.heap.size + 1]? = some (.cells #[.slice a2 sz'.length c2, .int .i64 ps', .int .i64 vs', .slice d2 bd'.length e2] 30 (0, 0)) := by
    rw [← hW]
    have e := blk_new' (w.alloc (.cells #[.slice a1 sz.length c1, .int .i64 ps, .int .i64 vs, .slice d1 bd.length e1] 30)) (.cells #[.slice a2 sz'.length c2, .int .i64 ps', .int .i64 vs', .slice d2 bd'.length e2] 30)
    simpa using e
  have b0 : W.heap[w.heap.size]? = some (.cells #[.slice a1 sz.length c1, .int .i64 ps, .int .i64 vs, .slice d1 bd.length e1] 30 (0, 0)) := by
    rw [← hW]
    exact (((Below.refl _ _).alloc (Nat.le_refl _) _).block w.heap.size (by simp)).trans (blk_new' w _)
  have SK : Hid (∀ W', Below W.heap.size W W' → W'.cell? ⟨w.heap.size, 0, none⟩ = some (.slice a1 sz.length c1) ∧ W'.cell? ⟨w.heap.size, 1, none⟩ = some (.int .i64 ps) ∧ W'.cell? ⟨w.heap.size, 2, none⟩ = some (.int .i64 vs) ∧ W'.cell? ⟨w.heap.size, 3, none⟩ = some (.slice d1 bd.length e1) ∧ W'.cell? ⟨w.heap.size + 1, 0, none⟩ = some (.slice a2 sz'.length c2) ∧ W'.cell? ⟨w.heap.size + 1, 1, none⟩ = some (.int .i64 ps') ∧ W'.cell? ⟨w.heap.size + 1, 2, none⟩ = some (.int .i64 vs') ∧ W'.cell? ⟨w.heap.size + 1, 3, none⟩ = some (.slice d2 bd'.length e2)) := fun W' h => by
    have e0 := cells_at ((h.block w.heap.size (by omega)).trans b0)
    have e1 := cells_at ((h.block (w.heap.size + 1) (by omega)).trans b1)
    exact ⟨e0 0, e0 1, e0 2, e0 3, e1 0, e1 1, e1 2, e1 3⟩
  obtain ⟨rz, hrz⟩ := boolOf (sz = sz')
  have CQ : Hid (∀ X, Below W.heap.size W X → Calls Try.prog 32 #[.slice a1 sz.length c1, .slice a2 sz'.length c2] X fun e w' => e = .returned (.bool rz) ∧ ∃ q2, w' = X.drewN q2) := fun X hX => by
    have bX : Below w.heap.size w X := al.trans (hX.mono al.size)
    have e : (sz == sz') = rz := by
      cases rz with
      | true => rw [beq_iff_eq]; exact hrz.1 rfl
      | false => rw [beq_eq_false_iff_ne]; intro h; exact Bool.noConfusion (hrz.2 h)
    refine (l02Ints_any sz sz' X a1 a2 c1 c2 (ints_stays hz bX) (ints_stays hz' bX)).mono ?_
    rintro e0 w0 ⟨rfl, q, rfl⟩
    exact ⟨by rw [e], q, rfl⟩
  obtain ⟨rb, hrb⟩ := boolOf (bd = bd')
  have CB : Hid (∀ X, Below W.heap.size W X → Calls Try.prog 33 #[.slice d1 bd.length e1, .slice d2 bd'.length e2] X fun e w' => e = .returned (.bool rb) ∧ ∃ q2, w' = X.drewN q2) := fun X hX =>
    l02Same_any bd bd' rb X B1 B2 d1 d2 e1 e2 hrb (hb.stays (al.trans (hX.mono al.size))) (hb'.stays (al.trans (hX.mono al.size)))
  have NO : Hid ((⟨sz, ps, vs, bd⟩ : Pr) ≠ ⟨sz', ps', vs', bd'⟩ → r = false) := fun h => by
    rw [← Bool.not_eq_true]; intro hh; exact h (hr.1 hh)
  have AL := hideP al
  have HWe := hideP hW
  have HRZ := hideP hrz
  have HRB := hideP hrb
  have HR := hideP hr
  clear hW al hWs b0 b1 hrz hz hz' hb hb' hr hrb
  go_enter Try.func12, Try.ntmps12
  go_upto_region 1 with fail
  rw [HWe.out]
  clear HWe
  cases rz with
  | false =>
    have hrf : Hid (r = false) := NO.out (fun h => by injection h with h1 _ _ _; exact Bool.noConfusion (HRZ.out.2 h1))
    clear NO HRZ
    obtain ⟨z0, z1, z2, z3, y0, y1, y2, y3⟩ := SK.out W (Below.refl _ _)
    go_wp2_with fail
    refine (CQ.out _ (Below.refl _ _)).mono ?_
    rintro e0 w0 ⟨rfl, q, rfl⟩
    go_wp2
    go_ret
    exact ⟨by rw [hrf.out]; rfl, dn_below AL.out _⟩
  | true =>
  by_cases hp : ps = ps'
  rotate_left
  · have f1 : (ps == ps') = false := by rw [beq_eq_false_iff_ne]; exact hp
    have f1' : decide (ps = ps') = false := decide_eq_false hp
    have hrf : Hid (r = false) := NO.out (fun h => by injection h with _ h1 _ _; exact hp h1)
    clear NO HRZ
    obtain ⟨z0, z1, z2, z3, y0, y1, y2, y3⟩ := SK.out W (Below.refl _ _)
    go_wp2_with fail
    refine (CQ.out _ (Below.refl _ _)).mono ?_
    rintro e0 w0 ⟨rfl, q, rfl⟩
    go_wp2
    go_ret
    exact ⟨by rw [hrf.out]; rfl, dn_below AL.out _⟩
  subst hp
  by_cases hv : vs = vs'
  rotate_left
  · have f1 : (vs == vs') = false := by rw [beq_eq_false_iff_ne]; exact hv
    have f1' : decide (vs = vs') = false := decide_eq_false hv
    have hrf : Hid (r = false) := NO.out (fun h => by injection h with _ _ h1 _; exact hv h1)
    clear NO HRZ
    obtain ⟨z0, z1, z2, z3, y0, y1, y2, y3⟩ := SK.out W (Below.refl _ _)
    go_wp2_with fail
    refine (CQ.out _ (Below.refl _ _)).mono ?_
    rintro e0 w0 ⟨rfl, q, rfl⟩
    go_wp2
    go_ret
    exact ⟨by rw [hrf.out]; rfl, dn_below AL.out _⟩
  subst hv
  · have HRE : Hid (r = rb) := by
      show r = rb
      have e : r = true ↔ rb = true := by
        rw [HR.out, HRZ.out.1 rfl, HRB.out]
        constructor
        · intro h; injection h
        · intro h; rw [h]
      cases r <;> cases rb <;> simp_all
    clear NO HRZ HR HRB
    obtain ⟨z0, z1, z2, z3, y0, y1, y2, y3⟩ := SK.out W (Below.refl _ _)
    go_wp2_with fail
    refine (CQ.out _ (Below.refl _ _)).mono ?_
    rintro e0 w0 ⟨rfl, q, rfl⟩
    go_wp2_with fail
    refine (CB.out _ (dn_below (Below.refl _ _) _)).mono ?_
    rintro e3 w3 ⟨rfl, q3, rfl⟩
    go_wp2
    go_ret
    exact ⟨by rw [HRE.out]; rfl, dn_below AL.out _⟩
end Go.Proofs.Ytfoaplihindeaag
