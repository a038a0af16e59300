/- The contracts of figures.makeAnew, of folding's closure, of figures.jump and of folding (written by wip/mkfigj.py). -/
import Derived.Test.YtjmclmbepnbeoaaFigI
import Derived.Laws.EntriesVeiled
namespace Go.Proofs.Ytjmclmbepnbeoaa
open Go.ChangeShapes Go.WideShapes Go.ChangeAt Go.RowKit
set_option maxRecDepth 100000 in
set_option maxHeartbeats 8000000 in
theorem anew_any (x : Ins) (K : Kn) (w : World) (m V cap : Nat) (h : FiAt m V K w) (hx : WfX x) (hd : ¬ (x.op = 4 ∨ x.op = 6) → InR V x.d) :
    Calls Try.prog 65 #[.slice (some ⟨m, 0, none⟩) V cap, .agg (insV x)] w fun e w' => (∃ v, e = .returned v) ∧ FiAt m V (setK K x) w' ∧ But m w w' := by
  have MK := hideP (fun W => impl_makes x W 0 (insV x) ⟨rfl, hx.1, hx.2⟩)
  have al := (Below.refl w.heap.size w).alloc (Nat.le_refl _) (.cells (insV x) 48)
  have AL := hideP al
  have X1 := hideP (newI w (insV x))
  have F1 := hideP (h.stays al)
  have hmw := h.lt
  obtain ⟨op, d, a, b0, c0, nn, t⟩ := x
  simp only [insV] at MK AL X1 F1 ⊢
  simp only at hd
  clear hx h al
  go_enter Try.func65, Try.ntmps65
  go_upto_region 1 with fail
  obtain ⟨w1, hw1⟩ : ∃ w1, w.alloc (.cells #[.int .i64 op, .int .i64 d, .int .i64 a, .int .i64 b0, .int .i64 c0, .int .i64 nn, .string t] 48) = w1 := ⟨_, rfl⟩
  rw [hw1] at AL X1 F1 ⊢
  clear hw1
  have fc := (cells_of X1.out).1
  have x0 := fc 0
  have x1 := fc 1
  have x2 := fc 2
  have x3 := fc 3
  have x4 := fc 4
  have x5 := fc 5
  have x6 := fc 6
  simp at x0 x1 x2 x3 x4 x5 x6
  clear fc
  by_cases h0 : op = 0
  · subst h0
    obtain ⟨dn, rfl, hdn⟩ := inr_nat (hd (by omega))
    obtain ⟨v, q0, q1, _, qf⟩ := F1.out.at hdn
    have di : (dn : Int) < (V : Int) := by omega
    have FS := hideP (F1.out.set hdn (v := nn) (k := some nn) (fun u e => by injection e))
    have BU : Hid (But m w1 ((w1.setCell ⟨m, dn * 2, none⟩ (.bool (some nn).isSome)).setCell ⟨m, dn * 2 + 1, none⟩ (.int .i64 nn))) := ((But.refl m w1).set _ _).set _ _
    have EQ : Hid (setK K (⟨0, (dn : Int), a, b0, c0, nn, t⟩ : Ins) = fun s => if s = (dn : Int) then some nn else K s) := by show _ = _; unfold setK; rw [if_neg (show ¬ ((0 : Int) = 4 ∨ (0 : Int) = 6) by omega)]; simp
    simp only [Option.isSome_some] at FS BU
    go_wp2
    go_end0
    refine ⟨⟨_, rfl⟩, by rw [EQ.out]; exact FS.out, ⟨BU.out.os.trans AL.out.os, BU.out.tape.trans AL.out.tape, BU.out.output.trans AL.out.output, Nat.le_trans AL.out.size BU.out.size, fun k hk hne => (BU.out.block k (Nat.lt_of_lt_of_le hk AL.out.size) hne).trans (AL.out.block k hk)⟩⟩
  · have h0b : (op == 0) = false := by simpa using h0
    go_wp2_with fail
    refine (MK.out _).mono ?_
    rintro e2 w2 ⟨rfl, b2⟩
    have A2 := hideP (below_trans AL.out b2)
    have F2 := hideP (F1.out.stays b2)
    clear MK b2 F1 AL x0 x1 x2 x3 x4 x5 x6 X1
    by_cases h4 : op = 4 ∨ op = 6
    · have EM : makesP (⟨op, d, a, b0, c0, nn, t⟩ : Ins) = -1 := if_pos h4
      have EQ : Hid (setK K (⟨op, d, a, b0, c0, nn, t⟩ : Ins) = K) := if_pos h4
      rw [EM]
      clear EM
      go_wp2
      go_end0
      exact ⟨⟨_, rfl⟩, by rw [EQ.out]; exact F2.out, ⟨A2.out.os, A2.out.tape, A2.out.output, A2.out.size, fun k hk _ => A2.out.block k hk⟩⟩
    · obtain ⟨dn, rfl, hdn⟩ := inr_nat (hd h4)
      have EM : makesP (⟨op, (dn : Int), a, b0, c0, nn, t⟩ : Ins) = (dn : Int) := if_neg h4
      have EQ : Hid (setK K (⟨op, (dn : Int), a, b0, c0, nn, t⟩ : Ins) = fun s => if s = (dn : Int) then none else K s) := by show _ = _; unfold setK; rw [if_neg h4]; simp [h0]
      rw [EM]
      obtain ⟨v, q0, q1, _, qf⟩ := F2.out.at hdn
      have di : (dn : Int) < (V : Int) := by omega
      have dm : ((dn : Int) == -1) = false := by
        have : ¬ (dn : Int) = -1 := by omega
        exact beq_false_of_ne this
      have FS := hideP (F2.out.set hdn (v := 0) (k := none) (fun u e => by cases e))
      have BU : Hid (But m w2 ((w2.setCell ⟨m, dn * 2, none⟩ (.bool (none : Option Int).isSome)).setCell ⟨m, dn * 2 + 1, none⟩ (.int .i64 0))) := ((But.refl m w2).set _ _).set _ _
      simp only [Option.isSome_none] at FS BU
      clear EM
      go_wp2
      go_end0
      refine ⟨⟨_, rfl⟩, by rw [EQ.out]; exact FS.out, ⟨BU.out.os.trans A2.out.os, BU.out.tape.trans A2.out.tape, BU.out.output.trans A2.out.output, Nat.le_trans A2.out.size BU.out.size, fun k hk hne => (BU.out.block k (Nat.lt_of_lt_of_le hk A2.out.size) hne).trans (A2.out.block k hk)⟩⟩
/-- What a change that begins at heap size D may write: figures. -/
structure KpF (D : Nat) (W W' : World) : Prop where
  os : W'.os = W.os
  tape : W'.tape = W.tape
  output : W'.output = W.output
  size : W.heap.size ≤ W'.heap.size
  block : ∀ k, k < W.heap.size → (k < D ∨ ∀ c, W.heap[k]? ≠ some (.cells c 120 (0, 0))) → W'.heap[k]? = W.heap[k]?
theorem KpF.below {D : Nat} {W W1 : World} (h : KpF D W W1) {B : Nat} (hB : B ≤ D) (hw : D ≤ W.heap.size) : Below B W W1 := ⟨h.os, h.tape, h.output, h.size, fun k hk => h.block k (by omega) (Or.inl (by omega))⟩
theorem KpF.of {D m : Nat} {W W1 : World} (b : But m W W1) (hm : D ≤ m) {c : Array Value} (hc : W.heap[m]? = some (.cells c 120 (0, 0))) : KpF D W W1 := ⟨b.os, b.tape, b.output, b.size, fun k hk h => b.block k hk (fun e => by
  subst e
  rcases h with h | h
  · omega
  · exact h c hc)⟩
/-- The change's own memory. -/
structure FgAt (V D pp m cap n : Nat) (K : Kn) (W : World) : Prop where
  bx : W.heap[pp]? = some (.cells #[.slice (some ⟨m, 0, none⟩) V cap] 59 (0, 0))
  fi : FiAt m V K W
  lo : D ≤ pp ∧ D ≤ m
  ki : KI K
theorem FgAt.stays {V D pp m cap n : Nat} {K : Kn} {W W' : World} (h : FgAt V D pp m cap n K W) (b : Below W.heap.size W W') : FgAt V D pp m cap n K W' := ⟨(b.block _ (hltP h.bx)).trans h.bx, h.fi.stays b, h.lo, h.ki⟩
theorem FgAt.other {V D pp m cap n k : Nat} {K : Kn} {W W' : World} (h : FgAt V D pp m cap n K W) (b : But k W W') (hk : k < D) : FgAt V D pp m cap n K W' := ⟨keepQ b h.bx (by have := h.lo; omega), h.fi.but b (by have := h.lo; omega), h.lo, h.ki⟩
theorem foldX_inr {V : Nat} {K : Kn} {x : Ins} (h : ¬ (x.op = 4 ∨ x.op = 6) → InR V x.d) : ¬ ((foldX K x).op = 4 ∨ (foldX K x).op = 6) → InR V (foldX K x).d := fun h2 => by
  rw [foldX_d]
  exact h (fun c => h2 ((foldX_op K x).2 c))
set_option maxRecDepth 100000 in
set_option maxHeartbeats 8000000 in
theorem stepFz (V : Nat) (x : Ins) (K : Kn) (W : World) (D pp m cap n : Nat) (h : FgAt V D pp m cap n K W) (hz : OkF V x) (_ : n < 1000) (_ : D ≤ W.heap.size) :
    Calls Try.prog 63 #[.agg (insV x), .pointer (some ⟨pp, 0, none⟩)] W fun e w' => e = .returned (.agg (insV (foldF K x).2)) ∧ FgAt V D pp m cap (n + 1) (foldF K x).1 w' ∧ KpF D W w' := by
  obtain ⟨cm, hcm, _⟩ := id h.fi
  have hmw := h.fi.lt
  have hpw := hltP h.bx
  have hpm : pp ≠ m := fun e => by
    have := h.bx
    rw [e, hcm] at this
    injection this with this
    injection this with _ e2
    exact absurd e2 (by decide)
  have hw := KI.fold h.ki hz.1
  have FO : Hid (∀ W', FiAt m V K W' → Calls Try.prog 64 #[.slice (some ⟨m, 0, none⟩) V cap, .agg (insV x)] W' fun e w' => e = .returned (.agg (insV (foldX K x))) ∧ Below W'.heap.size W' w') := fun W' h' => folded_any x K W' m V cap h' hz
  have AN : Hid (∀ W', FiAt m V K W' → Calls Try.prog 65 #[.slice (some ⟨m, 0, none⟩) V cap, .agg (insV (foldX K x))] W' fun e w' => (∃ v, e = .returned v) ∧ FiAt m V (setK K (foldX K x)) w' ∧ But m W' w') := fun W' h' => anew_any (foldX K x) K W' m V cap h' hw (foldX_inr hz.2.2.2)
  have KI2 : Hid (KI (setK K (foldX K x))) := h.ki.set hw.1
  have b2 := Bx2.of W (insV x) #[.int .i64 0, .int .i64 0, .int .i64 0, .int .i64 0, .int .i64 0, .int .i64 0, .string ⟨#[]⟩] 48
  have F2 := hideP (h.fi.stays b2.bel)
  have P2 := hideP ((b2.bel.block _ hpw).trans h.bx)
  show Calls _ _ _ _ (fun e w' => e = .returned (.agg (insV (foldX K x))) ∧ FgAt V D pp m cap (n + 1) (setK K (foldX K x)) w' ∧ KpF D W w')
  obtain ⟨Y, hY⟩ : ∃ Y, foldX K x = Y := ⟨_, rfl⟩
  rw [hY] at FO AN KI2 ⊢
  have HLO := hideP h.lo
  have HCM := hideP hcm
  clear hY hw hz h hcm
  obtain ⟨op, d, a, b0, c0, nn, t⟩ := x
  obtain ⟨K2, hK2⟩ : ∃ K2, setK K Y = K2 := ⟨_, rfl⟩
  rw [hK2] at AN KI2 ⊢
  clear hK2
  obtain ⟨yo, yd, ya, yb, yc, yn, yt⟩ := Y
  simp only [insV] at FO AN b2 F2 P2 ⊢
  have S2 := hideP b2
  clear b2
  go_enter Try.func63, Try.ntmps63
  go_upto_region 1 with fail
  obtain ⟨w2, hw2⟩ : ∃ w2, (W.alloc (.cells #[.int .i64 op, .int .i64 d, .int .i64 a, .int .i64 b0, .int .i64 c0, .int .i64 nn, .string t] 48)).alloc (.cells #[.int .i64 0, .int .i64 0, .int .i64 0, .int .i64 0, .int .i64 0, .int .i64 0, .string ⟨#[]⟩] 48) = w2 := ⟨_, rfl⟩
  rw [hw2] at S2 F2 P2 ⊢
  clear hw2
  have fc := (cells_of S2.out.bx).1
  have x0 := fc 0
  have x1 := fc 1
  have x2 := fc 2
  have x3 := fc 3
  have x4 := fc 4
  have x5 := fc 5
  have x6 := fc 6
  simp at x0 x1 x2 x3 x4 x5 x6
  clear fc
  have fc := (cells_of P2.out).1
  have p0 := fc 0
  simp at p0
  clear fc
  go_wp2_with fail
  refine (FO.out _ F2.out).mono ?_
  rintro e3 w3 ⟨rfl, b3⟩
  have S3 := hideP (S2.out.stays b3)
  have F3 := hideP (F2.out.stays b3)
  have P3 := hideP ((b3.block _ (hltP P2.out)).trans P2.out)
  clear FO b3 S2 F2 P2 x0 x1 x2 x3 x4 x5 x6 p0
  have fc := (cells_of S3.out.bx).1
  have x0 := fc 0
  have x1 := fc 1
  have x2 := fc 2
  have x3 := fc 3
  have x4 := fc 4
  have x5 := fc 5
  have x6 := fc 6
  simp at x0 x1 x2 x3 x4 x5 x6
  clear fc
  have xf := (cells_of S3.out.bx).2
  obtain ⟨z4, bu⟩ := put7n S3.out.bx rfl (.int .i64 yo) (.int .i64 yd) (.int .i64 ya) (.int .i64 yb) (.int .i64 yc) (.int .i64 yn) (.string yt)
  have Z4 := hideP z4
  have BU := hideP bu
  clear z4 bu
  go_upto_region 2 with fail
  obtain ⟨w4, hw4⟩ : ∃ w4, ((((((w3.setCell ⟨W.heap.size, 0, none⟩ (.int .i64 yo)).setCell ⟨W.heap.size, 1, none⟩ (.int .i64 yd)).setCell ⟨W.heap.size, 2, none⟩ (.int .i64 ya)).setCell ⟨W.heap.size, 3, none⟩ (.int .i64 yb)).setCell ⟨W.heap.size, 4, none⟩ (.int .i64 yc)).setCell ⟨W.heap.size, 5, none⟩ (.int .i64 yn)).setCell ⟨W.heap.size, 6, none⟩ (.string yt) = w4 := ⟨_, rfl⟩
  rw [hw4] at Z4 BU ⊢
  have R4 := hideP (keepQ BU.out S3.out.br (by omega))
  have F4 := hideP (F3.out.but BU.out (by omega))
  have P4 := hideP (keepQ BU.out P3.out (by omega))
  have B4 := hideP (S3.out.bel.trans (BU.out.below (Nat.le_refl _) S3.out.bel.size))
  clear hw4 BU S3 F3 P3 x0 x1 x2 x3 x4 x5 x6 xf
  have fc := (cells_of Z4.out).1
  have x0 := fc 0
  have x1 := fc 1
  have x2 := fc 2
  have x3 := fc 3
  have x4 := fc 4
  have x5 := fc 5
  have x6 := fc 6
  simp at x0 x1 x2 x3 x4 x5 x6
  clear fc
  have fc := (cells_of P4.out).1
  have p0 := fc 0
  simp at p0
  clear fc
  go_wp2_with fail
  refine (AN.out _ F4.out).mono ?_
  rintro e5 w5 ⟨⟨v5, rfl⟩, f5, b5⟩
  have X5 := hideP (keepQ b5 Z4.out (by omega))
  have R5 := hideP (keepQ b5 R4.out (by omega))
  have P5 := hideP (keepQ b5 P4.out hpm)
  have F5 := hideP f5
  have B5 : Hid (But m W w5) := ⟨b5.os.trans B4.out.os, b5.tape.trans B4.out.tape, b5.output.trans B4.out.output, Nat.le_trans B4.out.size b5.size, fun k hk hne => (b5.block k (Nat.lt_of_lt_of_le hk B4.out.size) hne).trans (B4.out.block k hk)⟩
  clear AN f5 b5 Z4 R4 F4 P4 B4 x0 x1 x2 x3 x4 x5 x6 p0
  have fc := (cells_of X5.out).1
  have x0 := fc 0
  have x1 := fc 1
  have x2 := fc 2
  have x3 := fc 3
  have x4 := fc 4
  have x5 := fc 5
  have x6 := fc 6
  simp at x0 x1 x2 x3 x4 x5 x6
  clear fc
  have fc := (cells_of R5.out).1
  have r0 := fc 0
  have r1 := fc 1
  have r2 := fc 2
  have r3 := fc 3
  have r4 := fc 4
  have r5 := fc 5
  have r6 := fc 6
  simp at r0 r1 r2 r3 r4 r5 r6
  clear fc
  have rf := (cells_of R5.out).2
  obtain ⟨z6, bu⟩ := put7n R5.out rfl (.int .i64 yo) (.int .i64 yd) (.int .i64 ya) (.int .i64 yb) (.int .i64 yc) (.int .i64 yn) (.string yt)
  have ZF := hideP z6
  have BU := hideP bu
  clear z6 bu
  go_wp2
  refine bodyPost_ret (results_cell_row rfl _ _ (W.heap.size + 1) 48 #[.int .i64 yo, .int .i64 yd, .int .i64 ya, .int .i64 yb, .int .i64 yc, .int .i64 yn, .string yt] (0, 0) _ rfl ZF.out Try.underlying48 rfl (by kernel_rfl)) rfl ?_
  have hlo := HLO.out
  have bm : But m W _ := ⟨BU.out.os.trans B5.out.os, BU.out.tape.trans B5.out.tape, BU.out.output.trans B5.out.output, Nat.le_trans B5.out.size BU.out.size, fun k hk hne => (BU.out.block k (Nat.lt_of_lt_of_le hk B5.out.size) (by omega)).trans (B5.out.block k hk hne)⟩
  exact ⟨rfl, ⟨keepQ BU.out P5.out (by omega), F5.out.but BU.out (by omega), hlo, KI2.out⟩, KpF.of bm hlo.2 HCM.out⟩
set_option maxRecDepth 100000 in
set_option maxHeartbeats 8000000 in
theorem jumpFz (V : Nat) (code : List Ins) (jump a t0 els : Int) (K : Kn) (w : World) (D pp m cap n nc kc : Nat) (uc : Option Addr) (h : FgAt V D pp m cap n K w) (_ : I64 a) (hj : jump = 1 → InR V a) :
    Calls Try.prog 66 #[.slice (some ⟨m, 0, none⟩) V cap, .agg #[.slice uc nc kc, .int .i64 jump, .int .i64 a, .int .i64 t0, .int .i64 els]] w fun e w' => JumpD (foldJ K ⟨code, jump, a, t0, els⟩) w e w' := by
  have b2 := Bx2.of w #[.slice uc nc kc, .int .i64 jump, .int .i64 a, .int .i64 t0, .int .i64 els] #[.slice none 0 0, .int .i64 0, .int .i64 0, .int .i64 0, .int .i64 0] 44
  obtain ⟨W2, hW2⟩ : ∃ W2, (w.alloc (.cells #[.slice uc nc kc, .int .i64 jump, .int .i64 a, .int .i64 t0, .int .i64 els] 44)).alloc (.cells #[.slice none 0 0, .int .i64 0, .int .i64 0, .int .i64 0, .int .i64 0] 44) = W2 := ⟨_, rfl⟩
  rw [hW2] at b2
  have S2 := hideP b2
  have HW := hideP hW2
  have F2 := hideP (h.fi.stays b2.bel)
  have GT := hideP goTo_any
  clear b2 hW2 h
  go_enter Try.func66, Try.ntmps66
  go_upto_region 1 with fail
  rw [HW.out]
  clear HW
  have fc := (cells_of S2.out.bx).1
  have x0 := fc 0
  have x1 := fc 1
  have x2 := fc 2
  have x3 := fc 3
  have x4 := fc 4
  simp at x0 x1 x2 x3 x4
  clear fc
  by_cases h1 : jump = 1
  · subst h1
    obtain ⟨an, rfl, han⟩ := inr_nat (hj rfl)
    obtain ⟨v, q0, q1, hv, qf⟩ := F2.out.at han
    obtain ⟨ka, hka⟩ : ∃ ka, (K (an : Int)).isSome = ka := ⟨_, rfl⟩
    rw [hka] at q0
    have HKA := hideP hka
    have HV := hideP hv
    have ai : (an : Int) < (V : Int) := by omega
    clear hka hv
    cases ka with
    | false =>
      have EQ : Hid (foldJ K (⟨code, 1, (an : Int), t0, els⟩ : Blk) = ⟨code, 1, (an : Int), t0, els⟩) := by show _ = _; simp [foldJ, none_of HKA.out]
      have fc := (cells_of S2.out.br).1
      have r0 := fc 0
      have r1 := fc 1
      have r2 := fc 2
      have r3 := fc 3
      have r4 := fc 4
      simp at r0 r1 r2 r3 r4
      clear fc
      have rf := (cells_of S2.out.br).2
      obtain ⟨z4, bu⟩ := put5n S2.out.br rfl (.slice uc nc kc) (.int .i64 1) (.int .i64 (an : Int)) (.int .i64 t0) (.int .i64 els)
      have ZF := hideP z4
      have BU := hideP bu
      clear z4 bu
      go_wp2
      refine bodyPost_ret (results_cell_row rfl _ _ (w.heap.size + 1) 44 #[.slice uc nc kc, .int .i64 1, .int .i64 (an : Int), .int .i64 t0, .int .i64 els] (0, 0) _ rfl ZF.out Try.underlying44 rfl (by kernel_rfl)) rfl ?_
      rw [EQ.out]
      exact ⟨_, _, _, rfl, S2.out.bel.trans (BU.out.below (by omega) S2.out.bel.size)⟩
    | true =>
      by_cases hz : v = 0
      · subst hz
        have EQ : Hid (foldJ K (⟨code, 1, (an : Int), t0, els⟩ : Blk) = ⟨[], 0, 0, els, 0⟩) := by show _ = _; simp [foldJ, some_of HKA.out HV.out]
        go_wp2_with fail
        refine (GT.out _ _).mono ?_
        rintro e3 w3 ⟨rfl, b3⟩
        have S3 := hideP (S2.out.stays b3)
        clear b3 GT
        have fc := (cells_of S3.out.br).1
        have r0 := fc 0
        have r1 := fc 1
        have r2 := fc 2
        have r3 := fc 3
        have r4 := fc 4
        simp at r0 r1 r2 r3 r4
        clear fc
        have rf := (cells_of S3.out.br).2
        obtain ⟨z4, bu⟩ := put5n S3.out.br rfl (.slice none 0 0) (.int .i64 0) (.int .i64 0) (.int .i64 els) (.int .i64 0)
        have ZF := hideP z4
        have BU := hideP bu
        clear z4 bu
        go_wp2
        refine bodyPost_ret (results_cell_row rfl _ _ (w.heap.size + 1) 44 #[.slice none 0 0, .int .i64 0, .int .i64 0, .int .i64 els, .int .i64 0] (0, 0) _ rfl ZF.out Try.underlying44 rfl (by kernel_rfl)) rfl ?_
        rw [EQ.out]
        exact ⟨_, _, _, rfl, S3.out.bel.trans (BU.out.below (by omega) S3.out.bel.size)⟩
      · have hzb : (v == 0) = false := by simpa using hz
        have EQ : Hid (foldJ K (⟨code, 1, (an : Int), t0, els⟩ : Blk) = ⟨[], 0, 0, t0, 0⟩) := by show _ = _; simp [foldJ, some_of HKA.out HV.out, hz]
        go_wp2_with fail
        refine (GT.out _ _).mono ?_
        rintro e3 w3 ⟨rfl, b3⟩
        have S3 := hideP (S2.out.stays b3)
        clear b3 GT
        have fc := (cells_of S3.out.br).1
        have r0 := fc 0
        have r1 := fc 1
        have r2 := fc 2
        have r3 := fc 3
        have r4 := fc 4
        simp at r0 r1 r2 r3 r4
        clear fc
        have rf := (cells_of S3.out.br).2
        obtain ⟨z4, bu⟩ := put5n S3.out.br rfl (.slice none 0 0) (.int .i64 0) (.int .i64 0) (.int .i64 t0) (.int .i64 0)
        have ZF := hideP z4
        have BU := hideP bu
        clear z4 bu
        go_wp2
        refine bodyPost_ret (results_cell_row rfl _ _ (w.heap.size + 1) 44 #[.slice none 0 0, .int .i64 0, .int .i64 0, .int .i64 t0, .int .i64 0] (0, 0) _ rfl ZF.out Try.underlying44 rfl (by kernel_rfl)) rfl ?_
        rw [EQ.out]
        exact ⟨_, _, _, rfl, S3.out.bel.trans (BU.out.below (by omega) S3.out.bel.size)⟩
  · have h1b : (jump == 1) = false := by simpa using h1
    have EQ : Hid (foldJ K (⟨code, jump, a, t0, els⟩ : Blk) = ⟨code, jump, a, t0, els⟩) := by show _ = _; simp [foldJ, h1]
    have fc := (cells_of S2.out.br).1
    have r0 := fc 0
    have r1 := fc 1
    have r2 := fc 2
    have r3 := fc 3
    have r4 := fc 4
    simp at r0 r1 r2 r3 r4
    clear fc
    have rf := (cells_of S2.out.br).2
    obtain ⟨z4, bu⟩ := put5n S2.out.br rfl (.slice uc nc kc) (.int .i64 jump) (.int .i64 a) (.int .i64 t0) (.int .i64 els)
    have ZF := hideP z4
    have BU := hideP bu
    clear z4 bu
    go_wp2
    refine bodyPost_ret (results_cell_row rfl _ _ (w.heap.size + 1) 44 #[.slice uc nc kc, .int .i64 jump, .int .i64 a, .int .i64 t0, .int .i64 els] (0, 0) _ rfl ZF.out Try.underlying44 rfl (by kernel_rfl)) rfl ?_
    rw [EQ.out]
    exact ⟨_, _, _, rfl, S2.out.bel.trans (BU.out.below (by omega) S2.out.bel.size)⟩
set_option maxHeartbeats 4000000 in
theorem folding_any (V D m cap : Nat) (K : Kn) (w : World) (h : FiAt m V K w) (hk : KI K) (hD : D ≤ m) :
    Calls Try.prog 33 #[.slice (some ⟨m, 0, none⟩) V cap] w fun e w' => ∃ pp, e = .returned (.agg #[.func (.func 63) #[] #[.pointer (some ⟨pp, 0, none⟩)], .func (.func 66) #[.slice (some ⟨m, 0, none⟩) V cap] #[]]) ∧ FgAt V D pp m cap 0 K w' ∧ Below w.heap.size w w' := by
  have hlt := h.lt
  have bel := below2 w (.cells #[.slice (some ⟨m, 0, none⟩) V cap] 59) (.cells #[.func (.func 63) #[] #[.pointer (some ⟨w.heap.size, 0, none⟩)], .func (.func 66) #[.slice (some ⟨m, 0, none⟩) V cap] #[]] 56)
  have BEL := hideP bel
  have N0 : ((w.alloc (.cells #[.slice (some ⟨m, 0, none⟩) V cap] 59)).alloc (.cells #[.func (.func 63) #[] #[.pointer (some ⟨w.heap.size, 0, none⟩)], .func (.func 66) #[.slice (some ⟨m, 0, none⟩) V cap] #[]] 56)).heap[w.heap.size]? = some (.cells #[.slice (some ⟨m, 0, none⟩) V cap] 59 (0, 0)) := heap_alloc2_old w _ _
  have N1 : Hid (((w.alloc (.cells #[.slice (some ⟨m, 0, none⟩) V cap] 59)).alloc (.cells #[.func (.func 63) #[] #[.pointer (some ⟨w.heap.size, 0, none⟩)], .func (.func 66) #[.slice (some ⟨m, 0, none⟩) V cap] #[]] 56)).heap[w.heap.size + 1]? = some (.cells #[.func (.func 63) #[] #[.pointer (some ⟨w.heap.size, 0, none⟩)], .func (.func 66) #[.slice (some ⟨m, 0, none⟩) V cap] #[]] 56 (0, 0))) := by
    have := newB1 (w.alloc (.cells #[.slice (some ⟨m, 0, none⟩) V cap] 59)) (.cells #[.func (.func 63) #[] #[.pointer (some ⟨w.heap.size, 0, none⟩)], .func (.func 66) #[.slice (some ⟨m, 0, none⟩) V cap] #[]] 56)
    rw [World.size_alloc] at this
    exact this
  have FG : Hid (FgAt V D w.heap.size m cap 0 K ((w.alloc (.cells #[.slice (some ⟨m, 0, none⟩) V cap] 59)).alloc (.cells #[.func (.func 63) #[] #[.pointer (some ⟨w.heap.size, 0, none⟩)], .func (.func 66) #[.slice (some ⟨m, 0, none⟩) V cap] #[]] 56))) := ⟨N0, h.stays bel, ⟨by omega, hD⟩, hk⟩
  clear N0 bel h hk
  go_enter Try.func33, Try.ntmps33
  go_wp2
  refine bodyPost_ret (results_cell_row rfl _ _ (w.heap.size + 1) 56 #[.func (.func 63) #[] #[.pointer (some ⟨w.heap.size, 0, none⟩)], .func (.func 66) #[.slice (some ⟨m, 0, none⟩) V cap] #[]] (0, 0) _ rfl N1.out Try.underlying56 rfl (by kernel_rfl)) rfl ?_
  exact ⟨w.heap.size, rfl, FG.out, BEL.out⟩
end Go.Proofs.Ytjmclmbepnbeoaa
