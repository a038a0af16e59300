/- The contract of spec.l09Step (written by wip/mkflds.py). -/
import Derived.Test.YtjmclmbepnbeoaaFldPG
import Derived.Test.YtjmclmbepnbeoaaDefS
import Derived.Test.YtjmclmbepnbeoaaRowA
import Derived.Test.YtjmclmbepnbeoaaUseA
import Derived.Test.YtjmclmbepnbeoaaSymAll
import Derived.Deep.RegionHeld3
import Derived.Conc.WalkWords
namespace Go.Proofs.Ytjmclmbepnbeoaa
open Go.ChangeShapes Go.WideShapes Go.ChangeAt Go.RowKit
theorem But2.of2 {a b : Nat} {w w' : World} (h : But b w w') : But2 a b w w' := ⟨h.os, h.tape, h.output, h.size, fun k hk _ h2 => h.block k hk h2⟩
theorem But2.high {a b g : Nat} {w w1 w2 : World} (h : But2 a b w w1) (hb : But g w1 w2) (hg : w.heap.size ≤ g) : But2 a b w w2 := ⟨hb.os.trans h.os, hb.tape.trans h.tape, hb.output.trans h.output, Nat.le_trans h.size hb.size, fun k hk h1 h2 => (hb.block k (Nat.lt_of_lt_of_le hk h.size) (by omega)).trans (h.block k hk h1 h2)⟩
/-- What it tells, and what is known then. -/
def StepD (kb vb V : Nat) (K : Kn) (x : Ins) (w : World) (e : Ending) (w' : World) : Prop := e = .returned (.agg (insV (foldX K x))) ∧ KnAt kb vb V (setK K (foldX K x)) w' ∧ But2 kb vb w w'
/-- Between the parts: the boxes, what is known. -/
structure StAt (kb vb V : Nat) (K : Kn) (w : World) (y : Array Value) (W : World) : Prop where
  bx : W.heap[w.heap.size]? = some (.cells y 48 (0, 0))
  br : W.heap[w.heap.size + 1]? = some (.cells #[.int .i64 0, .int .i64 0, .int .i64 0, .int .i64 0, .int .i64 0, .int .i64 0, .string ⟨#[]⟩] 48 (0, 0))
  kn : KnAt kb vb V K W
  bel : Below w.heap.size w W
theorem StAt.stays {kb vb V : Nat} {K : Kn} {w W W' : World} {y : Array Value} (h : StAt kb vb V K w y W) (b : Below W.heap.size W W') : StAt kb vb V K w y W' :=
  ⟨(b.block _ (Array.getElem?_eq_some_iff.1 h.bx).1).trans h.bx, (b.block _ (Array.getElem?_eq_some_iff.1 h.br).1).trans h.br, h.kn.stays b, below_trans h.bel b⟩
theorem StAt.box {kb vb V : Nat} {K : Kn} {w W W' : World} {y y' : Array Value} (h : StAt kb vb V K w y W) (hk : kb < w.heap.size ∧ vb < w.heap.size) (b : But w.heap.size W W') (hb : W'.heap[w.heap.size]? = some (.cells y' 48 (0, 0))) : StAt kb vb V K w y' W' :=
  ⟨hb, keepQ b h.br (by omega), h.kn.but b (by omega) (by omega), h.bel.trans (b.below (Nat.le_refl _) h.bel.size)⟩

set_option maxRecDepth 100000 in
set_option maxHeartbeats 16000000 in
theorem l09Step_any (x : Ins) (K : Kn) (V : Nat) (w : World) (kb vb ck cv : Nat) (h : KnAt kb vb V K w) (hu : ∀ s ∈ usesP x, 0 ≤ s ∧ s < V) (hd : ¬ (x.op = 4 ∨ x.op = 6) → 0 ≤ x.d ∧ x.d < V) :
    Calls Try.prog 28 #[.agg (insV x), .slice (some ⟨kb, 0, none⟩) V ck, .slice (some ⟨vb, 0, none⟩) V cv] w fun e w' => StepD kb vb V K x w e w' := by
  obtain ⟨op, d, a, b0, c0, nn, t⟩ := x
  simp only [insV]
  simp only at hd
  have hlt := h.lt
  have al := below2 w (.cells #[.int .i64 op, .int .i64 d, .int .i64 a, .int .i64 b0, .int .i64 c0, .int .i64 nn, .string t] 48) (.cells #[.int .i64 0, .int .i64 0, .int .i64 0, .int .i64 0, .int .i64 0, .int .i64 0, .string ⟨#[]⟩] 48)
  have tw := bxx2 w (.cells #[.int .i64 op, .int .i64 d, .int .i64 a, .int .i64 b0, .int .i64 c0, .int .i64 nn, .string t] 48) (.cells #[.int .i64 0, .int .i64 0, .int .i64 0, .int .i64 0, .int .i64 0, .int .i64 0, .string ⟨#[]⟩] 48)
  obtain ⟨W2, hW2⟩ : ∃ W2, (w.alloc (.cells #[.int .i64 op, .int .i64 d, .int .i64 a, .int .i64 b0, .int .i64 c0, .int .i64 nn, .string t] 48)).alloc (.cells #[.int .i64 0, .int .i64 0, .int .i64 0, .int .i64 0, .int .i64 0, .int .i64 0, .string ⟨#[]⟩] 48) = W2 := ⟨_, rfl⟩
  rw [hW2] at al tw
  have S2 : Hid (StAt kb vb V K w #[.int .i64 op, .int .i64 d, .int .i64 a, .int .i64 b0, .int .i64 c0, .int .i64 nn, .string t] W2) := ⟨tw.1, tw.2.1, h.stays al, al⟩
  have HW := hideP hW2
  clear al tw hW2 h
  go_enter Try.func28, Try.ntmps28
  go_upto_region 1 with fail
  rw [HW.out]
  clear HW
  by_cases h1 : op = 1
  · subst h1
    obtain ⟨an, rfl⟩ : ∃ an : Nat, a = an := ⟨a.toNat, by have := hu a (by simp [usesP]); omega⟩
    have han : an < V := by have := hu an (by simp [usesP]); omega
    obtain ⟨dn, rfl⟩ : ∃ dn : Nat, d = dn := ⟨d.toNat, by have := hd (by omega); omega⟩
    have hdn : dn < V := by have := hd (by omega); omega
    cases hK : K an with
    | none =>
      have EQ : Hid (foldX K (⟨1, (dn : Int), (an : Int), b0, c0, nn, t⟩ : Ins) = (⟨1, (dn : Int), (an : Int), b0, c0, nn, t⟩ : Ins)) := by show _ = _; simp [foldX, hK]
      obtain ⟨k0, kf⟩ := S2.out.kn.has han
      rw [hK] at k0
      simp at k0
      have fc := (cells_of S2.out.bx).1
      have x0 := fc 0
      have x1 := fc 1
      have x2 := fc 2
      have x3 := fc 3
      have x4 := fc 4
      have x5 := fc 5
      have x6 := fc 6
      simp at x0 x1 x2 x3 x4 x5 x6
      clear fc
      have xf := (cells_of S2.out.bx).2
      go_upto_region 5 with fail
      clear k0 kf
      clear x0 x1 x2 x3 x4 x5 x6 xf
      obtain ⟨W3, hW3⟩ : ∃ W3, W2 = W3 := ⟨_, rfl⟩
      rw [hW3] at S2 ⊢
      have S3 := hideP S2.out
      clear S2 hW3
      have fc := (cells_of S3.out.bx).1
      have f0 := fc 0
      have f1 := fc 1
      have f2 := fc 2
      have f3 := fc 3
      have f4 := fc 4
      have f5 := fc 5
      have f6 := fc 6
      simp at f0 f1 f2 f3 f4 f5 f6
      clear fc
      have de : Calls Try.prog 58 #[.agg #[.int .i64 1, .int .i64 (dn : Int), .int .i64 (an : Int), .int .i64 b0, .int .i64 c0, .int .i64 nn, .string t]] W3 fun e w' => e = .returned (.bool true) ∧ Below W3.heap.size W3 w' := by
        have := def_any (⟨1, (dn : Int), (an : Int), b0, c0, nn, t⟩ : Ins) W3
        simp only [insV] at this
        simpa using this
      have DE := hideP de
      clear de
      go_wp2_with fail
      refine DE.out.mono ?_
      rintro e4 w4 ⟨rfl, b4⟩
      have S4 := hideP (S3.out.stays b4)
      clear b4 f0 f1 f2 f3 f4 f5 f6 S3 DE
      have fc := (cells_of S4.out.bx).1
      have f0 := fc 0
      have f1 := fc 1
      have f2 := fc 2
      have f3 := fc 3
      have f4 := fc 4
      have f5 := fc 5
      have f6 := fc 6
      simp at f0 f1 f2 f3 f4 f5 f6
      clear fc
      obtain ⟨k1, kf1⟩ := S4.out.kn.has hdn
      obtain ⟨u1, v1, _, vf1⟩ := S4.out.kn.val hdn
      go_upto_region 7 with fail
      have b5 : But kb w4 (w4.setCell ⟨kb, dn, none⟩ (.bool false)) := (But.refl kb w4).set _ _
      have X5 := hideP (keepQ b5 S4.out.bx (by omega))
      have V5 := (World.cell?_of_block (a := ⟨vb, dn, none⟩) (b5.block vb S4.out.kn.lt.2 (fun e => S4.out.kn.ne e.symm))).trans v1
      have VF5 : ∀ i, (w4.setCell ⟨kb, dn, none⟩ (.bool false)).frozen? ⟨vb, i, none⟩ = false := by
        obtain ⟨cw, q1, _⟩ := S4.out.kn.vl
        exact (cells_of (keepQ b5 q1 (fun e => S4.out.kn.ne e.symm))).2
      have K6 : Hid (KnAt kb vb V (fun s => if s = (dn : Int) then none else K s) ((w4.setCell ⟨kb, dn, none⟩ (.bool false)).setCell ⟨vb, dn, none⟩ (.int .i64 nn))) := S4.out.kn.set hdn (v := nn) (k := none) (fun u hu => by cases hu)
      have b6 : But vb (w4.setCell ⟨kb, dn, none⟩ (.bool false)) ((w4.setCell ⟨kb, dn, none⟩ (.bool false)).setCell ⟨vb, dn, none⟩ (.int .i64 nn)) := (But.refl vb _).set _ _
      have X6 := hideP (keepQ b6 X5.out (by omega))
      have R6 := hideP (keepQ b6 (keepQ b5 S4.out.br (by omega)) (by omega))
      have B6 : Hid (But2 kb vb w ((w4.setCell ⟨kb, dn, none⟩ (.bool false)).setCell ⟨vb, dn, none⟩ (.int .i64 nn))) := ((But2.ofB S4.out.bel).trans (But2.of1 b5)).trans (But2.of2 b6)
      obtain ⟨W5, hW5⟩ : ∃ W5, w4.setCell ⟨kb, dn, none⟩ (.bool false) = W5 := ⟨_, rfl⟩
      rw [hW5] at X5 V5 VF5 K6 X6 R6 B6 ⊢
      clear f0 f1 f2 f3 f4 f5 f6 k1 kf1 v1 vf1 b5 b6 hW5 S4
      have fc := (cells_of X5.out).1
      have f0 := fc 0
      have f1 := fc 1
      have f2 := fc 2
      have f3 := fc 3
      have f4 := fc 4
      have f5 := fc 5
      have f6 := fc 6
      simp at f0 f1 f2 f3 f4 f5 f6
      clear fc
      go_upto_region 8 with fail
      obtain ⟨W6, hW6⟩ : ∃ W6, W5.setCell ⟨vb, dn, none⟩ (.int .i64 nn) = W6 := ⟨_, rfl⟩
      rw [hW6] at K6 X6 R6 B6 ⊢
      clear f0 f1 f2 f3 f4 f5 f6 V5 VF5 X5 hW6
      have fc := (cells_of X6.out).1
      have f0 := fc 0
      have f1 := fc 1
      have f2 := fc 2
      have f3 := fc 3
      have f4 := fc 4
      have f5 := fc 5
      have f6 := fc 6
      simp at f0 f1 f2 f3 f4 f5 f6
      clear fc
      have fc := (cells_of R6.out).1
      have r0 := fc 0
      have r1 := fc 1
      have r2 := fc 2
      have r3 := fc 3
      have r4 := fc 4
      have r5 := fc 5
      have r6 := fc 6
      simp at r0 r1 r2 r3 r4 r5 r6
      clear fc
      have rf := (cells_of R6.out).2
      obtain ⟨z6, bu⟩ := put7n R6.out rfl (.int .i64 1) (.int .i64 (dn : Int)) (.int .i64 (an : Int)) (.int .i64 b0) (.int .i64 c0) (.int .i64 nn) (.string t)
      have ZF := hideP z6
      have BU := hideP bu
      clear z6 bu
      go_wp2
      refine bodyPost_ret (results_cell_row rfl _ _ (w.heap.size + 1) 48 #[.int .i64 1, .int .i64 (dn : Int), .int .i64 (an : Int), .int .i64 b0, .int .i64 c0, .int .i64 nn, .string t] (0, 0) _ rfl ZF.out Try.underlying48 rfl (by kernel_rfl)) rfl ?_
      unfold StepD
      rw [EQ.out]
      refine ⟨rfl, ?_, B6.out.high BU.out (Nat.le_succ _)⟩
      have := K6.out.but BU.out (by omega) (by omega)
      have e9 : setK K (⟨1, (dn : Int), (an : Int), b0, c0, nn, t⟩ : Ins) = (fun s => if s = (dn : Int) then none else K s) := by simp [setK]
      rw [e9]
      exact this
    | some v =>
      have EQ : Hid (foldX K (⟨1, (dn : Int), (an : Int), b0, c0, nn, t⟩ : Ins) = (⟨0, (dn : Int), 0, 0, 0, v, ⟨#[]⟩⟩ : Ins)) := by show _ = _; simp [foldX, hK]
      obtain ⟨k0, kf⟩ := S2.out.kn.has han
      rw [hK] at k0
      simp at k0
      obtain ⟨u, v0, hv, vf⟩ := S2.out.kn.val han
      obtain rfl : u = v := hv v hK
      have fc := (cells_of S2.out.bx).1
      have x0 := fc 0
      have x1 := fc 1
      have x2 := fc 2
      have x3 := fc 3
      have x4 := fc 4
      have x5 := fc 5
      have x6 := fc 6
      simp at x0 x1 x2 x3 x4 x5 x6
      clear fc
      have xf := (cells_of S2.out.bx).2
      go_upto_region 2 with fail
      go_region
      obtain ⟨W3, hW3⟩ : ∃ W3, (((((((W2.setCell ⟨w.heap.size, 0, none⟩ (.int .i64 0)).setCell ⟨w.heap.size, 1, none⟩ (.int .i64 (dn : Int))).setCell ⟨w.heap.size, 2, none⟩ (.int .i64 0)).setCell ⟨w.heap.size, 3, none⟩ (.int .i64 0)).setCell ⟨w.heap.size, 4, none⟩ (.int .i64 0)).setCell ⟨w.heap.size, 5, none⟩ (.int .i64 u)).setCell ⟨w.heap.size, 6, none⟩ (.string ⟨#[]⟩)).drew = W3 := ⟨_, rfl⟩
      rw [hW3]
      obtain ⟨z6, bq⟩ := put7 S2.out.bx rfl _ _ _ _ _ _ _ hW3
      have S3 : Hid (StAt kb vb V K w #[.int .i64 0, .int .i64 (dn : Int), .int .i64 0, .int .i64 0, .int .i64 0, .int .i64 u, .string ⟨#[]⟩] W3) := S2.out.box hlt bq z6
      clear hW3 z6 bq S2 x0 x1 x2 x3 x4 x5 x6 xf
      clear k0 kf v0 vf hv
      have fc := (cells_of S3.out.bx).1
      have f0 := fc 0
      have f1 := fc 1
      have f2 := fc 2
      have f3 := fc 3
      have f4 := fc 4
      have f5 := fc 5
      have f6 := fc 6
      simp at f0 f1 f2 f3 f4 f5 f6
      clear fc
      have de : Calls Try.prog 58 #[.agg #[.int .i64 0, .int .i64 (dn : Int), .int .i64 0, .int .i64 0, .int .i64 0, .int .i64 u, .string ⟨#[]⟩]] W3 fun e w' => e = .returned (.bool true) ∧ Below W3.heap.size W3 w' := by
        have := def_any (⟨0, (dn : Int), 0, 0, 0, u, ⟨#[]⟩⟩ : Ins) W3
        simp only [insV] at this
        simpa using this
      have DE := hideP de
      clear de
      go_wp2_with fail
      refine DE.out.mono ?_
      rintro e4 w4 ⟨rfl, b4⟩
      have S4 := hideP (S3.out.stays b4)
      clear b4 f0 f1 f2 f3 f4 f5 f6 S3 DE
      have fc := (cells_of S4.out.bx).1
      have f0 := fc 0
      have f1 := fc 1
      have f2 := fc 2
      have f3 := fc 3
      have f4 := fc 4
      have f5 := fc 5
      have f6 := fc 6
      simp at f0 f1 f2 f3 f4 f5 f6
      clear fc
      obtain ⟨k1, kf1⟩ := S4.out.kn.has hdn
      obtain ⟨u1, v1, _, vf1⟩ := S4.out.kn.val hdn
      go_upto_region 7 with fail
      have b5 : But kb w4 (w4.setCell ⟨kb, dn, none⟩ (.bool true)) := (But.refl kb w4).set _ _
      have X5 := hideP (keepQ b5 S4.out.bx (by omega))
      have V5 := (World.cell?_of_block (a := ⟨vb, dn, none⟩) (b5.block vb S4.out.kn.lt.2 (fun e => S4.out.kn.ne e.symm))).trans v1
      have VF5 : ∀ i, (w4.setCell ⟨kb, dn, none⟩ (.bool true)).frozen? ⟨vb, i, none⟩ = false := by
        obtain ⟨cw, q1, _⟩ := S4.out.kn.vl
        exact (cells_of (keepQ b5 q1 (fun e => S4.out.kn.ne e.symm))).2
      have K6 : Hid (KnAt kb vb V (fun s => if s = (dn : Int) then (some u) else K s) ((w4.setCell ⟨kb, dn, none⟩ (.bool true)).setCell ⟨vb, dn, none⟩ (.int .i64 u))) := S4.out.kn.set hdn (v := u) (k := (some u)) (fun u hu => by cases hu; rfl)
      have b6 : But vb (w4.setCell ⟨kb, dn, none⟩ (.bool true)) ((w4.setCell ⟨kb, dn, none⟩ (.bool true)).setCell ⟨vb, dn, none⟩ (.int .i64 u)) := (But.refl vb _).set _ _
      have X6 := hideP (keepQ b6 X5.out (by omega))
      have R6 := hideP (keepQ b6 (keepQ b5 S4.out.br (by omega)) (by omega))
      have B6 : Hid (But2 kb vb w ((w4.setCell ⟨kb, dn, none⟩ (.bool true)).setCell ⟨vb, dn, none⟩ (.int .i64 u))) := ((But2.ofB S4.out.bel).trans (But2.of1 b5)).trans (But2.of2 b6)
      obtain ⟨W5, hW5⟩ : ∃ W5, w4.setCell ⟨kb, dn, none⟩ (.bool true) = W5 := ⟨_, rfl⟩
      rw [hW5] at X5 V5 VF5 K6 X6 R6 B6 ⊢
      clear f0 f1 f2 f3 f4 f5 f6 k1 kf1 v1 vf1 b5 b6 hW5 S4
      have fc := (cells_of X5.out).1
      have f0 := fc 0
      have f1 := fc 1
      have f2 := fc 2
      have f3 := fc 3
      have f4 := fc 4
      have f5 := fc 5
      have f6 := fc 6
      simp at f0 f1 f2 f3 f4 f5 f6
      clear fc
      go_upto_region 8 with fail
      obtain ⟨W6, hW6⟩ : ∃ W6, W5.setCell ⟨vb, dn, none⟩ (.int .i64 u) = W6 := ⟨_, rfl⟩
      rw [hW6] at K6 X6 R6 B6 ⊢
      clear f0 f1 f2 f3 f4 f5 f6 V5 VF5 X5 hW6
      have fc := (cells_of X6.out).1
      have f0 := fc 0
      have f1 := fc 1
      have f2 := fc 2
      have f3 := fc 3
      have f4 := fc 4
      have f5 := fc 5
      have f6 := fc 6
      simp at f0 f1 f2 f3 f4 f5 f6
      clear fc
      have fc := (cells_of R6.out).1
      have r0 := fc 0
      have r1 := fc 1
      have r2 := fc 2
      have r3 := fc 3
      have r4 := fc 4
      have r5 := fc 5
      have r6 := fc 6
      simp at r0 r1 r2 r3 r4 r5 r6
      clear fc
      have rf := (cells_of R6.out).2
      obtain ⟨z6, bu⟩ := put7n R6.out rfl (.int .i64 0) (.int .i64 (dn : Int)) (.int .i64 0) (.int .i64 0) (.int .i64 0) (.int .i64 u) (.string ⟨#[]⟩)
      have ZF := hideP z6
      have BU := hideP bu
      clear z6 bu
      go_wp2
      refine bodyPost_ret (results_cell_row rfl _ _ (w.heap.size + 1) 48 #[.int .i64 0, .int .i64 (dn : Int), .int .i64 0, .int .i64 0, .int .i64 0, .int .i64 u, .string ⟨#[]⟩] (0, 0) _ rfl ZF.out Try.underlying48 rfl (by kernel_rfl)) rfl ?_
      unfold StepD
      rw [EQ.out]
      refine ⟨rfl, ?_, B6.out.high BU.out (Nat.le_succ _)⟩
      have := K6.out.but BU.out (by omega) (by omega)
      have e9 : setK K (⟨0, (dn : Int), 0, 0, 0, u, ⟨#[]⟩⟩ : Ins) = (fun s => if s = (dn : Int) then (some u) else K s) := by simp [setK]
      rw [e9]
      exact this
  · have h1b : (op == 1) = false := by simpa using h1
    by_cases h2 : op = 2
    · subst h2
      obtain ⟨an, rfl⟩ : ∃ an : Nat, a = an := ⟨a.toNat, by have := hu a (by simp [usesP]); omega⟩
      have han : an < V := by have := hu an (by simp [usesP]); omega
      obtain ⟨bn, rfl⟩ : ∃ bn : Nat, b0 = bn := ⟨b0.toNat, by have := hu b0 (by simp [usesP]); omega⟩
      have hbn : bn < V := by have := hu bn (by simp [usesP]); omega
      obtain ⟨dn, rfl⟩ : ∃ dn : Nat, d = dn := ⟨d.toNat, by have := hd (by omega); omega⟩
      have hdn : dn < V := by have := hd (by omega); omega
      cases hK : K an with
      | none =>
        have EQ : Hid (foldX K (⟨2, (dn : Int), (an : Int), (bn : Int), c0, nn, t⟩ : Ins) = (⟨2, (dn : Int), (an : Int), (bn : Int), c0, nn, t⟩ : Ins)) := by show _ = _; simp [foldX, hK]
        obtain ⟨k0, kf⟩ := S2.out.kn.has han
        rw [hK] at k0
        simp at k0
        have fc := (cells_of S2.out.bx).1
        have x0 := fc 0
        have x1 := fc 1
        have x2 := fc 2
        have x3 := fc 3
        have x4 := fc 4
        have x5 := fc 5
        have x6 := fc 6
        simp at x0 x1 x2 x3 x4 x5 x6
        clear fc
        have xf := (cells_of S2.out.bx).2
        go_upto_region 5 with fail
        clear k0 kf
        clear x0 x1 x2 x3 x4 x5 x6 xf
        obtain ⟨W3, hW3⟩ : ∃ W3, W2 = W3 := ⟨_, rfl⟩
        rw [hW3] at S2 ⊢
        have S3 := hideP S2.out
        clear S2 hW3
        have fc := (cells_of S3.out.bx).1
        have f0 := fc 0
        have f1 := fc 1
        have f2 := fc 2
        have f3 := fc 3
        have f4 := fc 4
        have f5 := fc 5
        have f6 := fc 6
        simp at f0 f1 f2 f3 f4 f5 f6
        clear fc
        have de : Calls Try.prog 58 #[.agg #[.int .i64 2, .int .i64 (dn : Int), .int .i64 (an : Int), .int .i64 (bn : Int), .int .i64 c0, .int .i64 nn, .string t]] W3 fun e w' => e = .returned (.bool true) ∧ Below W3.heap.size W3 w' := by
          have := def_any (⟨2, (dn : Int), (an : Int), (bn : Int), c0, nn, t⟩ : Ins) W3
          simp only [insV] at this
          simpa using this
        have DE := hideP de
        clear de
        go_wp2_with fail
        refine DE.out.mono ?_
        rintro e4 w4 ⟨rfl, b4⟩
        have S4 := hideP (S3.out.stays b4)
        clear b4 f0 f1 f2 f3 f4 f5 f6 S3 DE
        have fc := (cells_of S4.out.bx).1
        have f0 := fc 0
        have f1 := fc 1
        have f2 := fc 2
        have f3 := fc 3
        have f4 := fc 4
        have f5 := fc 5
        have f6 := fc 6
        simp at f0 f1 f2 f3 f4 f5 f6
        clear fc
        obtain ⟨k1, kf1⟩ := S4.out.kn.has hdn
        obtain ⟨u1, v1, _, vf1⟩ := S4.out.kn.val hdn
        go_upto_region 7 with fail
        have b5 : But kb w4 (w4.setCell ⟨kb, dn, none⟩ (.bool false)) := (But.refl kb w4).set _ _
        have X5 := hideP (keepQ b5 S4.out.bx (by omega))
        have V5 := (World.cell?_of_block (a := ⟨vb, dn, none⟩) (b5.block vb S4.out.kn.lt.2 (fun e => S4.out.kn.ne e.symm))).trans v1
        have VF5 : ∀ i, (w4.setCell ⟨kb, dn, none⟩ (.bool false)).frozen? ⟨vb, i, none⟩ = false := by
          obtain ⟨cw, q1, _⟩ := S4.out.kn.vl
          exact (cells_of (keepQ b5 q1 (fun e => S4.out.kn.ne e.symm))).2
        have K6 : Hid (KnAt kb vb V (fun s => if s = (dn : Int) then none else K s) ((w4.setCell ⟨kb, dn, none⟩ (.bool false)).setCell ⟨vb, dn, none⟩ (.int .i64 nn))) := S4.out.kn.set hdn (v := nn) (k := none) (fun u hu => by cases hu)
        have b6 : But vb (w4.setCell ⟨kb, dn, none⟩ (.bool false)) ((w4.setCell ⟨kb, dn, none⟩ (.bool false)).setCell ⟨vb, dn, none⟩ (.int .i64 nn)) := (But.refl vb _).set _ _
        have X6 := hideP (keepQ b6 X5.out (by omega))
        have R6 := hideP (keepQ b6 (keepQ b5 S4.out.br (by omega)) (by omega))
        have B6 : Hid (But2 kb vb w ((w4.setCell ⟨kb, dn, none⟩ (.bool false)).setCell ⟨vb, dn, none⟩ (.int .i64 nn))) := ((But2.ofB S4.out.bel).trans (But2.of1 b5)).trans (But2.of2 b6)
        obtain ⟨W5, hW5⟩ : ∃ W5, w4.setCell ⟨kb, dn, none⟩ (.bool false) = W5 := ⟨_, rfl⟩
        rw [hW5] at X5 V5 VF5 K6 X6 R6 B6 ⊢
        clear f0 f1 f2 f3 f4 f5 f6 k1 kf1 v1 vf1 b5 b6 hW5 S4
        have fc := (cells_of X5.out).1
        have f0 := fc 0
        have f1 := fc 1
        have f2 := fc 2
        have f3 := fc 3
        have f4 := fc 4
        have f5 := fc 5
        have f6 := fc 6
        simp at f0 f1 f2 f3 f4 f5 f6
        clear fc
        go_upto_region 8 with fail
        obtain ⟨W6, hW6⟩ : ∃ W6, W5.setCell ⟨vb, dn, none⟩ (.int .i64 nn) = W6 := ⟨_, rfl⟩
        rw [hW6] at K6 X6 R6 B6 ⊢
        clear f0 f1 f2 f3 f4 f5 f6 V5 VF5 X5 hW6
        have fc := (cells_of X6.out).1
        have f0 := fc 0
        have f1 := fc 1
        have f2 := fc 2
        have f3 := fc 3
        have f4 := fc 4
        have f5 := fc 5
        have f6 := fc 6
        simp at f0 f1 f2 f3 f4 f5 f6
        clear fc
        have fc := (cells_of R6.out).1
        have r0 := fc 0
        have r1 := fc 1
        have r2 := fc 2
        have r3 := fc 3
        have r4 := fc 4
        have r5 := fc 5
        have r6 := fc 6
        simp at r0 r1 r2 r3 r4 r5 r6
        clear fc
        have rf := (cells_of R6.out).2
        obtain ⟨z6, bu⟩ := put7n R6.out rfl (.int .i64 2) (.int .i64 (dn : Int)) (.int .i64 (an : Int)) (.int .i64 (bn : Int)) (.int .i64 c0) (.int .i64 nn) (.string t)
        have ZF := hideP z6
        have BU := hideP bu
        clear z6 bu
        go_wp2
        refine bodyPost_ret (results_cell_row rfl _ _ (w.heap.size + 1) 48 #[.int .i64 2, .int .i64 (dn : Int), .int .i64 (an : Int), .int .i64 (bn : Int), .int .i64 c0, .int .i64 nn, .string t] (0, 0) _ rfl ZF.out Try.underlying48 rfl (by kernel_rfl)) rfl ?_
        unfold StepD
        rw [EQ.out]
        refine ⟨rfl, ?_, B6.out.high BU.out (Nat.le_succ _)⟩
        have := K6.out.but BU.out (by omega) (by omega)
        have e9 : setK K (⟨2, (dn : Int), (an : Int), (bn : Int), c0, nn, t⟩ : Ins) = (fun s => if s = (dn : Int) then none else K s) := by simp [setK]
        rw [e9]
        exact this
      | some v =>
        cases hB : K bn with
        | none =>
          have EQ : Hid (foldX K (⟨2, (dn : Int), (an : Int), (bn : Int), c0, nn, t⟩ : Ins) = (⟨2, (dn : Int), (an : Int), (bn : Int), c0, nn, t⟩ : Ins)) := by show _ = _; simp [foldX, hK, hB]
          obtain ⟨k0, kf⟩ := S2.out.kn.has han
          rw [hK] at k0
          simp at k0
          obtain ⟨m0, mf⟩ := S2.out.kn.has hbn
          rw [hB] at m0
          simp at m0
          have fc := (cells_of S2.out.bx).1
          have x0 := fc 0
          have x1 := fc 1
          have x2 := fc 2
          have x3 := fc 3
          have x4 := fc 4
          have x5 := fc 5
          have x6 := fc 6
          simp at x0 x1 x2 x3 x4 x5 x6
          clear fc
          have xf := (cells_of S2.out.bx).2
          go_upto_region 5 with fail
          clear k0 kf m0 mf
          clear x0 x1 x2 x3 x4 x5 x6 xf
          obtain ⟨W3, hW3⟩ : ∃ W3, W2 = W3 := ⟨_, rfl⟩
          rw [hW3] at S2 ⊢
          have S3 := hideP S2.out
          clear S2 hW3
          have fc := (cells_of S3.out.bx).1
          have f0 := fc 0
          have f1 := fc 1
          have f2 := fc 2
          have f3 := fc 3
          have f4 := fc 4
          have f5 := fc 5
          have f6 := fc 6
          simp at f0 f1 f2 f3 f4 f5 f6
          clear fc
          have de : Calls Try.prog 58 #[.agg #[.int .i64 2, .int .i64 (dn : Int), .int .i64 (an : Int), .int .i64 (bn : Int), .int .i64 c0, .int .i64 nn, .string t]] W3 fun e w' => e = .returned (.bool true) ∧ Below W3.heap.size W3 w' := by
            have := def_any (⟨2, (dn : Int), (an : Int), (bn : Int), c0, nn, t⟩ : Ins) W3
            simp only [insV] at this
            simpa using this
          have DE := hideP de
          clear de
          go_wp2_with fail
          refine DE.out.mono ?_
          rintro e4 w4 ⟨rfl, b4⟩
          have S4 := hideP (S3.out.stays b4)
          clear b4 f0 f1 f2 f3 f4 f5 f6 S3 DE
          have fc := (cells_of S4.out.bx).1
          have f0 := fc 0
          have f1 := fc 1
          have f2 := fc 2
          have f3 := fc 3
          have f4 := fc 4
          have f5 := fc 5
          have f6 := fc 6
          simp at f0 f1 f2 f3 f4 f5 f6
          clear fc
          obtain ⟨k1, kf1⟩ := S4.out.kn.has hdn
          obtain ⟨u1, v1, _, vf1⟩ := S4.out.kn.val hdn
          go_upto_region 7 with fail
          have b5 : But kb w4 (w4.setCell ⟨kb, dn, none⟩ (.bool false)) := (But.refl kb w4).set _ _
          have X5 := hideP (keepQ b5 S4.out.bx (by omega))
          have V5 := (World.cell?_of_block (a := ⟨vb, dn, none⟩) (b5.block vb S4.out.kn.lt.2 (fun e => S4.out.kn.ne e.symm))).trans v1
          have VF5 : ∀ i, (w4.setCell ⟨kb, dn, none⟩ (.bool false)).frozen? ⟨vb, i, none⟩ = false := by
            obtain ⟨cw, q1, _⟩ := S4.out.kn.vl
            exact (cells_of (keepQ b5 q1 (fun e => S4.out.kn.ne e.symm))).2
          have K6 : Hid (KnAt kb vb V (fun s => if s = (dn : Int) then none else K s) ((w4.setCell ⟨kb, dn, none⟩ (.bool false)).setCell ⟨vb, dn, none⟩ (.int .i64 nn))) := S4.out.kn.set hdn (v := nn) (k := none) (fun u hu => by cases hu)
          have b6 : But vb (w4.setCell ⟨kb, dn, none⟩ (.bool false)) ((w4.setCell ⟨kb, dn, none⟩ (.bool false)).setCell ⟨vb, dn, none⟩ (.int .i64 nn)) := (But.refl vb _).set _ _
          have X6 := hideP (keepQ b6 X5.out (by omega))
          have R6 := hideP (keepQ b6 (keepQ b5 S4.out.br (by omega)) (by omega))
          have B6 : Hid (But2 kb vb w ((w4.setCell ⟨kb, dn, none⟩ (.bool false)).setCell ⟨vb, dn, none⟩ (.int .i64 nn))) := ((But2.ofB S4.out.bel).trans (But2.of1 b5)).trans (But2.of2 b6)
          obtain ⟨W5, hW5⟩ : ∃ W5, w4.setCell ⟨kb, dn, none⟩ (.bool false) = W5 := ⟨_, rfl⟩
          rw [hW5] at X5 V5 VF5 K6 X6 R6 B6 ⊢
          clear f0 f1 f2 f3 f4 f5 f6 k1 kf1 v1 vf1 b5 b6 hW5 S4
          have fc := (cells_of X5.out).1
          have f0 := fc 0
          have f1 := fc 1
          have f2 := fc 2
          have f3 := fc 3
          have f4 := fc 4
          have f5 := fc 5
          have f6 := fc 6
          simp at f0 f1 f2 f3 f4 f5 f6
          clear fc
          go_upto_region 8 with fail
          obtain ⟨W6, hW6⟩ : ∃ W6, W5.setCell ⟨vb, dn, none⟩ (.int .i64 nn) = W6 := ⟨_, rfl⟩
          rw [hW6] at K6 X6 R6 B6 ⊢
          clear f0 f1 f2 f3 f4 f5 f6 V5 VF5 X5 hW6
          have fc := (cells_of X6.out).1
          have f0 := fc 0
          have f1 := fc 1
          have f2 := fc 2
          have f3 := fc 3
          have f4 := fc 4
          have f5 := fc 5
          have f6 := fc 6
          simp at f0 f1 f2 f3 f4 f5 f6
          clear fc
          have fc := (cells_of R6.out).1
          have r0 := fc 0
          have r1 := fc 1
          have r2 := fc 2
          have r3 := fc 3
          have r4 := fc 4
          have r5 := fc 5
          have r6 := fc 6
          simp at r0 r1 r2 r3 r4 r5 r6
          clear fc
          have rf := (cells_of R6.out).2
          obtain ⟨z6, bu⟩ := put7n R6.out rfl (.int .i64 2) (.int .i64 (dn : Int)) (.int .i64 (an : Int)) (.int .i64 (bn : Int)) (.int .i64 c0) (.int .i64 nn) (.string t)
          have ZF := hideP z6
          have BU := hideP bu
          clear z6 bu
          go_wp2
          refine bodyPost_ret (results_cell_row rfl _ _ (w.heap.size + 1) 48 #[.int .i64 2, .int .i64 (dn : Int), .int .i64 (an : Int), .int .i64 (bn : Int), .int .i64 c0, .int .i64 nn, .string t] (0, 0) _ rfl ZF.out Try.underlying48 rfl (by kernel_rfl)) rfl ?_
          unfold StepD
          rw [EQ.out]
          refine ⟨rfl, ?_, B6.out.high BU.out (Nat.le_succ _)⟩
          have := K6.out.but BU.out (by omega) (by omega)
          have e9 : setK K (⟨2, (dn : Int), (an : Int), (bn : Int), c0, nn, t⟩ : Ins) = (fun s => if s = (dn : Int) then none else K s) := by simp [setK]
          rw [e9]
          exact this
        | some v2 =>
          obtain ⟨BV, hBV⟩ : ∃ BV, binL t.toList v v2 = BV := ⟨_, rfl⟩
          have EQ : Hid (foldX K (⟨2, (dn : Int), (an : Int), (bn : Int), c0, nn, t⟩ : Ins) = (⟨0, (dn : Int), 0, 0, 0, BV, ⟨#[]⟩⟩ : Ins)) := by show _ = _; rw [← hBV]; simp [foldX, hK, hB]
          have BI : Hid (∀ W, Calls Try.prog 57 #[.string t, .int .i64 v, .int .i64 v2] W fun e w' => e = .returned (.int .i64 BV) ∧ w' = W) := fun W => by rw [← hBV]; exact specBin_any t v v2 W
          obtain ⟨k0, kf⟩ := S2.out.kn.has han
          rw [hK] at k0
          simp at k0
          obtain ⟨m0, mf⟩ := S2.out.kn.has hbn
          rw [hB] at m0
          simp at m0
          obtain ⟨u, v0, hv, vf⟩ := S2.out.kn.val han
          obtain rfl : u = v := hv v hK
          obtain ⟨u2, v1, hv2, vf2⟩ := S2.out.kn.val hbn
          obtain rfl : u2 = v2 := hv2 v2 hB
          clear hBV
          have fc := (cells_of S2.out.bx).1
          have x0 := fc 0
          have x1 := fc 1
          have x2 := fc 2
          have x3 := fc 3
          have x4 := fc 4
          have x5 := fc 5
          have x6 := fc 6
          simp at x0 x1 x2 x3 x4 x5 x6
          clear fc
          have xf := (cells_of S2.out.bx).2
          have SK : Hid (∀ W' : World, W'.heap[vb]? = W2.heap[vb]? → W'.cell? ⟨w.heap.size, 1, none⟩ = some (.int .i64 (dn : Int)) → W'.cell? ⟨w.heap.size, 1, none⟩ = some (.int .i64 (dn : Int)) ∧ W'.cell? ⟨vb, an, none⟩ = some (.int .i64 u) ∧ W'.cell? ⟨vb, bn, none⟩ = some (.int .i64 u2)) := fun W' h1 h2 => ⟨h2, (World.cell?_of_block (a := ⟨vb, an, none⟩) h1).trans v0, (World.cell?_of_block (a := ⟨vb, bn, none⟩) h1).trans v1⟩
          have SF : Hid (∀ W' : World, (((((((W2.setCell ⟨w.heap.size, 0, none⟩ (.int .i64 0)).setCell ⟨w.heap.size, 1, none⟩ (.int .i64 (dn : Int))).setCell ⟨w.heap.size, 2, none⟩ (.int .i64 0)).setCell ⟨w.heap.size, 3, none⟩ (.int .i64 0)).setCell ⟨w.heap.size, 4, none⟩ (.int .i64 0)).setCell ⟨w.heap.size, 5, none⟩ (.int .i64 BV)).setCell ⟨w.heap.size, 6, none⟩ (.string ⟨#[]⟩)).drew = W' → W'.heap[vb]? = W2.heap[vb]? ∧ W'.cell? ⟨w.heap.size, 1, none⟩ = some (.int .i64 (dn : Int))) := fun W' hW' => by
            obtain ⟨z6, bq⟩ := put7 S2.out.bx rfl _ _ _ _ _ _ _ hW'
            refine ⟨bq.block vb S2.out.kn.lt.2 (by omega), ?_⟩
            have := (cells_of z6).1 1
            simpa using this
          go_upto_region 4 with fail
          refine wp_region_held_drew (S := fun W' => W'.cell? ⟨w.heap.size, 1, none⟩ = some (.int .i64 (dn : Int)) ∧ W'.cell? ⟨vb, an, none⟩ = some (.int .i64 u) ∧ W'.cell? ⟨vb, bn, none⟩ = some (.int .i64 u2)) (by kernel_rfl) (SK.out _ rfl x1) (fun hHeld => ?_)
          refine wpAnyH_take (i := 0) (v := (.pointer (some ⟨w.heap.size, 1, none⟩))) rfl (by kernel_rfl) (by kernel_rfl) (by kernel_rfl) (fun _ _ _ h => h) (Or.inl ⟨by rfl, ?_⟩) hHeld ?_
          · (intro w hSw; (try dsimp only at hSw); go_simp)
          walk_nrm
          refine wpAnyH_take (i := 1) (v := (.int .i64 (dn : Int))) rfl (by kernel_rfl) (by kernel_rfl) (by kernel_rfl) (fun _ _ _ h => h) (Or.inl ⟨by rfl, ?_⟩) hHeld ?_
          · (intro w hSw; (try dsimp only at hSw); go_simp)
          walk_nrm
          refine wpAnyH_take (i := 2) (v := (.pointer (some ⟨w.heap.size, 6, none⟩))) rfl (by kernel_rfl) (by kernel_rfl) (by kernel_rfl) (fun _ _ _ h => h) (Or.inl ⟨by rfl, ?_⟩) hHeld ?_
          · (intro w hSw; (try dsimp only at hSw); go_simp)
          walk_nrm
          refine wpAnyH_take (i := 4) (v := (.slice (some ⟨vb, 0, none⟩) V cv)) rfl (by kernel_rfl) (by kernel_rfl) (by kernel_rfl) (fun _ _ _ h => h) (Or.inl ⟨by rfl, ?_⟩) hHeld ?_
          · (intro w hSw; (try dsimp only at hSw); go_simp)
          walk_nrm
          refine wpAnyH_take (i := 5) (v := (.pointer (some ⟨w.heap.size, 2, none⟩))) rfl (by kernel_rfl) (by kernel_rfl) (by kernel_rfl) (fun _ _ _ h => h) (Or.inl ⟨by rfl, ?_⟩) hHeld ?_
          · (intro w hSw; (try dsimp only at hSw); go_simp)
          walk_nrm
          refine wpAnyH_take (i := 9) (v := (.slice (some ⟨vb, 0, none⟩) V cv)) rfl (by kernel_rfl) (by kernel_rfl) (by kernel_rfl) (fun _ _ _ h => h) (Or.inl ⟨by rfl, ?_⟩) hHeld ?_
          · (intro w hSw; (try dsimp only at hSw); go_simp)
          walk_nrm
          refine wpAnyH_take (i := 10) (v := (.pointer (some ⟨w.heap.size, 3, none⟩))) rfl (by kernel_rfl) (by kernel_rfl) (by kernel_rfl) (fun _ _ _ h => h) (Or.inl ⟨by rfl, ?_⟩) hHeld ?_
          · (intro w hSw; (try dsimp only at hSw); go_simp)
          walk_nrm
          refine wpAnyH_ready (rs := [3, 6, 11]) (by kernel_rfl) (by simp) ?_
          refine (AllReadyH.cons rfl (fun K hK => ?b_3) (AllReadyH.cons rfl (fun K hK => ?b_6) (AllReadyH.cons rfl (fun K hK => ?b_11) AllReadyH.nil)))
          case' b_3 =>
            go_simp
            refine hK.out _ _ (SK.out _ rfl x1) (fun hHeld => ?_)
            clear hK K
            walk_nrm
            refine wpAnyH_ready (rs := [6, 11]) (by kernel_rfl) (by simp) ?_
            refine (AllReadyH.cons rfl (fun K hK => ?b_3_6) (AllReadyH.cons rfl (fun K hK => ?b_3_11) AllReadyH.nil))
            case' b_3_6 =>
              go_simp
              refine hK.out _ _ (SK.out _ rfl x1) (fun hHeld => ?_)
              clear hK K
              walk_nrm
              refine wpAnyH_take (i := 7) (v := (.pointer (some ⟨vb, an, none⟩))) rfl (by kernel_rfl) (by kernel_rfl) (by kernel_rfl) (fun _ _ _ h => h) (Or.inl ⟨by rfl, ?_⟩) hHeld ?_
              · (intro w hSw; (try dsimp only at hSw); go_simp)
              walk_nrm
              refine wpAnyH_take (i := 8) (v := (.int .i64 u)) rfl (by kernel_rfl) (by kernel_rfl) (by kernel_rfl) (fun _ _ _ h => h) (Or.inl ⟨by rfl, ?_⟩) hHeld ?_
              · (intro w hSw; (try dsimp only at hSw); go_simp)
              walk_nrm
              refine wpAnyH_ready (rs := [11]) (by kernel_rfl) (by simp) ?_
              refine (AllReadyH.cons rfl (fun K hK => ?b_3_6_11) AllReadyH.nil)
              case' b_3_6_11 =>
                go_simp
                refine hK.out _ _ (SK.out _ rfl x1) (fun hHeld => ?_)
                clear hK K
                walk_nrm
                refine wpAnyH_take (i := 12) (v := (.pointer (some ⟨vb, bn, none⟩))) rfl (by kernel_rfl) (by kernel_rfl) (by kernel_rfl) (fun _ _ _ h => h) (Or.inl ⟨by rfl, ?_⟩) hHeld ?_
                · (intro w hSw; (try dsimp only at hSw); go_simp)
                walk_nrm
                refine wpAnyH_take (i := 13) (v := (.int .i64 u2)) rfl (by kernel_rfl) (by kernel_rfl) (by kernel_rfl) (fun _ _ _ h => h) (Or.inl ⟨by rfl, ?_⟩) hHeld ?_
                · (intro w hSw; (try dsimp only at hSw); go_simp)
                walk_nrm
                refine wpAnyH_ready (rs := [14]) (by kernel_rfl) (by simp) ?_
                refine AllReadyH.cons rfl (fun K hK => ?_) AllReadyH.nil
                go_simp
                go_at_call 57
                refine (BI.out _).mono ?_
                rintro e1 w1 ⟨rfl, rfl⟩
                go_wp2_with fail
                refine hK.out _ _ (SK.out _ rfl x1) (fun hHeld => ?_)
                clear hK K
                walk_nrm
                refine wpAnyH_take (i := 15) (v := (.agg #[.int .i64 0, .int .i64 (dn : Int), .int .i64 0, .int .i64 0, .int .i64 0, .int .i64 BV, .string ⟨#[]⟩])) rfl (by kernel_rfl) (by kernel_rfl) (by kernel_rfl) (fun _ _ _ h => h) (Or.inl ⟨by rfl, ?_⟩) hHeld ?_
                · (intro w hSw; (try dsimp only at hSw); go_simp)
                walk_nrm
                refine wpAnyH_ready (rs := [16]) (by kernel_rfl) (by simp) ?_
                refine AllReadyH.cons rfl (fun K hK => ?_) AllReadyH.nil
                go_simp
                obtain ⟨W3, hW3⟩ : ∃ W3, (((((((W2.setCell ⟨w.heap.size, 0, none⟩ (.int .i64 0)).setCell ⟨w.heap.size, 1, none⟩ (.int .i64 (dn : Int))).setCell ⟨w.heap.size, 2, none⟩ (.int .i64 0)).setCell ⟨w.heap.size, 3, none⟩ (.int .i64 0)).setCell ⟨w.heap.size, 4, none⟩ (.int .i64 0)).setCell ⟨w.heap.size, 5, none⟩ (.int .i64 BV)).setCell ⟨w.heap.size, 6, none⟩ (.string ⟨#[]⟩)).drew = W3 := ⟨_, rfl⟩
                rw [hW3]
                refine hK.out _ _ (SK.out _ (SF.out _ hW3).1 (SF.out _ hW3).2) (fun hHeld => ?_)
                clear hK K
                refine wpAnyH_done (by kernel_rfl) ?_ _
                clear hHeld
            case' b_3_11 =>
              go_simp
              refine hK.out _ _ (SK.out _ rfl x1) (fun hHeld => ?_)
              clear hK K
              walk_nrm
              refine wpAnyH_take (i := 12) (v := (.pointer (some ⟨vb, bn, none⟩))) rfl (by kernel_rfl) (by kernel_rfl) (by kernel_rfl) (fun _ _ _ h => h) (Or.inl ⟨by rfl, ?_⟩) hHeld ?_
              · (intro w hSw; (try dsimp only at hSw); go_simp)
              walk_nrm
              refine wpAnyH_take (i := 13) (v := (.int .i64 u2)) rfl (by kernel_rfl) (by kernel_rfl) (by kernel_rfl) (fun _ _ _ h => h) (Or.inl ⟨by rfl, ?_⟩) hHeld ?_
              · (intro w hSw; (try dsimp only at hSw); go_simp)
              walk_nrm
              refine wpAnyH_ready (rs := [6]) (by kernel_rfl) (by simp) ?_
              refine (AllReadyH.cons rfl (fun K hK => ?b_3_11_6) AllReadyH.nil)
              case' b_3_11_6 =>
                go_simp
                refine hK.out _ _ (SK.out _ rfl x1) (fun hHeld => ?_)
                clear hK K
                walk_nrm
                refine wpAnyH_take (i := 7) (v := (.pointer (some ⟨vb, an, none⟩))) rfl (by kernel_rfl) (by kernel_rfl) (by kernel_rfl) (fun _ _ _ h => h) (Or.inl ⟨by rfl, ?_⟩) hHeld ?_
                · (intro w hSw; (try dsimp only at hSw); go_simp)
                walk_nrm
                refine wpAnyH_take (i := 8) (v := (.int .i64 u)) rfl (by kernel_rfl) (by kernel_rfl) (by kernel_rfl) (fun _ _ _ h => h) (Or.inl ⟨by rfl, ?_⟩) hHeld ?_
                · (intro w hSw; (try dsimp only at hSw); go_simp)
                walk_nrm
                refine wpAnyH_ready (rs := [14]) (by kernel_rfl) (by simp) ?_
                refine AllReadyH.cons rfl (fun K hK => ?_) AllReadyH.nil
                go_simp
                go_at_call 57
                refine (BI.out _).mono ?_
                rintro e1 w1 ⟨rfl, rfl⟩
                go_wp2_with fail
                refine hK.out _ _ (SK.out _ rfl x1) (fun hHeld => ?_)
                clear hK K
                walk_nrm
                refine wpAnyH_take (i := 15) (v := (.agg #[.int .i64 0, .int .i64 (dn : Int), .int .i64 0, .int .i64 0, .int .i64 0, .int .i64 BV, .string ⟨#[]⟩])) rfl (by kernel_rfl) (by kernel_rfl) (by kernel_rfl) (fun _ _ _ h => h) (Or.inl ⟨by rfl, ?_⟩) hHeld ?_
                · (intro w hSw; (try dsimp only at hSw); go_simp)
                walk_nrm
                refine wpAnyH_ready (rs := [16]) (by kernel_rfl) (by simp) ?_
                refine AllReadyH.cons rfl (fun K hK => ?_) AllReadyH.nil
                go_simp
                obtain ⟨W3, hW3⟩ : ∃ W3, (((((((W2.setCell ⟨w.heap.size, 0, none⟩ (.int .i64 0)).setCell ⟨w.heap.size, 1, none⟩ (.int .i64 (dn : Int))).setCell ⟨w.heap.size, 2, none⟩ (.int .i64 0)).setCell ⟨w.heap.size, 3, none⟩ (.int .i64 0)).setCell ⟨w.heap.size, 4, none⟩ (.int .i64 0)).setCell ⟨w.heap.size, 5, none⟩ (.int .i64 BV)).setCell ⟨w.heap.size, 6, none⟩ (.string ⟨#[]⟩)).drew = W3 := ⟨_, rfl⟩
                rw [hW3]
                refine hK.out _ _ (SK.out _ (SF.out _ hW3).1 (SF.out _ hW3).2) (fun hHeld => ?_)
                clear hK K
                refine wpAnyH_done (by kernel_rfl) ?_ _
                clear hHeld
          case' b_6 =>
            go_simp
            refine hK.out _ _ (SK.out _ rfl x1) (fun hHeld => ?_)
            clear hK K
            walk_nrm
            refine wpAnyH_take (i := 7) (v := (.pointer (some ⟨vb, an, none⟩))) rfl (by kernel_rfl) (by kernel_rfl) (by kernel_rfl) (fun _ _ _ h => h) (Or.inl ⟨by rfl, ?_⟩) hHeld ?_
            · (intro w hSw; (try dsimp only at hSw); go_simp)
            walk_nrm
            refine wpAnyH_take (i := 8) (v := (.int .i64 u)) rfl (by kernel_rfl) (by kernel_rfl) (by kernel_rfl) (fun _ _ _ h => h) (Or.inl ⟨by rfl, ?_⟩) hHeld ?_
            · (intro w hSw; (try dsimp only at hSw); go_simp)
            walk_nrm
            refine wpAnyH_ready (rs := [3, 11]) (by kernel_rfl) (by simp) ?_
            refine (AllReadyH.cons rfl (fun K hK => ?b_6_3) (AllReadyH.cons rfl (fun K hK => ?b_6_11) AllReadyH.nil))
            case' b_6_3 =>
              go_simp
              refine hK.out _ _ (SK.out _ rfl x1) (fun hHeld => ?_)
              clear hK K
              walk_nrm
              refine wpAnyH_ready (rs := [11]) (by kernel_rfl) (by simp) ?_
              refine (AllReadyH.cons rfl (fun K hK => ?b_6_3_11) AllReadyH.nil)
              case' b_6_3_11 =>
                go_simp
                refine hK.out _ _ (SK.out _ rfl x1) (fun hHeld => ?_)
                clear hK K
                walk_nrm
                refine wpAnyH_take (i := 12) (v := (.pointer (some ⟨vb, bn, none⟩))) rfl (by kernel_rfl) (by kernel_rfl) (by kernel_rfl) (fun _ _ _ h => h) (Or.inl ⟨by rfl, ?_⟩) hHeld ?_
                · (intro w hSw; (try dsimp only at hSw); go_simp)
                walk_nrm
                refine wpAnyH_take (i := 13) (v := (.int .i64 u2)) rfl (by kernel_rfl) (by kernel_rfl) (by kernel_rfl) (fun _ _ _ h => h) (Or.inl ⟨by rfl, ?_⟩) hHeld ?_
                · (intro w hSw; (try dsimp only at hSw); go_simp)
                walk_nrm
                refine wpAnyH_ready (rs := [14]) (by kernel_rfl) (by simp) ?_
                refine AllReadyH.cons rfl (fun K hK => ?_) AllReadyH.nil
                go_simp
                go_at_call 57
                refine (BI.out _).mono ?_
                rintro e1 w1 ⟨rfl, rfl⟩
                go_wp2_with fail
                refine hK.out _ _ (SK.out _ rfl x1) (fun hHeld => ?_)
                clear hK K
                walk_nrm
                refine wpAnyH_take (i := 15) (v := (.agg #[.int .i64 0, .int .i64 (dn : Int), .int .i64 0, .int .i64 0, .int .i64 0, .int .i64 BV, .string ⟨#[]⟩])) rfl (by kernel_rfl) (by kernel_rfl) (by kernel_rfl) (fun _ _ _ h => h) (Or.inl ⟨by rfl, ?_⟩) hHeld ?_
                · (intro w hSw; (try dsimp only at hSw); go_simp)
                walk_nrm
                refine wpAnyH_ready (rs := [16]) (by kernel_rfl) (by simp) ?_
                refine AllReadyH.cons rfl (fun K hK => ?_) AllReadyH.nil
                go_simp
                obtain ⟨W3, hW3⟩ : ∃ W3, (((((((W2.setCell ⟨w.heap.size, 0, none⟩ (.int .i64 0)).setCell ⟨w.heap.size, 1, none⟩ (.int .i64 (dn : Int))).setCell ⟨w.heap.size, 2, none⟩ (.int .i64 0)).setCell ⟨w.heap.size, 3, none⟩ (.int .i64 0)).setCell ⟨w.heap.size, 4, none⟩ (.int .i64 0)).setCell ⟨w.heap.size, 5, none⟩ (.int .i64 BV)).setCell ⟨w.heap.size, 6, none⟩ (.string ⟨#[]⟩)).drew = W3 := ⟨_, rfl⟩
                rw [hW3]
                refine hK.out _ _ (SK.out _ (SF.out _ hW3).1 (SF.out _ hW3).2) (fun hHeld => ?_)
                clear hK K
                refine wpAnyH_done (by kernel_rfl) ?_ _
                clear hHeld
            case' b_6_11 =>
              go_simp
              refine hK.out _ _ (SK.out _ rfl x1) (fun hHeld => ?_)
              clear hK K
              walk_nrm
              refine wpAnyH_take (i := 12) (v := (.pointer (some ⟨vb, bn, none⟩))) rfl (by kernel_rfl) (by kernel_rfl) (by kernel_rfl) (fun _ _ _ h => h) (Or.inl ⟨by rfl, ?_⟩) hHeld ?_
              · (intro w hSw; (try dsimp only at hSw); go_simp)
              walk_nrm
              refine wpAnyH_take (i := 13) (v := (.int .i64 u2)) rfl (by kernel_rfl) (by kernel_rfl) (by kernel_rfl) (fun _ _ _ h => h) (Or.inl ⟨by rfl, ?_⟩) hHeld ?_
              · (intro w hSw; (try dsimp only at hSw); go_simp)
              walk_nrm
              refine wpAnyH_ready (rs := [3]) (by kernel_rfl) (by simp) ?_
              refine (AllReadyH.cons rfl (fun K hK => ?b_6_11_3) AllReadyH.nil)
              case' b_6_11_3 =>
                go_simp
                refine hK.out _ _ (SK.out _ rfl x1) (fun hHeld => ?_)
                clear hK K
                walk_nrm
                refine wpAnyH_ready (rs := [14]) (by kernel_rfl) (by simp) ?_
                refine AllReadyH.cons rfl (fun K hK => ?_) AllReadyH.nil
                go_simp
                go_at_call 57
                refine (BI.out _).mono ?_
                rintro e1 w1 ⟨rfl, rfl⟩
                go_wp2_with fail
                refine hK.out _ _ (SK.out _ rfl x1) (fun hHeld => ?_)
                clear hK K
                walk_nrm
                refine wpAnyH_take (i := 15) (v := (.agg #[.int .i64 0, .int .i64 (dn : Int), .int .i64 0, .int .i64 0, .int .i64 0, .int .i64 BV, .string ⟨#[]⟩])) rfl (by kernel_rfl) (by kernel_rfl) (by kernel_rfl) (fun _ _ _ h => h) (Or.inl ⟨by rfl, ?_⟩) hHeld ?_
                · (intro w hSw; (try dsimp only at hSw); go_simp)
                walk_nrm
                refine wpAnyH_ready (rs := [16]) (by kernel_rfl) (by simp) ?_
                refine AllReadyH.cons rfl (fun K hK => ?_) AllReadyH.nil
                go_simp
                obtain ⟨W3, hW3⟩ : ∃ W3, (((((((W2.setCell ⟨w.heap.size, 0, none⟩ (.int .i64 0)).setCell ⟨w.heap.size, 1, none⟩ (.int .i64 (dn : Int))).setCell ⟨w.heap.size, 2, none⟩ (.int .i64 0)).setCell ⟨w.heap.size, 3, none⟩ (.int .i64 0)).setCell ⟨w.heap.size, 4, none⟩ (.int .i64 0)).setCell ⟨w.heap.size, 5, none⟩ (.int .i64 BV)).setCell ⟨w.heap.size, 6, none⟩ (.string ⟨#[]⟩)).drew = W3 := ⟨_, rfl⟩
                rw [hW3]
                refine hK.out _ _ (SK.out _ (SF.out _ hW3).1 (SF.out _ hW3).2) (fun hHeld => ?_)
                clear hK K
                refine wpAnyH_done (by kernel_rfl) ?_ _
                clear hHeld
          case' b_11 =>
            go_simp
            refine hK.out _ _ (SK.out _ rfl x1) (fun hHeld => ?_)
            clear hK K
            walk_nrm
            refine wpAnyH_take (i := 12) (v := (.pointer (some ⟨vb, bn, none⟩))) rfl (by kernel_rfl) (by kernel_rfl) (by kernel_rfl) (fun _ _ _ h => h) (Or.inl ⟨by rfl, ?_⟩) hHeld ?_
            · (intro w hSw; (try dsimp only at hSw); go_simp)
            walk_nrm
            refine wpAnyH_take (i := 13) (v := (.int .i64 u2)) rfl (by kernel_rfl) (by kernel_rfl) (by kernel_rfl) (fun _ _ _ h => h) (Or.inl ⟨by rfl, ?_⟩) hHeld ?_
            · (intro w hSw; (try dsimp only at hSw); go_simp)
            walk_nrm
            refine wpAnyH_ready (rs := [3, 6]) (by kernel_rfl) (by simp) ?_
            refine (AllReadyH.cons rfl (fun K hK => ?b_11_3) (AllReadyH.cons rfl (fun K hK => ?b_11_6) AllReadyH.nil))
            case' b_11_3 =>
              go_simp
              refine hK.out _ _ (SK.out _ rfl x1) (fun hHeld => ?_)
              clear hK K
              walk_nrm
              refine wpAnyH_ready (rs := [6]) (by kernel_rfl) (by simp) ?_
              refine (AllReadyH.cons rfl (fun K hK => ?b_11_3_6) AllReadyH.nil)
              case' b_11_3_6 =>
                go_simp
                refine hK.out _ _ (SK.out _ rfl x1) (fun hHeld => ?_)
                clear hK K
                walk_nrm
                refine wpAnyH_take (i := 7) (v := (.pointer (some ⟨vb, an, none⟩))) rfl (by kernel_rfl) (by kernel_rfl) (by kernel_rfl) (fun _ _ _ h => h) (Or.inl ⟨by rfl, ?_⟩) hHeld ?_
                · (intro w hSw; (try dsimp only at hSw); go_simp)
                walk_nrm
                refine wpAnyH_take (i := 8) (v := (.int .i64 u)) rfl (by kernel_rfl) (by kernel_rfl) (by kernel_rfl) (fun _ _ _ h => h) (Or.inl ⟨by rfl, ?_⟩) hHeld ?_
                · (intro w hSw; (try dsimp only at hSw); go_simp)
                walk_nrm
                refine wpAnyH_ready (rs := [14]) (by kernel_rfl) (by simp) ?_
                refine AllReadyH.cons rfl (fun K hK => ?_) AllReadyH.nil
                go_simp
                go_at_call 57
                refine (BI.out _).mono ?_
                rintro e1 w1 ⟨rfl, rfl⟩
                go_wp2_with fail
                refine hK.out _ _ (SK.out _ rfl x1) (fun hHeld => ?_)
                clear hK K
                walk_nrm
                refine wpAnyH_take (i := 15) (v := (.agg #[.int .i64 0, .int .i64 (dn : Int), .int .i64 0, .int .i64 0, .int .i64 0, .int .i64 BV, .string ⟨#[]⟩])) rfl (by kernel_rfl) (by kernel_rfl) (by kernel_rfl) (fun _ _ _ h => h) (Or.inl ⟨by rfl, ?_⟩) hHeld ?_
                · (intro w hSw; (try dsimp only at hSw); go_simp)
                walk_nrm
                refine wpAnyH_ready (rs := [16]) (by kernel_rfl) (by simp) ?_
                refine AllReadyH.cons rfl (fun K hK => ?_) AllReadyH.nil
                go_simp
                obtain ⟨W3, hW3⟩ : ∃ W3, (((((((W2.setCell ⟨w.heap.size, 0, none⟩ (.int .i64 0)).setCell ⟨w.heap.size, 1, none⟩ (.int .i64 (dn : Int))).setCell ⟨w.heap.size, 2, none⟩ (.int .i64 0)).setCell ⟨w.heap.size, 3, none⟩ (.int .i64 0)).setCell ⟨w.heap.size, 4, none⟩ (.int .i64 0)).setCell ⟨w.heap.size, 5, none⟩ (.int .i64 BV)).setCell ⟨w.heap.size, 6, none⟩ (.string ⟨#[]⟩)).drew = W3 := ⟨_, rfl⟩
                rw [hW3]
                refine hK.out _ _ (SK.out _ (SF.out _ hW3).1 (SF.out _ hW3).2) (fun hHeld => ?_)
                clear hK K
                refine wpAnyH_done (by kernel_rfl) ?_ _
                clear hHeld
            case' b_11_6 =>
              go_simp
              refine hK.out _ _ (SK.out _ rfl x1) (fun hHeld => ?_)
              clear hK K
              walk_nrm
              refine wpAnyH_take (i := 7) (v := (.pointer (some ⟨vb, an, none⟩))) rfl (by kernel_rfl) (by kernel_rfl) (by kernel_rfl) (fun _ _ _ h => h) (Or.inl ⟨by rfl, ?_⟩) hHeld ?_
              · (intro w hSw; (try dsimp only at hSw); go_simp)
              walk_nrm
              refine wpAnyH_take (i := 8) (v := (.int .i64 u)) rfl (by kernel_rfl) (by kernel_rfl) (by kernel_rfl) (fun _ _ _ h => h) (Or.inl ⟨by rfl, ?_⟩) hHeld ?_
              · (intro w hSw; (try dsimp only at hSw); go_simp)
              walk_nrm
              refine wpAnyH_ready (rs := [3]) (by kernel_rfl) (by simp) ?_
              refine (AllReadyH.cons rfl (fun K hK => ?b_11_6_3) AllReadyH.nil)
              case' b_11_6_3 =>
                go_simp
                refine hK.out _ _ (SK.out _ rfl x1) (fun hHeld => ?_)
                clear hK K
                walk_nrm
                refine wpAnyH_ready (rs := [14]) (by kernel_rfl) (by simp) ?_
                refine AllReadyH.cons rfl (fun K hK => ?_) AllReadyH.nil
                go_simp
                go_at_call 57
                refine (BI.out _).mono ?_
                rintro e1 w1 ⟨rfl, rfl⟩
                go_wp2_with fail
                refine hK.out _ _ (SK.out _ rfl x1) (fun hHeld => ?_)
                clear hK K
                walk_nrm
                refine wpAnyH_take (i := 15) (v := (.agg #[.int .i64 0, .int .i64 (dn : Int), .int .i64 0, .int .i64 0, .int .i64 0, .int .i64 BV, .string ⟨#[]⟩])) rfl (by kernel_rfl) (by kernel_rfl) (by kernel_rfl) (fun _ _ _ h => h) (Or.inl ⟨by rfl, ?_⟩) hHeld ?_
                · (intro w hSw; (try dsimp only at hSw); go_simp)
                walk_nrm
                refine wpAnyH_ready (rs := [16]) (by kernel_rfl) (by simp) ?_
                refine AllReadyH.cons rfl (fun K hK => ?_) AllReadyH.nil
                go_simp
                obtain ⟨W3, hW3⟩ : ∃ W3, (((((((W2.setCell ⟨w.heap.size, 0, none⟩ (.int .i64 0)).setCell ⟨w.heap.size, 1, none⟩ (.int .i64 (dn : Int))).setCell ⟨w.heap.size, 2, none⟩ (.int .i64 0)).setCell ⟨w.heap.size, 3, none⟩ (.int .i64 0)).setCell ⟨w.heap.size, 4, none⟩ (.int .i64 0)).setCell ⟨w.heap.size, 5, none⟩ (.int .i64 BV)).setCell ⟨w.heap.size, 6, none⟩ (.string ⟨#[]⟩)).drew = W3 := ⟨_, rfl⟩
                rw [hW3]
                refine hK.out _ _ (SK.out _ (SF.out _ hW3).1 (SF.out _ hW3).2) (fun hHeld => ?_)
                clear hK K
                refine wpAnyH_done (by kernel_rfl) ?_ _
                clear hHeld
          all_goals (
            obtain ⟨z6, bq⟩ := put7 S2.out.bx rfl _ _ _ _ _ _ _ hW3
            have S3 : Hid (StAt kb vb V K w #[.int .i64 0, .int .i64 (dn : Int), .int .i64 0, .int .i64 0, .int .i64 0, .int .i64 BV, .string ⟨#[]⟩] W3) := S2.out.box hlt bq z6
            clear hW3 z6 bq S2 x0 x1 x2 x3 x4 x5 x6 xf
            clear k0 kf m0 mf v0 vf v1 vf2 hv hv2 SK SF BI
            have fc := (cells_of S3.out.bx).1
            have f0 := fc 0
            have f1 := fc 1
            have f2 := fc 2
            have f3 := fc 3
            have f4 := fc 4
            have f5 := fc 5
            have f6 := fc 6
            simp at f0 f1 f2 f3 f4 f5 f6
            clear fc
            have de : Calls Try.prog 58 #[.agg #[.int .i64 0, .int .i64 (dn : Int), .int .i64 0, .int .i64 0, .int .i64 0, .int .i64 BV, .string ⟨#[]⟩]] W3 fun e w' => e = .returned (.bool true) ∧ Below W3.heap.size W3 w' := by
              have := def_any (⟨0, (dn : Int), 0, 0, 0, BV, ⟨#[]⟩⟩ : Ins) W3
              simp only [insV] at this
              simpa using this
            have DE := hideP de
            clear de
            go_wp2_with fail
            refine DE.out.mono ?_
            rintro e4 w4 ⟨rfl, b4⟩
            have S4 := hideP (S3.out.stays b4)
            clear b4 f0 f1 f2 f3 f4 f5 f6 S3 DE
            have fc := (cells_of S4.out.bx).1
            have f0 := fc 0
            have f1 := fc 1
            have f2 := fc 2
            have f3 := fc 3
            have f4 := fc 4
            have f5 := fc 5
            have f6 := fc 6
            simp at f0 f1 f2 f3 f4 f5 f6
            clear fc
            obtain ⟨k1, kf1⟩ := S4.out.kn.has hdn
            obtain ⟨u1, v1, _, vf1⟩ := S4.out.kn.val hdn
            go_upto_region 7 with fail
            have b5 : But kb w4 (w4.setCell ⟨kb, dn, none⟩ (.bool true)) := (But.refl kb w4).set _ _
            have X5 := hideP (keepQ b5 S4.out.bx (by omega))
            have V5 := (World.cell?_of_block (a := ⟨vb, dn, none⟩) (b5.block vb S4.out.kn.lt.2 (fun e => S4.out.kn.ne e.symm))).trans v1
            have VF5 : ∀ i, (w4.setCell ⟨kb, dn, none⟩ (.bool true)).frozen? ⟨vb, i, none⟩ = false := by
              obtain ⟨cw, q1, _⟩ := S4.out.kn.vl
              exact (cells_of (keepQ b5 q1 (fun e => S4.out.kn.ne e.symm))).2
            have K6 : Hid (KnAt kb vb V (fun s => if s = (dn : Int) then (some BV) else K s) ((w4.setCell ⟨kb, dn, none⟩ (.bool true)).setCell ⟨vb, dn, none⟩ (.int .i64 BV))) := S4.out.kn.set hdn (v := BV) (k := (some BV)) (fun u hu => by cases hu; rfl)
            have b6 : But vb (w4.setCell ⟨kb, dn, none⟩ (.bool true)) ((w4.setCell ⟨kb, dn, none⟩ (.bool true)).setCell ⟨vb, dn, none⟩ (.int .i64 BV)) := (But.refl vb _).set _ _
            have X6 := hideP (keepQ b6 X5.out (by omega))
            have R6 := hideP (keepQ b6 (keepQ b5 S4.out.br (by omega)) (by omega))
            have B6 : Hid (But2 kb vb w ((w4.setCell ⟨kb, dn, none⟩ (.bool true)).setCell ⟨vb, dn, none⟩ (.int .i64 BV))) := ((But2.ofB S4.out.bel).trans (But2.of1 b5)).trans (But2.of2 b6)
            obtain ⟨W5, hW5⟩ : ∃ W5, w4.setCell ⟨kb, dn, none⟩ (.bool true) = W5 := ⟨_, rfl⟩
            rw [hW5] at X5 V5 VF5 K6 X6 R6 B6 ⊢
            clear f0 f1 f2 f3 f4 f5 f6 k1 kf1 v1 vf1 b5 b6 hW5 S4
            have fc := (cells_of X5.out).1
            have f0 := fc 0
            have f1 := fc 1
            have f2 := fc 2
            have f3 := fc 3
            have f4 := fc 4
            have f5 := fc 5
            have f6 := fc 6
            simp at f0 f1 f2 f3 f4 f5 f6
            clear fc
            go_upto_region 8 with fail
            obtain ⟨W6, hW6⟩ : ∃ W6, W5.setCell ⟨vb, dn, none⟩ (.int .i64 BV) = W6 := ⟨_, rfl⟩
            rw [hW6] at K6 X6 R6 B6 ⊢
            clear f0 f1 f2 f3 f4 f5 f6 V5 VF5 X5 hW6
            have fc := (cells_of X6.out).1
            have f0 := fc 0
            have f1 := fc 1
            have f2 := fc 2
            have f3 := fc 3
            have f4 := fc 4
            have f5 := fc 5
            have f6 := fc 6
            simp at f0 f1 f2 f3 f4 f5 f6
            clear fc
            have fc := (cells_of R6.out).1
            have r0 := fc 0
            have r1 := fc 1
            have r2 := fc 2
            have r3 := fc 3
            have r4 := fc 4
            have r5 := fc 5
            have r6 := fc 6
            simp at r0 r1 r2 r3 r4 r5 r6
            clear fc
            have rf := (cells_of R6.out).2
            obtain ⟨z6, bu⟩ := put7n R6.out rfl (.int .i64 0) (.int .i64 (dn : Int)) (.int .i64 0) (.int .i64 0) (.int .i64 0) (.int .i64 BV) (.string ⟨#[]⟩)
            have ZF := hideP z6
            have BU := hideP bu
            clear z6 bu
            go_wp2
            refine bodyPost_ret (results_cell_row rfl _ _ (w.heap.size + 1) 48 #[.int .i64 0, .int .i64 (dn : Int), .int .i64 0, .int .i64 0, .int .i64 0, .int .i64 BV, .string ⟨#[]⟩] (0, 0) _ rfl ZF.out Try.underlying48 rfl (by kernel_rfl)) rfl ?_
            unfold StepD
            rw [EQ.out]
            refine ⟨rfl, ?_, B6.out.high BU.out (Nat.le_succ _)⟩
            have := K6.out.but BU.out (by omega) (by omega)
            have e9 : setK K (⟨0, (dn : Int), 0, 0, 0, BV, ⟨#[]⟩⟩ : Ins) = (fun s => if s = (dn : Int) then (some BV) else K s) := by simp [setK]
            rw [e9]
            exact this
            )
    · have h2b : (op == 2) = false := by simpa using h2
      have EQ : Hid (foldX K (⟨op, d, a, b0, c0, nn, t⟩ : Ins) = (⟨op, d, a, b0, c0, nn, t⟩ : Ins)) := by show _ = _; simp [foldX, h1, h2]
      have fc := (cells_of S2.out.bx).1
      have x0 := fc 0
      have x1 := fc 1
      have x2 := fc 2
      have x3 := fc 3
      have x4 := fc 4
      have x5 := fc 5
      have x6 := fc 6
      simp at x0 x1 x2 x3 x4 x5 x6
      clear fc
      have xf := (cells_of S2.out.bx).2
      go_upto_region 5 with fail
      clear x0 x1 x2 x3 x4 x5 x6 xf
      obtain ⟨W3, hW3⟩ : ∃ W3, W2 = W3 := ⟨_, rfl⟩
      rw [hW3] at S2 ⊢
      have S3 := hideP S2.out
      clear S2 hW3
      by_cases h4 : op = 4
      · subst h4
        have fc := (cells_of S3.out.bx).1
        have f0 := fc 0
        have f1 := fc 1
        have f2 := fc 2
        have f3 := fc 3
        have f4 := fc 4
        have f5 := fc 5
        have f6 := fc 6
        simp at f0 f1 f2 f3 f4 f5 f6
        clear fc
        have de : Calls Try.prog 58 #[.agg #[.int .i64 4, .int .i64 d, .int .i64 a, .int .i64 b0, .int .i64 c0, .int .i64 nn, .string t]] W3 fun e w' => e = .returned (.bool false) ∧ Below W3.heap.size W3 w' := by
          have := def_any (⟨4, d, a, b0, c0, nn, t⟩ : Ins) W3
          simp only [insV] at this
          simpa using this
        have DE := hideP de
        clear de
        go_wp2_with fail
        refine DE.out.mono ?_
        rintro e4 w4 ⟨rfl, b4⟩
        have S4 := hideP (S3.out.stays b4)
        clear b4 f0 f1 f2 f3 f4 f5 f6 S3 DE
        have K6 := hideP S4.out.kn
        have X6 := hideP S4.out.bx
        have R6 := hideP S4.out.br
        have B6 : Hid (But2 kb vb w w4) := But2.ofB S4.out.bel
        clear S4
        have fc := (cells_of X6.out).1
        have f0 := fc 0
        have f1 := fc 1
        have f2 := fc 2
        have f3 := fc 3
        have f4 := fc 4
        have f5 := fc 5
        have f6 := fc 6
        simp at f0 f1 f2 f3 f4 f5 f6
        clear fc
        have fc := (cells_of R6.out).1
        have r0 := fc 0
        have r1 := fc 1
        have r2 := fc 2
        have r3 := fc 3
        have r4 := fc 4
        have r5 := fc 5
        have r6 := fc 6
        simp at r0 r1 r2 r3 r4 r5 r6
        clear fc
        have rf := (cells_of R6.out).2
        obtain ⟨z6, bu⟩ := put7n R6.out rfl (.int .i64 4) (.int .i64 d) (.int .i64 a) (.int .i64 b0) (.int .i64 c0) (.int .i64 nn) (.string t)
        have ZF := hideP z6
        have BU := hideP bu
        clear z6 bu
        go_wp2
        refine bodyPost_ret (results_cell_row rfl _ _ (w.heap.size + 1) 48 #[.int .i64 4, .int .i64 d, .int .i64 a, .int .i64 b0, .int .i64 c0, .int .i64 nn, .string t] (0, 0) _ rfl ZF.out Try.underlying48 rfl (by kernel_rfl)) rfl ?_
        unfold StepD
        rw [EQ.out]
        refine ⟨rfl, ?_, B6.out.high BU.out (Nat.le_succ _)⟩
        have := K6.out.but BU.out (by omega) (by omega)
        have e9 : setK K (⟨4, d, a, b0, c0, nn, t⟩ : Ins) = K := by simp [setK]
        rw [e9]
        exact this
      by_cases h6 : op = 6
      · subst h6
        have fc := (cells_of S3.out.bx).1
        have f0 := fc 0
        have f1 := fc 1
        have f2 := fc 2
        have f3 := fc 3
        have f4 := fc 4
        have f5 := fc 5
        have f6 := fc 6
        simp at f0 f1 f2 f3 f4 f5 f6
        clear fc
        have de : Calls Try.prog 58 #[.agg #[.int .i64 6, .int .i64 d, .int .i64 a, .int .i64 b0, .int .i64 c0, .int .i64 nn, .string t]] W3 fun e w' => e = .returned (.bool false) ∧ Below W3.heap.size W3 w' := by
          have := def_any (⟨6, d, a, b0, c0, nn, t⟩ : Ins) W3
          simp only [insV] at this
          simpa using this
        have DE := hideP de
        clear de
        go_wp2_with fail
        refine DE.out.mono ?_
        rintro e4 w4 ⟨rfl, b4⟩
        have S4 := hideP (S3.out.stays b4)
        clear b4 f0 f1 f2 f3 f4 f5 f6 S3 DE
        have K6 := hideP S4.out.kn
        have X6 := hideP S4.out.bx
        have R6 := hideP S4.out.br
        have B6 : Hid (But2 kb vb w w4) := But2.ofB S4.out.bel
        clear S4
        have fc := (cells_of X6.out).1
        have f0 := fc 0
        have f1 := fc 1
        have f2 := fc 2
        have f3 := fc 3
        have f4 := fc 4
        have f5 := fc 5
        have f6 := fc 6
        simp at f0 f1 f2 f3 f4 f5 f6
        clear fc
        have fc := (cells_of R6.out).1
        have r0 := fc 0
        have r1 := fc 1
        have r2 := fc 2
        have r3 := fc 3
        have r4 := fc 4
        have r5 := fc 5
        have r6 := fc 6
        simp at r0 r1 r2 r3 r4 r5 r6
        clear fc
        have rf := (cells_of R6.out).2
        obtain ⟨z6, bu⟩ := put7n R6.out rfl (.int .i64 6) (.int .i64 d) (.int .i64 a) (.int .i64 b0) (.int .i64 c0) (.int .i64 nn) (.string t)
        have ZF := hideP z6
        have BU := hideP bu
        clear z6 bu
        go_wp2
        refine bodyPost_ret (results_cell_row rfl _ _ (w.heap.size + 1) 48 #[.int .i64 6, .int .i64 d, .int .i64 a, .int .i64 b0, .int .i64 c0, .int .i64 nn, .string t] (0, 0) _ rfl ZF.out Try.underlying48 rfl (by kernel_rfl)) rfl ?_
        unfold StepD
        rw [EQ.out]
        refine ⟨rfl, ?_, B6.out.high BU.out (Nat.le_succ _)⟩
        have := K6.out.but BU.out (by omega) (by omega)
        have e9 : setK K (⟨6, d, a, b0, c0, nn, t⟩ : Ins) = K := by simp [setK]
        rw [e9]
        exact this
      obtain ⟨dn, rfl⟩ : ∃ dn : Nat, d = dn := ⟨d.toNat, by have := hd (by omega); omega⟩
      have hdn : dn < V := by have := hd (by omega); omega
      by_cases h0 : op = 0
      · subst h0
        have fc := (cells_of S3.out.bx).1
        have f0 := fc 0
        have f1 := fc 1
        have f2 := fc 2
        have f3 := fc 3
        have f4 := fc 4
        have f5 := fc 5
        have f6 := fc 6
        simp at f0 f1 f2 f3 f4 f5 f6
        clear fc
        have de : Calls Try.prog 58 #[.agg #[.int .i64 0, .int .i64 (dn : Int), .int .i64 a, .int .i64 b0, .int .i64 c0, .int .i64 nn, .string t]] W3 fun e w' => e = .returned (.bool true) ∧ Below W3.heap.size W3 w' := by
          have := def_any (⟨0, (dn : Int), a, b0, c0, nn, t⟩ : Ins) W3
          simp only [insV] at this
          simpa using this
        have DE := hideP de
        clear de
        go_wp2_with fail
        refine DE.out.mono ?_
        rintro e4 w4 ⟨rfl, b4⟩
        have S4 := hideP (S3.out.stays b4)
        clear b4 f0 f1 f2 f3 f4 f5 f6 S3 DE
        have fc := (cells_of S4.out.bx).1
        have f0 := fc 0
        have f1 := fc 1
        have f2 := fc 2
        have f3 := fc 3
        have f4 := fc 4
        have f5 := fc 5
        have f6 := fc 6
        simp at f0 f1 f2 f3 f4 f5 f6
        clear fc
        obtain ⟨k1, kf1⟩ := S4.out.kn.has hdn
        obtain ⟨u1, v1, _, vf1⟩ := S4.out.kn.val hdn
        go_upto_region 7 with fail
        have b5 : But kb w4 (w4.setCell ⟨kb, dn, none⟩ (.bool true)) := (But.refl kb w4).set _ _
        have X5 := hideP (keepQ b5 S4.out.bx (by omega))
        have V5 := (World.cell?_of_block (a := ⟨vb, dn, none⟩) (b5.block vb S4.out.kn.lt.2 (fun e => S4.out.kn.ne e.symm))).trans v1
        have VF5 : ∀ i, (w4.setCell ⟨kb, dn, none⟩ (.bool true)).frozen? ⟨vb, i, none⟩ = false := by
          obtain ⟨cw, q1, _⟩ := S4.out.kn.vl
          exact (cells_of (keepQ b5 q1 (fun e => S4.out.kn.ne e.symm))).2
        have K6 : Hid (KnAt kb vb V (fun s => if s = (dn : Int) then (some nn) else K s) ((w4.setCell ⟨kb, dn, none⟩ (.bool true)).setCell ⟨vb, dn, none⟩ (.int .i64 nn))) := S4.out.kn.set hdn (v := nn) (k := (some nn)) (fun u hu => by cases hu; rfl)
        have b6 : But vb (w4.setCell ⟨kb, dn, none⟩ (.bool true)) ((w4.setCell ⟨kb, dn, none⟩ (.bool true)).setCell ⟨vb, dn, none⟩ (.int .i64 nn)) := (But.refl vb _).set _ _
        have X6 := hideP (keepQ b6 X5.out (by omega))
        have R6 := hideP (keepQ b6 (keepQ b5 S4.out.br (by omega)) (by omega))
        have B6 : Hid (But2 kb vb w ((w4.setCell ⟨kb, dn, none⟩ (.bool true)).setCell ⟨vb, dn, none⟩ (.int .i64 nn))) := ((But2.ofB S4.out.bel).trans (But2.of1 b5)).trans (But2.of2 b6)
        obtain ⟨W5, hW5⟩ : ∃ W5, w4.setCell ⟨kb, dn, none⟩ (.bool true) = W5 := ⟨_, rfl⟩
        rw [hW5] at X5 V5 VF5 K6 X6 R6 B6 ⊢
        clear f0 f1 f2 f3 f4 f5 f6 k1 kf1 v1 vf1 b5 b6 hW5 S4
        have fc := (cells_of X5.out).1
        have f0 := fc 0
        have f1 := fc 1
        have f2 := fc 2
        have f3 := fc 3
        have f4 := fc 4
        have f5 := fc 5
        have f6 := fc 6
        simp at f0 f1 f2 f3 f4 f5 f6
        clear fc
        go_upto_region 8 with fail
        obtain ⟨W6, hW6⟩ : ∃ W6, W5.setCell ⟨vb, dn, none⟩ (.int .i64 nn) = W6 := ⟨_, rfl⟩
        rw [hW6] at K6 X6 R6 B6 ⊢
        clear f0 f1 f2 f3 f4 f5 f6 V5 VF5 X5 hW6
        have fc := (cells_of X6.out).1
        have f0 := fc 0
        have f1 := fc 1
        have f2 := fc 2
        have f3 := fc 3
        have f4 := fc 4
        have f5 := fc 5
        have f6 := fc 6
        simp at f0 f1 f2 f3 f4 f5 f6
        clear fc
        have fc := (cells_of R6.out).1
        have r0 := fc 0
        have r1 := fc 1
        have r2 := fc 2
        have r3 := fc 3
        have r4 := fc 4
        have r5 := fc 5
        have r6 := fc 6
        simp at r0 r1 r2 r3 r4 r5 r6
        clear fc
        have rf := (cells_of R6.out).2
        obtain ⟨z6, bu⟩ := put7n R6.out rfl (.int .i64 0) (.int .i64 (dn : Int)) (.int .i64 a) (.int .i64 b0) (.int .i64 c0) (.int .i64 nn) (.string t)
        have ZF := hideP z6
        have BU := hideP bu
        clear z6 bu
        go_wp2
        refine bodyPost_ret (results_cell_row rfl _ _ (w.heap.size + 1) 48 #[.int .i64 0, .int .i64 (dn : Int), .int .i64 a, .int .i64 b0, .int .i64 c0, .int .i64 nn, .string t] (0, 0) _ rfl ZF.out Try.underlying48 rfl (by kernel_rfl)) rfl ?_
        unfold StepD
        rw [EQ.out]
        refine ⟨rfl, ?_, B6.out.high BU.out (Nat.le_succ _)⟩
        have := K6.out.but BU.out (by omega) (by omega)
        have e9 : setK K (⟨0, (dn : Int), a, b0, c0, nn, t⟩ : Ins) = (fun s => if s = (dn : Int) then (some nn) else K s) := by simp [setK]
        rw [e9]
        exact this
      have h0b : (op == 0) = false := by simpa using h0
      have fc := (cells_of S3.out.bx).1
      have f0 := fc 0
      have f1 := fc 1
      have f2 := fc 2
      have f3 := fc 3
      have f4 := fc 4
      have f5 := fc 5
      have f6 := fc 6
      simp at f0 f1 f2 f3 f4 f5 f6
      clear fc
      have de : Calls Try.prog 58 #[.agg #[.int .i64 op, .int .i64 (dn : Int), .int .i64 a, .int .i64 b0, .int .i64 c0, .int .i64 nn, .string t]] W3 fun e w' => e = .returned (.bool true) ∧ Below W3.heap.size W3 w' := by
        have := def_any (⟨op, (dn : Int), a, b0, c0, nn, t⟩ : Ins) W3
        simp only [insV] at this
        simpa [h4, h6] using this
      have DE := hideP de
      clear de
      go_wp2_with fail
      refine DE.out.mono ?_
      rintro e4 w4 ⟨rfl, b4⟩
      have S4 := hideP (S3.out.stays b4)
      clear b4 f0 f1 f2 f3 f4 f5 f6 S3 DE
      have fc := (cells_of S4.out.bx).1
      have f0 := fc 0
      have f1 := fc 1
      have f2 := fc 2
      have f3 := fc 3
      have f4 := fc 4
      have f5 := fc 5
      have f6 := fc 6
      simp at f0 f1 f2 f3 f4 f5 f6
      clear fc
      obtain ⟨k1, kf1⟩ := S4.out.kn.has hdn
      obtain ⟨u1, v1, _, vf1⟩ := S4.out.kn.val hdn
      go_upto_region 7 with fail
      have b5 : But kb w4 (w4.setCell ⟨kb, dn, none⟩ (.bool false)) := (But.refl kb w4).set _ _
      have X5 := hideP (keepQ b5 S4.out.bx (by omega))
      have V5 := (World.cell?_of_block (a := ⟨vb, dn, none⟩) (b5.block vb S4.out.kn.lt.2 (fun e => S4.out.kn.ne e.symm))).trans v1
      have VF5 : ∀ i, (w4.setCell ⟨kb, dn, none⟩ (.bool false)).frozen? ⟨vb, i, none⟩ = false := by
        obtain ⟨cw, q1, _⟩ := S4.out.kn.vl
        exact (cells_of (keepQ b5 q1 (fun e => S4.out.kn.ne e.symm))).2
      have K6 : Hid (KnAt kb vb V (fun s => if s = (dn : Int) then none else K s) ((w4.setCell ⟨kb, dn, none⟩ (.bool false)).setCell ⟨vb, dn, none⟩ (.int .i64 nn))) := S4.out.kn.set hdn (v := nn) (k := none) (fun u hu => by cases hu)
      have b6 : But vb (w4.setCell ⟨kb, dn, none⟩ (.bool false)) ((w4.setCell ⟨kb, dn, none⟩ (.bool false)).setCell ⟨vb, dn, none⟩ (.int .i64 nn)) := (But.refl vb _).set _ _
      have X6 := hideP (keepQ b6 X5.out (by omega))
      have R6 := hideP (keepQ b6 (keepQ b5 S4.out.br (by omega)) (by omega))
      have B6 : Hid (But2 kb vb w ((w4.setCell ⟨kb, dn, none⟩ (.bool false)).setCell ⟨vb, dn, none⟩ (.int .i64 nn))) := ((But2.ofB S4.out.bel).trans (But2.of1 b5)).trans (But2.of2 b6)
      obtain ⟨W5, hW5⟩ : ∃ W5, w4.setCell ⟨kb, dn, none⟩ (.bool false) = W5 := ⟨_, rfl⟩
      rw [hW5] at X5 V5 VF5 K6 X6 R6 B6 ⊢
      clear f0 f1 f2 f3 f4 f5 f6 k1 kf1 v1 vf1 b5 b6 hW5 S4
      have fc := (cells_of X5.out).1
      have f0 := fc 0
      have f1 := fc 1
      have f2 := fc 2
      have f3 := fc 3
      have f4 := fc 4
      have f5 := fc 5
      have f6 := fc 6
      simp at f0 f1 f2 f3 f4 f5 f6
      clear fc
      go_upto_region 8 with fail
      obtain ⟨W6, hW6⟩ : ∃ W6, W5.setCell ⟨vb, dn, none⟩ (.int .i64 nn) = W6 := ⟨_, rfl⟩
      rw [hW6] at K6 X6 R6 B6 ⊢
      clear f0 f1 f2 f3 f4 f5 f6 V5 VF5 X5 hW6
      have fc := (cells_of X6.out).1
      have f0 := fc 0
      have f1 := fc 1
      have f2 := fc 2
      have f3 := fc 3
      have f4 := fc 4
      have f5 := fc 5
      have f6 := fc 6
      simp at f0 f1 f2 f3 f4 f5 f6
      clear fc
      have fc := (cells_of R6.out).1
      have r0 := fc 0
      have r1 := fc 1
      have r2 := fc 2
      have r3 := fc 3
      have r4 := fc 4
      have r5 := fc 5
      have r6 := fc 6
      simp at r0 r1 r2 r3 r4 r5 r6
      clear fc
      have rf := (cells_of R6.out).2
      obtain ⟨z6, bu⟩ := put7n R6.out rfl (.int .i64 op) (.int .i64 (dn : Int)) (.int .i64 a) (.int .i64 b0) (.int .i64 c0) (.int .i64 nn) (.string t)
      have ZF := hideP z6
      have BU := hideP bu
      clear z6 bu
      go_wp2
      refine bodyPost_ret (results_cell_row rfl _ _ (w.heap.size + 1) 48 #[.int .i64 op, .int .i64 (dn : Int), .int .i64 a, .int .i64 b0, .int .i64 c0, .int .i64 nn, .string t] (0, 0) _ rfl ZF.out Try.underlying48 rfl (by kernel_rfl)) rfl ?_
      unfold StepD
      rw [EQ.out]
      refine ⟨rfl, ?_, B6.out.high BU.out (Nat.le_succ _)⟩
      have := K6.out.but BU.out (by omega) (by omega)
      have e9 : setK K (⟨op, (dn : Int), a, b0, c0, nn, t⟩ : Ins) = (fun s => if s = (dn : Int) then none else K s) := by simp [setK, h4, h6, h0]
      rw [e9]
      exact this
end Go.Proofs.Ytjmclmbepnbeoaa
