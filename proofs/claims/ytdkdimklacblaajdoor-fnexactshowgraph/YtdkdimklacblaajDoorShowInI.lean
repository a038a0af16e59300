/- The contract of the program's stepText: the text of a right step. -/
import Derived.Test.YtdkdimklacblaajDoorShowInP
namespace Go.Proofs.YtdkdimklacblaajDoor
open Go.ChangeShapes Go.WideShapes Go.ChangeAt Go.RowKit
theorem opL_len {t : ByteArray} (h : opL t.toList = true) : t.size ≤ 2 := by
  have e : t.toList.length = t.size := by rw [Lib.toList_data]; simp
  unfold opL at h
  simp only [Bool.or_eq_true, beq_iff_eq] at h
  rcases h with ((((h | h) | h) | h) | h) | h <;> (rw [h] at e; simp at e; omega)
/-- What is known of a right step. -/
theorem ok_parts {R V : Int} {x : Ins} (h : insOk R V x = true) : (x.op = 0 ∨ x.op = 1 ∨ x.op = 2 ∨ x.op = 3 ∨ x.op = 4 ∨ x.op = 5 ∨ x.op = 6) ∧ (x.op = 2 → x.t.size ≤ 2) ∧ (x.op = 3 ∨ x.op = 4 → x.a = -1 ∨ 0 ≤ x.a) := by
  refine ⟨?_, fun h2 => ?_, fun h34 => ?_⟩
  · by_cases h0 : x.op = 0 ∨ x.op = 1 ∨ x.op = 2 ∨ x.op = 3 ∨ x.op = 4 ∨ x.op = 5 ∨ x.op = 6
    · exact h0
    · have e : insOk R V x = false := by
        unfold insOk
        rw [if_neg (by omega), if_neg (by omega), if_neg (by omega), if_neg (by omega), if_neg (by omega), if_neg (by omega), if_neg (by omega)]
      rw [e] at h; cases h
  · simp [insOk, h2] at h
    exact opL_len h.2
  · rcases h34 with h3 | h4
    · simp [insOk, h3, plOk, vOk] at h; omega
    · simp [insOk, h4, plOk, vOk] at h; omega
/-- The text that a call answers at whatever world, as a letter. -/
theorem letter {P : Program} {f : Nat} {a : Array Value} {l : List UInt8} {n : Nat} {C : World → Prop} {R : World → World → Prop} (hl : l.length ≤ n) (h : ∀ W, C W → Calls P f a W fun e w' => e = .returned (.string ⟨l.toArray⟩) ∧ R W w') :
    ∃ s : ByteArray, Hid (s.data.toList = l) ∧ s.size ≤ n ∧ Hid (∀ W, C W → Calls P f a W fun e w' => e = .returned (.string s) ∧ R W w') :=
  ⟨⟨l.toArray⟩, by show _ = _; simp, by rw [ba_size']; exact hl, h⟩
set_option maxHeartbeats 8000000 in
set_option maxRecDepth 100000 in
theorem stepText_any (x : Ins) (w : World) (B : Nat) (v : Array Value) (h : InsIs w B v x) (hop : x.op = 0 ∨ x.op = 1 ∨ x.op = 2 ∨ x.op = 3 ∨ x.op = 4 ∨ x.op = 5 ∨ x.op = 6) (h2 : x.op = 2 → x.t.size ≤ 2) (h34 : x.op = 3 ∨ x.op = 4 → x.a = -1 ∨ 0 ≤ x.a) (ht : Tab w) :
    Calls Tryd.prog 18 #[.agg v] w fun e w' => e = .returned (.string ⟨(stepL x).toArray⟩) ∧ Below w.heap.size w w' := by
  have CT := hideP (fun W (hW : Below w.heap.size w W) (h0 : x.op = 3 ∨ x.op = 4) => opq 69 (cellL_len h.2.1.2.2.2.2.2 h.2.1.2.2.1 h.2.1.2.2.2.1) (cellText_any x W B v (InsKeeps.stays h hW) (h34 h0) (tab_below ht hW)))
  have YT := hideP (fun W (hW : Below w.heap.size w W) (h0 : x.op = 3 ∨ x.op = 4) => cellText_any x W B v (InsKeeps.stays h hW) (h34 h0) (tab_below ht hW))
  have LC := hideP (cellL_len h.2.1.2.2.2.2.2 h.2.1.2.2.1 h.2.1.2.2.2.1)
  obtain ⟨op, d, a, b, c, n, t⟩ := x
  obtain ⟨rfl, ⟨_, kd, ka, kb, kc, kn⟩, _⟩ := h
  simp only at *
  have ST := hideP (fun W z (hz : I64 z) (hW : Below w.heap.size w W) => opq 22 (sL_len hz) (slotText_any z hz W (tab_below ht hW)))
  have DT := hideP (fun W (hW : Below w.heap.size w W) => opq (l := Lib.itoa n) 21 (itoa_len kn.1 kn.2) (impl_dec n W kn.1 kn.2 (tab_below ht hW)))
  have XT := hideP (fun W z (hz : I64 z) (hW : Below w.heap.size w W) => slotText_any z hz W (tab_below ht hW))
  have KA := hideP ka
  have KB := hideP kb
  have KC := hideP kc
  have KD := hideP kd
  clear ka kb kc kd kn ht h34
  rcases hop with rfl | rfl | rfl | rfl | rfl | rfl | rfl
  · have E : Hid (stepL ⟨0, d, a, b, c, n, t⟩ = sL d ++ ([32, 61, 32] ++ Lib.itoa n)) := by show _ = _; simp [stepL]
    go_enter Tryd.func18, Tryd.ntmps18
    go_wp2_with fail
    refine (ST.out _ d KD.out ((Below.refl _ _).alloc (Nat.le_refl _) _)).mono ?_
    rintro e1 w1 ⟨s1, rfl, S1, z1, bel1⟩
    have P1 := hideP (keepB (newBk w _) bel1)
    have HW1 := hideP (below_new bel1)
    clear bel1
    have p0 := (cells_of P1.out).1 0
    have p1 := (cells_of P1.out).1 1
    have p2 := (cells_of P1.out).1 2
    have p3 := (cells_of P1.out).1 3
    have p4 := (cells_of P1.out).1 4
    have p5 := (cells_of P1.out).1 5
    have p6 := (cells_of P1.out).1 6
    simp at p0 p1 p2 p3 p4 p5 p6
    go_wp2_with fail
    refine (DT.out _ HW1.out).mono ?_
    rintro e2 w2 ⟨s2, rfl, S2, z2, bel2⟩
    have HW2 := hideP (below_trans HW1.out bel2)
    clear bel2 p0 p1 p2 p3 p4 p5 p6
    go_wp2
    go_ret
    exact ⟨ret_str (mk_of (by rw [E.out]; simp [S1.out, S2.out])), HW2.out⟩
  · have E : Hid (stepL ⟨1, d, a, b, c, n, t⟩ = sL d ++ ([32, 61, 32] ++ sL a)) := by show _ = _; simp [stepL]
    go_enter Tryd.func18, Tryd.ntmps18
    go_wp2_with fail
    refine (ST.out _ d KD.out ((Below.refl _ _).alloc (Nat.le_refl _) _)).mono ?_
    rintro e1 w1 ⟨s1, rfl, S1, z1, bel1⟩
    have P1 := hideP (keepB (newBk w _) bel1)
    have HW1 := hideP (below_new bel1)
    clear bel1
    have p0 := (cells_of P1.out).1 0
    have p1 := (cells_of P1.out).1 1
    have p2 := (cells_of P1.out).1 2
    have p3 := (cells_of P1.out).1 3
    have p4 := (cells_of P1.out).1 4
    have p5 := (cells_of P1.out).1 5
    have p6 := (cells_of P1.out).1 6
    simp at p0 p1 p2 p3 p4 p5 p6
    go_wp2_with fail
    refine (ST.out _ a KA.out HW1.out).mono ?_
    rintro e2 w2 ⟨s2, rfl, S2, z2, bel2⟩
    have HW2 := hideP (below_trans HW1.out bel2)
    clear bel2 p0 p1 p2 p3 p4 p5 p6
    go_wp2
    go_ret
    exact ⟨ret_str (mk_of (by rw [E.out]; simp [S1.out, S2.out])), HW2.out⟩
  · have z9 : t.size ≤ 2 := h2 rfl
    clear h2
    have E : Hid (stepL ⟨2, d, a, b, c, n, t⟩ = sL d ++ ([32, 61, 32] ++ (sL a ++ (32 :: (t.data.toList ++ (32 :: sL b)))))) := by show _ = _; simp [stepL]
    go_enter Tryd.func18, Tryd.ntmps18
    go_wp2_with fail
    refine (ST.out _ d KD.out ((Below.refl _ _).alloc (Nat.le_refl _) _)).mono ?_
    rintro e1 w1 ⟨s1, rfl, S1, z1, bel1⟩
    have P1 := hideP (keepB (newBk w _) bel1)
    have HW1 := hideP (below_new bel1)
    clear bel1
    have p0 := (cells_of P1.out).1 0
    have p1 := (cells_of P1.out).1 1
    have p2 := (cells_of P1.out).1 2
    have p3 := (cells_of P1.out).1 3
    have p4 := (cells_of P1.out).1 4
    have p5 := (cells_of P1.out).1 5
    have p6 := (cells_of P1.out).1 6
    simp at p0 p1 p2 p3 p4 p5 p6
    have hlb : w.heap.size < w1.heap.size := (Array.getElem?_eq_some_iff.1 P1.out).1
    have SK : Hid (∀ W', Below w1.heap.size w1 W' → W'.cell? ⟨w.heap.size, 0, none⟩ = some (.int .i64 2) ∧ W'.cell? ⟨w.heap.size, 1, none⟩ = some (.int .i64 d) ∧ W'.cell? ⟨w.heap.size, 2, none⟩ = some (.int .i64 a) ∧ W'.cell? ⟨w.heap.size, 3, none⟩ = some (.int .i64 b) ∧ W'.cell? ⟨w.heap.size, 4, none⟩ = some (.int .i64 c) ∧ W'.cell? ⟨w.heap.size, 5, none⟩ = some (.int .i64 n) ∧ W'.cell? ⟨w.heap.size, 6, none⟩ = some (.string t)) := fun W' hW => by
      have e0 := (cells_of P1.out).1
      exact ⟨(hW.cell (p := ⟨w.heap.size, 0, none⟩) hlb).trans (e0 0), (hW.cell (p := ⟨w.heap.size, 1, none⟩) hlb).trans (e0 1), (hW.cell (p := ⟨w.heap.size, 2, none⟩) hlb).trans (e0 2), (hW.cell (p := ⟨w.heap.size, 3, none⟩) hlb).trans (e0 3), (hW.cell (p := ⟨w.heap.size, 4, none⟩) hlb).trans (e0 4), (hW.cell (p := ⟨w.heap.size, 5, none⟩) hlb).trans (e0 5), (hW.cell (p := ⟨w.heap.size, 6, none⟩) hlb).trans (e0 6)⟩
    obtain ⟨s2, S2, z2, SA⟩ := letter (sL_len KA.out) (fun W (hW : Below w.heap.size w W) => XT.out W a KA.out hW)
    obtain ⟨s3, S3, z3, SB⟩ := letter (sL_len KB.out) (fun W (hW : Below w.heap.size w W) => XT.out W b KB.out hW)
    have m1 : ¬ 9223372036854775807 < s1.size + 3 + s2.size := by omega
    have m2 : ¬ 9223372036854775807 < s1.size + 3 + s2.size + 1 := by omega
    have m3 : ¬ 9223372036854775807 < s1.size + 3 + s2.size + 1 + t.size := by omega
    have m4 : ¬ 9223372036854775807 < s1.size + 3 + s2.size + 1 + t.size + 1 := by omega
    have m5 : ¬ 9223372036854775807 < s1.size + 3 + s2.size + 1 + t.size + 1 + s3.size := by omega
    go_wp2
    clear p0 p1 p2 p3 p4 p5 p6
    go_region_held3 (fun W' => W'.cell? ⟨w.heap.size, 0, none⟩ = some (.int .i64 2) ∧ W'.cell? ⟨w.heap.size, 1, none⟩ = some (.int .i64 d) ∧ W'.cell? ⟨w.heap.size, 2, none⟩ = some (.int .i64 a) ∧ W'.cell? ⟨w.heap.size, 3, none⟩ = some (.int .i64 b) ∧ W'.cell? ⟨w.heap.size, 4, none⟩ = some (.int .i64 c) ∧ W'.cell? ⟨w.heap.size, 5, none⟩ = some (.int .i64 n) ∧ W'.cell? ⟨w.heap.size, 6, none⟩ = some (.string t)) (first | exact SK.out _ (Below.refl _ _).drew | exact SK.out _ HB3.out | exact SK.out _ HB2.out) (first
      | (go_at_call 33; refine (SA.out _ HW1.out.drew).mono ?_; rintro e2 w2 ⟨rfl, bel2⟩; have HB2 := hideP ((Below.refl w1.heap.size w1).drew.trans (bel2.mono (Nat.le_refl _))); clear bel2 SA)
      | (go_at_call 33; refine (SB.out _ (HW1.out.trans (HB2.out.mono HW1.out.size))).mono ?_; rintro e3 w3 ⟨rfl, bel3⟩; have HB3 := hideP (HB2.out.trans (bel3.mono HB2.out.size)); clear bel3 SB))
    all_goals (go_wp2; go_ret; exact ⟨ret_str (mk_of (by rw [E.out]; simp [S1.out, S2.out, S3.out])), HW1.out.trans (HB3.out.mono HW1.out.size)⟩)
  · have E : Hid (stepL ⟨3, d, a, b, c, n, t⟩ = sL d ++ ([32, 61, 32] ++ cellL n a b)) := by show _ = _; simp [stepL]
    go_enter Tryd.func18, Tryd.ntmps18
    go_wp2_with fail
    refine (ST.out _ d KD.out ((Below.refl _ _).alloc (Nat.le_refl _) _)).mono ?_
    rintro e1 w1 ⟨s1, rfl, S1, z1, bel1⟩
    have P1 := hideP (keepB (newBk w _) bel1)
    have HW1 := hideP (below_new bel1)
    clear bel1
    have p0 := (cells_of P1.out).1 0
    have p1 := (cells_of P1.out).1 1
    have p2 := (cells_of P1.out).1 2
    have p3 := (cells_of P1.out).1 3
    have p4 := (cells_of P1.out).1 4
    have p5 := (cells_of P1.out).1 5
    have p6 := (cells_of P1.out).1 6
    simp at p0 p1 p2 p3 p4 p5 p6
    go_wp2_with fail
    refine (CT.out _ HW1.out (by simp)).mono ?_
    rintro e2 w2 ⟨s2, rfl, S2, z2, bel2⟩
    have HW2 := hideP (below_trans HW1.out bel2)
    clear bel2 p0 p1 p2 p3 p4 p5 p6
    go_wp2
    go_ret
    exact ⟨ret_str (mk_of (by rw [E.out]; simp [S1.out, S2.out])), HW2.out⟩
  · have E : Hid (stepL ⟨4, d, a, b, c, n, t⟩ = cellL n a b ++ ([32, 61, 32] ++ sL c)) := by show _ = _; simp [stepL]
    go_enter Tryd.func18, Tryd.ntmps18
    go_wp2_with fail
    refine (ST.out _ d KD.out ((Below.refl _ _).alloc (Nat.le_refl _) _)).mono ?_
    rintro e1 w1 ⟨s1, rfl, S1, z1, bel1⟩
    have P1 := hideP (keepB (newBk w _) bel1)
    have HW1 := hideP (below_new bel1)
    clear bel1
    have p0 := (cells_of P1.out).1 0
    have p1 := (cells_of P1.out).1 1
    have p2 := (cells_of P1.out).1 2
    have p3 := (cells_of P1.out).1 3
    have p4 := (cells_of P1.out).1 4
    have p5 := (cells_of P1.out).1 5
    have p6 := (cells_of P1.out).1 6
    simp at p0 p1 p2 p3 p4 p5 p6
    have hlb : w.heap.size < w1.heap.size := (Array.getElem?_eq_some_iff.1 P1.out).1
    have SK : Hid (∀ W', Below w1.heap.size w1 W' → W'.cell? ⟨w.heap.size, 0, none⟩ = some (.int .i64 4) ∧ W'.cell? ⟨w.heap.size, 1, none⟩ = some (.int .i64 d) ∧ W'.cell? ⟨w.heap.size, 2, none⟩ = some (.int .i64 a) ∧ W'.cell? ⟨w.heap.size, 3, none⟩ = some (.int .i64 b) ∧ W'.cell? ⟨w.heap.size, 4, none⟩ = some (.int .i64 c) ∧ W'.cell? ⟨w.heap.size, 5, none⟩ = some (.int .i64 n) ∧ W'.cell? ⟨w.heap.size, 6, none⟩ = some (.string t)) := fun W' hW => by
      have e0 := (cells_of P1.out).1
      exact ⟨(hW.cell (p := ⟨w.heap.size, 0, none⟩) hlb).trans (e0 0), (hW.cell (p := ⟨w.heap.size, 1, none⟩) hlb).trans (e0 1), (hW.cell (p := ⟨w.heap.size, 2, none⟩) hlb).trans (e0 2), (hW.cell (p := ⟨w.heap.size, 3, none⟩) hlb).trans (e0 3), (hW.cell (p := ⟨w.heap.size, 4, none⟩) hlb).trans (e0 4), (hW.cell (p := ⟨w.heap.size, 5, none⟩) hlb).trans (e0 5), (hW.cell (p := ⟨w.heap.size, 6, none⟩) hlb).trans (e0 6)⟩
    obtain ⟨s2, S2, z2, SA⟩ := letter LC.out (fun W (hW : Below w.heap.size w W) => YT.out W hW (by simp))
    obtain ⟨s3, S3, z3, SB⟩ := letter (sL_len KC.out) (fun W (hW : Below w.heap.size w W) => XT.out W c KC.out hW)
    have m1 : ¬ 9223372036854775807 < s2.size + 3 := by omega
    have m2 : ¬ 9223372036854775807 < s2.size + 3 + s3.size := by omega
    go_wp2
    clear p0 p1 p2 p3 p4 p5 p6
    go_region_held3 (fun W' => W'.cell? ⟨w.heap.size, 0, none⟩ = some (.int .i64 4) ∧ W'.cell? ⟨w.heap.size, 1, none⟩ = some (.int .i64 d) ∧ W'.cell? ⟨w.heap.size, 2, none⟩ = some (.int .i64 a) ∧ W'.cell? ⟨w.heap.size, 3, none⟩ = some (.int .i64 b) ∧ W'.cell? ⟨w.heap.size, 4, none⟩ = some (.int .i64 c) ∧ W'.cell? ⟨w.heap.size, 5, none⟩ = some (.int .i64 n) ∧ W'.cell? ⟨w.heap.size, 6, none⟩ = some (.string t)) (first | exact SK.out _ (Below.refl _ _).drew | exact SK.out _ HB3.out | exact SK.out _ HB2.out) (first
      | (go_at_call 34; refine (SA.out _ HW1.out.drew).mono ?_; rintro e2 w2 ⟨rfl, bel2⟩; have HB2 := hideP ((Below.refl w1.heap.size w1).drew.trans (bel2.mono (Nat.le_refl _))); clear bel2)
      | (go_at_call 33; refine (SB.out _ (HW1.out.trans (HB2.out.mono HW1.out.size))).mono ?_; rintro e3 w3 ⟨rfl, bel3⟩; have HB3 := hideP (HB2.out.trans (bel3.mono HB2.out.size)); clear bel3))
    all_goals (go_wp2; go_ret; exact ⟨ret_str (mk_of (by rw [E.out]; simp [S2.out, S3.out])), HW1.out.trans (HB3.out.mono HW1.out.size)⟩)
  · have E : Hid (stepL ⟨5, d, a, b, c, n, t⟩ = sL d ++ [32, 61, 32, 103, 101, 116]) := by show _ = _; simp [stepL]
    go_enter Tryd.func18, Tryd.ntmps18
    go_wp2_with fail
    refine (ST.out _ d KD.out ((Below.refl _ _).alloc (Nat.le_refl _) _)).mono ?_
    rintro e1 w1 ⟨s1, rfl, S1, z1, bel1⟩
    have P1 := hideP (keepB (newBk w _) bel1)
    have HW1 := hideP (below_new bel1)
    clear bel1
    have p0 := (cells_of P1.out).1 0
    have p1 := (cells_of P1.out).1 1
    have p2 := (cells_of P1.out).1 2
    have p3 := (cells_of P1.out).1 3
    have p4 := (cells_of P1.out).1 4
    have p5 := (cells_of P1.out).1 5
    have p6 := (cells_of P1.out).1 6
    simp at p0 p1 p2 p3 p4 p5 p6
    go_wp2
    go_ret
    exact ⟨ret_str (mk_of (by rw [E.out]; simp [S1.out])), HW1.out⟩
  · have E : Hid (stepL ⟨6, d, a, b, c, n, t⟩ = [112, 117, 116, 32] ++ sL a) := by show _ = _; simp [stepL]
    go_enter Tryd.func18, Tryd.ntmps18
    go_wp2_with fail
    refine (ST.out _ d KD.out ((Below.refl _ _).alloc (Nat.le_refl _) _)).mono ?_
    rintro e1 w1 ⟨s1, rfl, S1, z1, bel1⟩
    have P1 := hideP (keepB (newBk w _) bel1)
    have HW1 := hideP (below_new bel1)
    clear bel1
    have p0 := (cells_of P1.out).1 0
    have p1 := (cells_of P1.out).1 1
    have p2 := (cells_of P1.out).1 2
    have p3 := (cells_of P1.out).1 3
    have p4 := (cells_of P1.out).1 4
    have p5 := (cells_of P1.out).1 5
    have p6 := (cells_of P1.out).1 6
    simp at p0 p1 p2 p3 p4 p5 p6
    go_wp2_with fail
    refine (ST.out _ a KA.out HW1.out).mono ?_
    rintro e2 w2 ⟨s2, rfl, S2, z2, bel2⟩
    have HW2 := hideP (below_trans HW1.out bel2)
    clear bel2 p0 p1 p2 p3 p4 p5 p6
    go_wp2
    go_ret
    exact ⟨ret_str (mk_of (by rw [E.out]; simp [S2.out])), HW2.out⟩
end Go.Proofs.YtdkdimklacblaajDoor
