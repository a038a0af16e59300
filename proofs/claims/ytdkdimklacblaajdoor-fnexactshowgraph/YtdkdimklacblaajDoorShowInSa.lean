/- The text of a step, by the specification. -/
import Derived.Test.YtdkdimklacblaajDoorShowInI
namespace Go.Proofs.YtdkdimklacblaajDoor
open Go.ChangeShapes Go.WideShapes Go.ChangeAt Go.RowKit
theorem dec_let (z : Int) (hz : I64 z) : ∃ s : ByteArray, Hid (s.data.toList = Lib.itoa z) ∧ s.size ≤ 21 ∧ Hid (∀ W, Calls Tryd.prog 12 #[.int .i64 z] W fun e w' => e = .returned (.string s) ∧ w' = W) :=
  ⟨⟨(Lib.itoa z).toArray⟩, by show _ = _; simp, by rw [ba_size']; exact itoa_len hz.1 hz.2, fun W => spec_dec z W hz.1 hz.2⟩
set_option maxHeartbeats 2000000 in
theorem l04At_any (x : Ins) (w : World) (B : Nat) (v : Array Value) (h : InsIs w B v x) :
    Calls Tryd.prog 26 #[.agg v] w fun e w' => e = .returned (.string ⟨(cellL x.n x.a x.b).toArray⟩) ∧ Below w.heap.size w w' := by
  obtain ⟨op, d, a, b, c, n, t⟩ := x
  obtain ⟨rfl, ⟨_, _, ka, kb, _, kn⟩, _⟩ := h
  simp only at *
  obtain ⟨sn, SN, zn, CN⟩ := dec_let n kn
  obtain ⟨sa, SA, za, CA⟩ := dec_let a ka
  obtain ⟨sb, SB, zb, CB⟩ := dec_let b kb
  clear ka kb kn
  by_cases hn : a < 0
  · have E : Hid (plL a b = sL b) := if_pos hn
    go_enter Tryd.func26, Tryd.ntmps26
    go_wp2_with fail
    refine (CN.out _).mono ?_
    rintro e1 w1 ⟨rfl, rfl⟩
    go_wp2_with fail
    refine (CB.out _).mono ?_
    rintro e2 w2 ⟨rfl, rfl⟩
    go_wp2
    go_ret
    exact ⟨ret_str (mk_of (by simp [cellL, E.out, sL, SN.out, SB.out])), (Below.refl _ _).alloc (Nat.le_refl _) _⟩
  · have E : Hid (plL a b = sL a ++ (43 :: sL b)) := if_neg hn
    have ha : 0 ≤ a := by omega
    go_enter Tryd.func26, Tryd.ntmps26
    go_wp2_with fail
    refine (CN.out _).mono ?_
    rintro e1 w1 ⟨rfl, rfl⟩
    go_wp2_with fail
    refine (CA.out _).mono ?_
    rintro e2 w2 ⟨rfl, rfl⟩
    go_wp2_with fail
    refine (CB.out _).mono ?_
    rintro e3 w3 ⟨rfl, rfl⟩
    go_wp2
    go_ret
    exact ⟨ret_str (mk_of (by simp [cellL, E.out, sL, SN.out, SA.out, SB.out])), (Below.refl _ _).alloc (Nat.le_refl _) _⟩
set_option maxHeartbeats 8000000 in
set_option maxRecDepth 100000 in
theorem l04Text_any (x : Ins) (w : World) (B : Nat) (v : Array Value) (h : InsIs w B v x) (hop : x.op = 0 ∨ x.op = 1 ∨ x.op = 2 ∨ x.op = 3 ∨ x.op = 4 ∨ x.op = 5 ∨ x.op = 6) (h2 : x.op = 2 → x.t.size ≤ 2) :
    Calls Tryd.prog 13 #[.agg v] w fun e w' => e = .returned (.string ⟨(stepL x).toArray⟩) ∧ Below w.heap.size w w' := by
  obtain ⟨sc, SC, zc, CC⟩ := letter (cellL_len h.2.1.2.2.2.2.2 h.2.1.2.2.1 h.2.1.2.2.2.1) (fun W (hW : Below w.heap.size w W) => l04At_any x W B v (InsKeeps.stays h hW))
  obtain ⟨op, d, a, b, c, n, t⟩ := x
  obtain ⟨rfl, ⟨_, kd, ka, kb, kc, kn⟩, _⟩ := h
  simp only at *
  obtain ⟨sn, SN, zn, CN⟩ := dec_let n kn
  obtain ⟨sa, SA, za, CA⟩ := dec_let a ka
  obtain ⟨sb, SB, zb, CB⟩ := dec_let b kb
  obtain ⟨se, SE, ze, CE⟩ := dec_let c kc
  obtain ⟨sd, SD, zd, CD⟩ := dec_let d kd
  clear ka kb kc kd kn
  rcases hop with rfl | rfl | rfl | rfl | rfl | rfl | rfl
  · have E : Hid (stepL ⟨0, d, a, b, c, n, t⟩ = sL d ++ ([32, 61, 32] ++ Lib.itoa n)) := by show _ = _; simp [stepL]
    go_enter Tryd.func13, Tryd.ntmps13
    go_wp2_with fail
    refine (CD.out _).mono ?_
    rintro e1 w1 ⟨rfl, rfl⟩
    go_wp2_with fail
    refine (CN.out _).mono ?_
    rintro e2 w2 ⟨rfl, rfl⟩
    go_wp2
    go_ret
    exact ⟨ret_str (mk_of (by rw [E.out]; simp [sL, SD.out, SN.out])), (Below.refl _ _).alloc (Nat.le_refl _) _⟩
  · have E : Hid (stepL ⟨1, d, a, b, c, n, t⟩ = sL d ++ ([32, 61, 32] ++ sL a)) := by show _ = _; simp [stepL]
    go_enter Tryd.func13, Tryd.ntmps13
    go_wp2_with fail
    refine (CD.out _).mono ?_
    rintro e1 w1 ⟨rfl, rfl⟩
    go_wp2_with fail
    refine (CA.out _).mono ?_
    rintro e2 w2 ⟨rfl, rfl⟩
    go_wp2
    go_ret
    exact ⟨ret_str (mk_of (by rw [E.out]; simp [sL, SD.out, SA.out])), (Below.refl _ _).alloc (Nat.le_refl _) _⟩
  · have z9 : t.size ≤ 2 := h2 rfl
    clear h2
    have E : Hid (stepL ⟨2, d, a, b, c, n, t⟩ = sL d ++ ([32, 61, 32] ++ (sL a ++ (32 :: (t.data.toList ++ (32 :: sL b)))))) := by show _ = _; simp [stepL]
    go_enter Tryd.func13, Tryd.ntmps13
    go_wp2_with fail
    refine (CD.out _).mono ?_
    rintro e1 w1 ⟨rfl, rfl⟩
    obtain ⟨wb, hwb⟩ : ∃ wb, w.alloc (.cells #[.int .i64 2, .int .i64 d, .int .i64 a, .int .i64 b, .int .i64 c, .int .i64 n, .string t] 43) = wb := ⟨_, rfl⟩
    have hq : wb.heap[w.heap.size]? = some (.cells #[.int .i64 2, .int .i64 d, .int .i64 a, .int .i64 b, .int .i64 c, .int .i64 n, .string t] 43) := by rw [← hwb]; exact newBk w _
    have HB0 : Hid (Below w.heap.size w wb) := by rw [← hwb]; exact (Below.refl _ _).alloc (Nat.le_refl _) _
    have hlb : w.heap.size < wb.heap.size := (Array.getElem?_eq_some_iff.1 hq).1
    rw [hwb]
    have SK : Hid (∀ W', Below wb.heap.size wb W' → W'.cell? ⟨w.heap.size, 0, none⟩ = some (.int .i64 2) ∧ W'.cell? ⟨w.heap.size, 1, none⟩ = some (.int .i64 d) ∧ W'.cell? ⟨w.heap.size, 2, none⟩ = some (.int .i64 a) ∧ W'.cell? ⟨w.heap.size, 3, none⟩ = some (.int .i64 b) ∧ W'.cell? ⟨w.heap.size, 4, none⟩ = some (.int .i64 c) ∧ W'.cell? ⟨w.heap.size, 5, none⟩ = some (.int .i64 n) ∧ W'.cell? ⟨w.heap.size, 6, none⟩ = some (.string t)) := fun W' hW => by
      have e0 := (cells_of hq).1
      exact ⟨(hW.cell (p := ⟨w.heap.size, 0, none⟩) hlb).trans (e0 0), (hW.cell (p := ⟨w.heap.size, 1, none⟩) hlb).trans (e0 1), (hW.cell (p := ⟨w.heap.size, 2, none⟩) hlb).trans (e0 2), (hW.cell (p := ⟨w.heap.size, 3, none⟩) hlb).trans (e0 3), (hW.cell (p := ⟨w.heap.size, 4, none⟩) hlb).trans (e0 4), (hW.cell (p := ⟨w.heap.size, 5, none⟩) hlb).trans (e0 5), (hW.cell (p := ⟨w.heap.size, 6, none⟩) hlb).trans (e0 6)⟩
    have p0 := (cells_of hq).1 0
    simp at p0
    have m0 : ¬ 9223372036854775807 < 1 + sd.size + 3 + 1 := by omega
    have m1 : ¬ 9223372036854775807 < 1 + sd.size + 3 + 1 + sa.size := by omega
    have m2 : ¬ 9223372036854775807 < 1 + sd.size + 3 + 1 + sa.size + 1 := by omega
    have m3 : ¬ 9223372036854775807 < 1 + sd.size + 3 + 1 + sa.size + 1 + t.size := by omega
    have m4 : ¬ 9223372036854775807 < 1 + sd.size + 3 + 1 + sa.size + 1 + t.size + 2 := by omega
    have m5 : ¬ 9223372036854775807 < 1 + sd.size + 3 + 1 + sa.size + 1 + t.size + 2 + sb.size := by omega
    clear hq hwb
    go_wp2
    clear p0
    go_region_held3 (fun W' => W'.cell? ⟨w.heap.size, 0, none⟩ = some (.int .i64 2) ∧ W'.cell? ⟨w.heap.size, 1, none⟩ = some (.int .i64 d) ∧ W'.cell? ⟨w.heap.size, 2, none⟩ = some (.int .i64 a) ∧ W'.cell? ⟨w.heap.size, 3, none⟩ = some (.int .i64 b) ∧ W'.cell? ⟨w.heap.size, 4, none⟩ = some (.int .i64 c) ∧ W'.cell? ⟨w.heap.size, 5, none⟩ = some (.int .i64 n) ∧ W'.cell? ⟨w.heap.size, 6, none⟩ = some (.string t)) (first | exact SK.out _ (Below.refl _ _).drew) (first
      | (go_at_call 12; refine (CA.out _).mono ?_; rintro e2 w2 ⟨rfl, rfl⟩; have HB2 := hideP ((Below.refl wb.heap.size wb).drew); clear CA)
      | (go_at_call 12; refine (CB.out _).mono ?_; rintro e3 w3 ⟨rfl, rfl⟩; have HB3 := hideP ((Below.refl wb.heap.size wb).drew); clear CB))
    all_goals (go_wp2; go_ret; exact ⟨ret_str (mk_of (by rw [E.out]; simp [sL, SD.out, SA.out, SB.out])), HB0.out.trans (HB3.out.mono (Nat.le_of_lt hlb))⟩)
  · have E : Hid (stepL ⟨3, d, a, b, c, n, t⟩ = sL d ++ ([32, 61, 32] ++ cellL n a b)) := by show _ = _; simp [stepL]
    go_enter Tryd.func13, Tryd.ntmps13
    go_wp2_with fail
    refine (CD.out _).mono ?_
    rintro e1 w1 ⟨rfl, rfl⟩
    go_wp2_with fail
    refine (CC.out _ ((Below.refl _ _).alloc (Nat.le_refl _) _)).mono ?_
    rintro e2 w2 ⟨rfl, bel2⟩
    have HW2 := hideP (below_new bel2)
    clear bel2
    go_wp2
    go_ret
    exact ⟨ret_str (mk_of (by rw [E.out]; simp [sL, SD.out, SC.out])), HW2.out⟩
  · have E : Hid (stepL ⟨4, d, a, b, c, n, t⟩ = cellL n a b ++ ([32, 61, 32] ++ sL c)) := by show _ = _; simp [stepL]
    go_enter Tryd.func13, Tryd.ntmps13
    go_wp2_with fail
    refine (CD.out _).mono ?_
    rintro e1 w1 ⟨rfl, rfl⟩
    obtain ⟨wb, hwb⟩ : ∃ wb, w.alloc (.cells #[.int .i64 4, .int .i64 d, .int .i64 a, .int .i64 b, .int .i64 c, .int .i64 n, .string t] 43) = wb := ⟨_, rfl⟩
    have hq : wb.heap[w.heap.size]? = some (.cells #[.int .i64 4, .int .i64 d, .int .i64 a, .int .i64 b, .int .i64 c, .int .i64 n, .string t] 43) := by rw [← hwb]; exact newBk w _
    have HB0 : Hid (Below w.heap.size w wb) := by rw [← hwb]; exact (Below.refl _ _).alloc (Nat.le_refl _) _
    have hlb : w.heap.size < wb.heap.size := (Array.getElem?_eq_some_iff.1 hq).1
    rw [hwb]
    have SK : Hid (∀ W', Below wb.heap.size wb W' → W'.cell? ⟨w.heap.size, 0, none⟩ = some (.int .i64 4) ∧ W'.cell? ⟨w.heap.size, 1, none⟩ = some (.int .i64 d) ∧ W'.cell? ⟨w.heap.size, 2, none⟩ = some (.int .i64 a) ∧ W'.cell? ⟨w.heap.size, 3, none⟩ = some (.int .i64 b) ∧ W'.cell? ⟨w.heap.size, 4, none⟩ = some (.int .i64 c) ∧ W'.cell? ⟨w.heap.size, 5, none⟩ = some (.int .i64 n) ∧ W'.cell? ⟨w.heap.size, 6, none⟩ = some (.string t)) := fun W' hW => by
      have e0 := (cells_of hq).1
      exact ⟨(hW.cell (p := ⟨w.heap.size, 0, none⟩) hlb).trans (e0 0), (hW.cell (p := ⟨w.heap.size, 1, none⟩) hlb).trans (e0 1), (hW.cell (p := ⟨w.heap.size, 2, none⟩) hlb).trans (e0 2), (hW.cell (p := ⟨w.heap.size, 3, none⟩) hlb).trans (e0 3), (hW.cell (p := ⟨w.heap.size, 4, none⟩) hlb).trans (e0 4), (hW.cell (p := ⟨w.heap.size, 5, none⟩) hlb).trans (e0 5), (hW.cell (p := ⟨w.heap.size, 6, none⟩) hlb).trans (e0 6)⟩
    have p0 := (cells_of hq).1 0
    simp at p0
    have m0 : ¬ 9223372036854775807 < sc.size + 4 := by omega
    have m1 : ¬ 9223372036854775807 < sc.size + 4 + se.size := by omega
    clear hq hwb
    go_wp2
    clear p0
    go_region_held3 (fun W' => W'.cell? ⟨w.heap.size, 0, none⟩ = some (.int .i64 4) ∧ W'.cell? ⟨w.heap.size, 1, none⟩ = some (.int .i64 d) ∧ W'.cell? ⟨w.heap.size, 2, none⟩ = some (.int .i64 a) ∧ W'.cell? ⟨w.heap.size, 3, none⟩ = some (.int .i64 b) ∧ W'.cell? ⟨w.heap.size, 4, none⟩ = some (.int .i64 c) ∧ W'.cell? ⟨w.heap.size, 5, none⟩ = some (.int .i64 n) ∧ W'.cell? ⟨w.heap.size, 6, none⟩ = some (.string t)) (first | exact SK.out _ (Below.refl _ _).drew | exact SK.out _ HB2.out) (first
      | (go_at_call 26; refine (CC.out _ HB0.out.drew).mono ?_; rintro e2 w2 ⟨rfl, bel2⟩; have HB2 := hideP ((Below.refl wb.heap.size wb).drew.trans (bel2.mono (Nat.le_refl _))); clear bel2)
      | (go_at_call 12; refine (CE.out _).mono ?_; rintro e3 w3 ⟨rfl, rfl⟩; have HB3 := hideP HB2.out))
    all_goals (go_wp2; go_ret; exact ⟨ret_str (mk_of (by rw [E.out]; simp [sL, SC.out, SE.out])), HB0.out.trans (HB3.out.mono (Nat.le_of_lt hlb))⟩)
  · have E : Hid (stepL ⟨5, d, a, b, c, n, t⟩ = sL d ++ [32, 61, 32, 103, 101, 116]) := by show _ = _; simp [stepL]
    go_enter Tryd.func13, Tryd.ntmps13
    go_wp2_with fail
    refine (CD.out _).mono ?_
    rintro e1 w1 ⟨rfl, rfl⟩
    go_wp2
    go_ret
    exact ⟨ret_str (mk_of (by rw [E.out]; simp [sL, SD.out])), (Below.refl _ _).alloc (Nat.le_refl _) _⟩
  · have E : Hid (stepL ⟨6, d, a, b, c, n, t⟩ = [112, 117, 116, 32] ++ sL a) := by show _ = _; simp [stepL]
    go_enter Tryd.func13, Tryd.ntmps13
    go_wp2_with fail
    refine (CD.out _).mono ?_
    rintro e1 w1 ⟨rfl, rfl⟩
    go_wp2_with fail
    refine (CA.out _).mono ?_
    rintro e2 w2 ⟨rfl, rfl⟩
    go_wp2
    go_ret
    exact ⟨ret_str (mk_of (by rw [E.out]; simp [sL, SA.out])), (Below.refl _ _).alloc (Nat.le_refl _) _⟩
end Go.Proofs.YtdkdimklacblaajDoor
