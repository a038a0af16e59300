/- The contract of spec.ShowCode. -/
import Derived.Test.YtfoelnblnfcaiaaDoorScP
import Derived.Test.YtfoelnblnfcaiaaDoorDec
import Derived.BigQuiet
import Derived.Deep.RegionWith
namespace Go.Proofs.YtfoelnblnfcaiaaDoor
open Go.ChangeShapes Go.WideShapes Go.ChangeAt Go.RowKit
theorem letS (n : Int) (h : I64 n) : ∃ ts : ByteArray, Hid (ts.data.toList = Lib.itoa n) ∧ ts.size ≤ 21 ∧ Hid (∀ W, Calls Tryd.prog 12 #[.int .i64 n] W fun e w' => e = .returned (.string ts) ∧ w' = W) :=
  ⟨⟨(Lib.itoa n).toArray⟩, by show _ = _; simp, by have := itoa_len h.1 h.2; simpa [ByteArray.size] using this, fun W => spec_dec n W h.1 h.2⟩
theorem mk_ofS {s : ByteArray} {l : List UInt8} (h : s.data.toList = l) : s = ⟨l.toArray⟩ := by subst h; rfl
set_option maxHeartbeats 16000000 in
set_option maxRecDepth 100000 in
theorem spec_showCode (m : Img) (w : World) (B : Nat) (v : Array Value) (h : ImgIs w B v m) (GO : ImOk 11 m) :
    Calls Tryd.prog 5 #[.agg v] w fun en w' => en = .returned (.string ⟨(showL m).toArray⟩) ∧ Below w.heap.size w w' := by
  obtain ⟨y, hy⟩ : ∃ y, imgOk m = y := ⟨_, rfl⟩
  have CY : Hid (∀ W, Below w.heap.size w W → Calls Tryd.prog 11 #[.agg v] W fun en w' => en = .returned (.bool y) ∧ Below W.heap.size W w') := fun W hW => by rw [← hy]; exact GO W B v (ImgKeeps.stays h hW)
  have HN : Hid (y = true → m.code.length ≤ 6000) := fun e => (imgOk_few (by rw [hy]; exact e)).1
  have HQ : Hid (y = true → ∀ x ∈ m.code, ∃ q : Nat, x.op = (q : Int) ∧ q < 12) := fun e x hx => imgOk_word (by rw [hy]; exact e) hx
  have EP : Hid (showL m = if y = true then (scUp m.code m.code.length).flatten else []) := by show _ = _; unfold showL; rw [hy]
  obtain ⟨P, hP⟩ : ∃ P, showL m = P := ⟨_, rfl⟩
  rw [hP] at EP ⊢
  clear hy hP GO
  obtain ⟨sizes, params, slots, code⟩ := m
  obtain ⟨us, cs, ub, cb, rfl, _, _, hb⟩ := h
  simp only at *
  have hm := maxLen_lt
  have hl := hb.1
  have HB := hideP hb
  clear hb
  have AL := hideP (below2 w (.cells #[.slice us sizes.length cs, .int .i64 params, .int .i64 slots, .slice ub code.length cb] 30) (.cells opV 9))
  have TW := two (w := w) (o1 := .cells #[.slice us sizes.length cs, .int .i64 params, .int .i64 slots, .slice ub code.length cb] 30) (o2 := .cells opV 9) (Below.refl _ _)
  have BX1 := hideP TW.1
  have NB1 := hideP TW.2.1
  clear TW
  have eV : opV = #[.string ⟨#[108, 105]⟩, .string ⟨#[108, 100]⟩, .string ⟨#[115, 100]⟩, .string ⟨#[97, 108, 117]⟩, .string ⟨#[108, 120]⟩, .string ⟨#[115, 120]⟩, .string ⟨#[105, 110]⟩, .string ⟨#[111, 117, 116]⟩, .string ⟨#[106, 109, 112]⟩, .string ⟨#[106, 122]⟩, .string ⟨#[114, 101, 116]⟩, .string ⟨#[109, 118]⟩] := rfl
  go_enter Tryd.func5, Tryd.ntmps5
  go_wp2
  rw [← eV]
  obtain ⟨WG, hWG⟩ : ∃ WG, ((w.alloc (.cells #[.slice us sizes.length cs, .int .i64 params, .int .i64 slots, .slice ub code.length cb] 30)).alloc (.cells opV 9)) = WG := ⟨_, rfl⟩
  rw [hWG] at AL BX1 NB1 ⊢
  clear hWG eV
  go_loopg [3, 5] code.length (fun gk o i wr => ∃ (j : Nat) (s : ByteArray), gk + j = code.length ∧ i = .int .i64 j ∧ o = .string s ∧ s.size ≤ 150 * j ∧ Hid (s.data.toList = (scUp code j).flatten) ∧ Hid (Below WG.heap.size WG wr) ∧ Hid (y = false → j = 0))
  case atStart => exact ⟨0, _, by simp, rfl, rfl, by decide, by show _ = _; rfl, Below.refl _ _, fun _ => rfl⟩
  case round =>
    obtain ⟨j, s, hj, rfl, rfl, hsz, hs, hbr, hyj⟩ := hrel
    have BX := hideP (keepW BX1.out hbr.out)
    have gg := (cells_of BX.out).1
    have lG : w.heap.size < wr.heap.size := (Array.getElem?_eq_some_iff.1 BX.out).1
    have p0 := gg 0
    have p1 := gg 1
    have p2 := gg 2
    have p3 := gg 3
    simp at p0 p1 p2 p3
    have bw := hideP (below_trans AL.out hbr.out)
    clear gg
    by_cases hlt : j < code.length
    · go_wp2_with fail
      refine (CY.out _ bw.out).mono ?_
      rintro e1 w1 ⟨rfl, b1⟩
      have BR := hideP (below_trans hbr.out b1)
      have BB := hideP (below_trans AL.out BR.out)
      clear b1 p0 p1 p2 p3 BX
      cases y
      · have hj0 := hyj.out rfl
        subst hj0
        go_wp2
        go_ret
        exact ⟨ret_str (mk_ofS (by rw [hs.out, EP.out, if_neg (by simp)]; rfl)), BB.out⟩
      · have hn6 := HN.out rfl
        have gg := (cells_of (keepW BX1.out BR.out)).1
        have p3 := gg 3
        simp at p3
        obtain ⟨b, o, y0, y1, y2, y3, y4, rfl, _, hbi, hy, r0, r1, r2, r3, r4, hxx⟩ := Wrd_get (HB.out.stays WrdKeeps BB.out) j hlt
        obtain ⟨q, hq1, hq2⟩ := HQ.out rfl _ (List.getElem_mem hlt)
        have hwl := lineW_len (i := j) (by omega) hxx.2 (by rw [hy] at hq1; exact ⟨q, hq1, hq2⟩)
        rw [hy] at hq1
        simp only at hq1
        subst hq1
        have UP := hideP (scUp_at hlt hy)
        have LW : Hid (lineW j ⟨(q : Int), y1, y2, y3, y4⟩ = Lib.itoa (j : Int) ++ ([58, 32] ++ ((nmB q).data.toList ++ (32 :: (Lib.itoa y1 ++ (32 :: (Lib.itoa y2 ++ (32 :: (Lib.itoa y3 ++ (32 :: (Lib.itoa y4 ++ [10]))))))))))) := by show _ = _; simp only [lineW, Int.toNat_natCast]
        have hwf := hxx.2
        obtain ⟨_, i1, i2, i3, i4⟩ := hwf
        obtain ⟨t0, T0, z0, D0⟩ := letS (j : Int) (by unfold I64; omega)
        obtain ⟨t1, T1, z1, D1⟩ := letS y1 i1
        obtain ⟨t2, T2, z2, D2⟩ := letS y2 i2
        obtain ⟨t3, T3, z3, D3⟩ := letS y3 i3
        obtain ⟨t4, T4, z4, D4⟩ := letS y4 i4
        have zn := nmB_size q hq2
        have NM := (cells_of (keepW NB1.out BR.out)).1 q
        rw [opV_at q hq2] at NM
        have lN : w.heap.size + 1 < w1.heap.size := (Array.getElem?_eq_some_iff.1 (keepW NB1.out BR.out)).1
        obtain ⟨nm, hnm⟩ : ∃ nm, nmB q = nm := ⟨_, rfl⟩
        rw [hnm] at NM zn LW
        clear gg hy hxx hnm i1 i2 i3 i4 hwl
        go_upto_region 7 with fail
        have al := (Below.refl w1.heap.size w1).alloc (Nat.le_refl _) (.cells #[.int .i64 (q : Int), .int .i64 y1, .int .i64 y2, .int .i64 y3, .int .i64 y4] 39)
        have nx : (w1.alloc (.cells #[.int .i64 (q : Int), .int .i64 y1, .int .i64 y2, .int .i64 y3, .int .i64 y4] 39)).heap[w1.heap.size]? = some (.cells #[.int .i64 (q : Int), .int .i64 y1, .int .i64 y2, .int .i64 y3, .int .i64 y4] 39) := by show (w1.heap.push _)[w1.heap.size]? = _; exact Array.getElem?_push_size
        have NM2 := (al.cell (p := ⟨w.heap.size + 1, q, none⟩) lN).trans NM
        obtain ⟨b9, hb9⟩ : ∃ b9, w1.heap.size = b9 := ⟨_, rfl⟩
        have BA := hideP (below_trans BR.out al)
        obtain ⟨w2, hw2⟩ : ∃ w2, w1.alloc (.cells #[.int .i64 (q : Int), .int .i64 y1, .int .i64 y2, .int .i64 y3, .int .i64 y4] 39) = w2 := ⟨_, rfl⟩
        rw [hw2] at nx NM2 BA ⊢
        rw [hb9] at nx ⊢
        have x0 := (cells_of nx).1 0
        have x1 := (cells_of nx).1 1
        have x2 := (cells_of nx).1 2
        have x3 := (cells_of nx).1 3
        have x4 := (cells_of nx).1 4
        simp at x0 x1 x2 x3 x4
        have DR : Hid (∀ n, Below WG.heap.size WG (w2.drewN n)) := fun n => below_trans BA.out ⟨rfl, rfl, rfl, Nat.le_refl _, fun _ _ => rfl⟩
        have m0 : ¬ 9223372036854775807 < s.size + t0.size := by omega
        have m1 : ¬ 9223372036854775807 < s.size + t0.size + 2 := by omega
        have m2 : ¬ 9223372036854775807 < s.size + t0.size + 2 + nm.size := by omega
        have m3 : ¬ 9223372036854775807 < s.size + t0.size + 2 + nm.size + 1 := by omega
        have m4 : ¬ 9223372036854775807 < s.size + t0.size + 2 + nm.size + 1 + t1.size := by omega
        have m5 : ¬ 9223372036854775807 < s.size + t0.size + 2 + nm.size + 1 + t1.size + 1 := by omega
        have m6 : ¬ 9223372036854775807 < s.size + t0.size + 2 + nm.size + 1 + t1.size + 1 + t2.size := by omega
        have m7 : ¬ 9223372036854775807 < s.size + t0.size + 2 + nm.size + 1 + t1.size + 1 + t2.size + 1 := by omega
        have m8 : ¬ 9223372036854775807 < s.size + t0.size + 2 + nm.size + 1 + t1.size + 1 + t2.size + 1 + t3.size := by omega
        have m9 : ¬ 9223372036854775807 < s.size + t0.size + 2 + nm.size + 1 + t1.size + 1 + t2.size + 1 + t3.size + 1 := by omega
        have ma : ¬ 9223372036854775807 < s.size + t0.size + 2 + nm.size + 1 + t1.size + 1 + t2.size + 1 + t3.size + 1 + t4.size := by omega
        have mb : ¬ 9223372036854775807 < s.size + t0.size + 2 + nm.size + 1 + t1.size + 1 + t2.size + 1 + t3.size + 1 + t4.size + 1 := by omega
        have hq3 : (q : Int) < 12 := by omega
        clear nx al hw2 hb9 NM p3 r0 r1 r2 r3 r4 BA lN hbi
        go_quiet (first | (go_at_call_of 12 (Value.int .i64 (j : Int)); refine Calls.quiet_of_same (D0.out _)) | (go_at_call_of 12 (Value.int .i64 y1); refine Calls.quiet_of_same (D1.out _)) | (go_at_call_of 12 (Value.int .i64 y2); refine Calls.quiet_of_same (D2.out _)) | (go_at_call_of 12 (Value.int .i64 y3); refine Calls.quiet_of_same (D3.out _)) | (go_at_call_of 12 (Value.int .i64 y4); refine Calls.quiet_of_same (D4.out _)))
        go_wp2
        go_roundg (code.length - (j + 1))
        case rel => exact ⟨j + 1, _, by omega, by go_num, rfl, by rw [ByteArray.size_append, ByteArray.size_append, ByteArray.size_append, ByteArray.size_append, ByteArray.size_append, ByteArray.size_append, ByteArray.size_append, ByteArray.size_append, ByteArray.size_append, ByteArray.size_append, ByteArray.size_append, ByteArray.size_append]; show s.size + t0.size + 2 + nm.size + 1 + t1.size + 1 + t2.size + 1 + t3.size + 1 + t4.size + 1 ≤ _; omega, by show _ = _; rw [UP.out, List.flatten_append, LW.out]; simp [hs.out, T0.out, T1.out, T2.out, T3.out, T4.out], DR.out _, fun e => absurd e (by simp)⟩
        case measure => omega
    · have hjn : j = code.length := by omega
      subst hjn
      go_wp2
      go_ret
      refine ⟨ret_str (mk_ofS ?_), bw.out⟩
      cases y
      · have h0 := hyj.out rfl
        rw [hs.out, EP.out, if_neg (by simp), h0]; rfl
      · rw [hs.out, EP.out, if_pos rfl]
end Go.Proofs.YtfoelnblnfcaiaaDoor
