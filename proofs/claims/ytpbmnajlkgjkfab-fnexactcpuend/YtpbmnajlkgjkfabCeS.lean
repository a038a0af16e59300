/- The contract of spec.CpuEnd (written by wip/mkces.py). -/
import Derived.Test.YtpbmnajlkgjkfabCeI
import Derived.Test.YtpbmnajlkgjkfabAppR2
namespace Go.Proofs.Ytpbmnajlkgjkfab
open Go.ChangeShapes Go.WideShapes Go.ChangeAt Go.RowKit
theorem l15Runs_any (c : Cp) (w : World) (B : Nat) (v : Array Value) (h : CpIs w B v c) :
    Calls Try.prog 15 #[.agg v] w fun en w' => en = .returned (.bool (runsB c)) ∧ Below w.heap.size w w' := by
  obtain ⟨pos, regs, slots, mem, input, out, code, over, val⟩ := c
  obtain ⟨_, _, _, _, _, _, _, _, _, _, rfl, _⟩ := h
  simp only [runsB]
  cases over
  · go_enter Try.func15, Try.ntmps15
    go_wp2
    all_goals go_ret
    all_goals exact ⟨ret_bool (by simp [*]), (Below.refl _ _).alloc (Nat.le_refl _) _⟩
  · go_enter Try.func15, Try.ntmps15
    go_wp2
    all_goals go_ret
    all_goals exact ⟨ret_bool (by simp [*]), (Below.refl _ _).alloc (Nat.le_refl _) _⟩
theorem But.ofGr {b : Nat} {w w' : World} (h : w.grownBy w' (some b)) : But b w w' := ⟨h.os, h.tape, h.output, h.size, fun k hk hne => h.block k hk (by simpa using hne)⟩
set_option maxHeartbeats 8000000 in
set_option maxRecDepth 100000 in
theorem spec_cpuEnd (c : Cp) (w : World) (B : Nat) (v : Array Value) (h : CpIs w B v c) (hl : c.out.length ≤ 8000000) :
    Calls Try.prog 5 #[.agg v] w fun en w' => ∃ v', en = .returned (.agg #[.int .i64 (endOf c).code, .int .i64 (endOf c).val, v']) ∧ LiZ w' w.heap.size w'.heap.size v' c.out ∧ Below w.heap.size w w' := by
  have H := hideP h
  obtain ⟨pos, regs, slots, mem, input, out, code, over, val⟩ := c
  obtain ⟨u1, c1, u2, c2, u3, c3, u4, c4, u5, c5, rfl, _, _, _, _, _, ho⟩ := h
  simp only at *
  have HO := hideP ho
  have hol := ho.1
  have hm := maxLen_lt
  clear ho
  have RW := hideP (fun W hW => intsRow (IntsIs.stays HO.out (w' := W) hW))
  have RU := hideP (fun W hW => l15Runs_any _ W B _ (CpKeeps.stays H.out hW))
  obtain ⟨r, hr⟩ : ∃ r, runsB ⟨pos, regs, slots, mem, input, out, code, over, val⟩ = r := ⟨_, rfl⟩
  have RQ : Hid (r = (code == 0 && !over)) := hr.symm
  have E : Hid (endOf ⟨pos, regs, slots, mem, input, out, code, over, val⟩ = if r = true then ⟨2, 0, out⟩ else ⟨code, if code = 0 then val else 0, out⟩) := by show _ = _; unfold endOf; rw [hr]
  rw [hr] at RU
  clear hr H HO
  obtain ⟨V, hV⟩ : ∃ V, endOf ⟨pos, regs, slots, mem, input, out, code, over, val⟩ = V := ⟨_, rfl⟩
  rw [hV] at E ⊢
  clear hV
  obtain ⟨n, hn⟩ : ∃ n, w.heap.size = n := ⟨_, rfl⟩
  have HNN := hideP hn
  have a1 := (Below.refl w.heap.size w).alloc (Nat.le_refl _) (.cells #[.int .i64 pos, .slice u1 regs.length c1, .slice u2 slots.length c2, .slice u3 mem.length c3, .slice u4 input.length c4, .slice u5 out.length c5, .int .i64 code, .bool over, .int .i64 val] 30)
  have a2 := (Below.refl _ (w.alloc (.cells #[.int .i64 pos, .slice u1 regs.length c1, .slice u2 slots.length c2, .slice u3 mem.length c3, .slice u4 input.length c4, .slice u5 out.length c5, .int .i64 code, .bool over, .int .i64 val] 30))).alloc (Nat.le_refl _) (.cells zEn 28)
  have Z1 := keepE (newE w (.cells #[.int .i64 pos, .slice u1 regs.length c1, .slice u2 slots.length c2, .slice u3 mem.length c3, .slice u4 input.length c4, .slice u5 out.length c5, .int .i64 code, .bool over, .int .i64 val] 30)) a2
  have Z2 := newE (w.alloc (.cells #[.int .i64 pos, .slice u1 regs.length c1, .slice u2 slots.length c2, .slice u3 mem.length c3, .slice u4 input.length c4, .slice u5 out.length c5, .int .i64 code, .bool over, .int .i64 val] 30)) (.cells zEn 28)
  have BW := hideP (a1.trans (a2.mono a1.size))
  simp only [World.size_alloc, hn] at Z1 Z2
  obtain ⟨W, hW⟩ : ∃ W, (w.alloc (.cells #[.int .i64 pos, .slice u1 regs.length c1, .slice u2 slots.length c2, .slice u3 mem.length c3, .slice u4 input.length c4, .slice u5 out.length c5, .int .i64 code, .bool over, .int .i64 val] 30)).alloc (.cells zEn 28) = W := ⟨_, rfl⟩
  have hz : W.heap.size = n + 2 := by rw [← hW]; simp [hn]
  rw [hW] at Z1 Z2 BW
  unfold zEn at hW
  have HZ := hideP hz
  have I1 := hideP Z1
  have I2 := hideP Z2
  have x5 := (cells_of Z1).1 5
  have x6 := (cells_of Z1).1 6
  simp at x5 x6
  have lb : n < W.heap.size := by omega
  clear a1 a2 Z1 Z2 x5 x6 hz
  rw [hn] at BW RW RU
  go_enter Try.func5, Try.ntmps5
  go_upto_region 1 with fail
  try rw [hW]
  have a4 := (Below.refl W.heap.size W).alloc (Nat.le_refl _) (.cells #[] 3)
  have G4 := hideP (newE W (.cells #[] 3))
  have B4 := hideP (BW.out.trans (a4.mono (by have := HZ.out; omega)))
  have I4 := hideP (keepE I1.out a4)
  have I5 := hideP (keepE I2.out a4)
  have x5 := (cells_of I4.out).1 5
  simp at x5
  have z4 : n + 2 ≤ (W.alloc (.cells #[] 3)).heap.size := by have := HZ.out; simp; omega
  rw [HZ.out] at G4
  have hl8 : out.length ≤ 8000000 := hl
  have EZ := hideP HZ.out
  clear a4 I1 I2
  go_upto_region 2 with (at_builtin; refine list_appR2 _ rfl _ _ 3 22 rfl 1 8 (.int .i64 0) Try.underlying22 (by kernel_rfl) rfl (by decide) (by decide) (n + 2) (n + 2) _ rfl (by rw [EZ.out]; rfl) G4.out (Nat.le_refl _) u5 out.length c5 rfl _ B (RW.out _ B4.out) (fun i _ u hu => (by simpa using hu : u = Value.int .i64 (out[i]?.getD 0)) ▸ rfl) hl8 z4 ?_; intro v5 w5 r5 grow5; have lz := r5.liz hol; obtain ⟨ua, ca, rfl, _⟩ := id lz; have LZ := hideP lz; have b5 := But.ofGr grow5; have K1 := hideP (show w5.heap[n]? = _ from (b5.block n (by omega) (by omega)).trans I4.out); have K2 := hideP (show w5.heap[n + 1]? = _ from (b5.block (n + 1) (by omega) (by omega)).trans I5.out); have B5 := hideP (B4.out.trans (b5.below (by omega) (by omega))); have zz : n + 2 ≤ w5.heap.size := Nat.le_trans z4 b5.size; clear lz r5 grow5 b5 I4 I5 B4 G4 x5 z4)
  obtain ⟨bx, hbxe⟩ : ∃ b, w5.heap.size = b := ⟨_, rfl⟩
  have al := (Below.refl w5.heap.size w5).alloc (Nat.le_refl _) (.cells #[.int .i64 2, .int .i64 0, .slice ua out.length ca] 28)
  have hx := hideP (newE w5 (.cells #[.int .i64 2, .int .i64 0, .slice ua out.length ca] 28))
  have hlz := hideP ((LZ.out.stays al).mono (Nat.le_refl _) al.size)
  have J1 := hideP (keepE K1.out al)
  have J2 := hideP (keepE K2.out al)
  have BN := hideP (B5.out.trans (al.mono (by omega)))
  have hsz : n + 2 ≤ (w5.alloc (.cells #[.int .i64 2, .int .i64 0, .slice ua out.length ca] 28)).heap.size := by have := al.size; omega
  have hbx : Hid (n + 2 ≤ w5.heap.size) := zz
  obtain ⟨wc, hwc⟩ : ∃ wc, w5.alloc (.cells #[.int .i64 2, .int .i64 0, .slice ua out.length ca] 28) = wc := ⟨_, rfl⟩
  rw [hwc] at hx hlz J1 J2 BN hsz ⊢
  rw [hbxe] at hx hbx ⊢
  clear hwc hbxe al K1 K2 B5 LZ zz hW HZ EZ BW RW lb
  have k1 := (cells_of J1.out).1
  have p0 := k1 0; have p1 := k1 1; have p2 := k1 2; have p3 := k1 3; have p4 := k1 4; have p5 := k1 5; have p6 := k1 6; have p7 := k1 7; have p8 := k1 8
  simp at p0 p1 p2 p3 p4 p5 p6 p7 p8
  clear k1
  go_wp2_with fail
  refine (RU.out _ BN.out).mono ?_
  rintro e2 w2 ⟨rfl, bel2⟩
  have K1 := hideP (keepE J1.out bel2)
  have K2 := hideP (keepE J2.out bel2)
  have KX := hideP (keepE hx.out bel2)
  have LZ := hideP ((hlz.out.stays bel2).mono (Nat.le_refl _) bel2.size)
  have BN2 := hideP (BN.out.trans (bel2.mono (by omega)))
  have hsz2 : n + 2 ≤ w2.heap.size := Nat.le_trans hsz bel2.size
  clear bel2 J1 J2 hx hlz BN hsz p0 p1 p2 p3 p4 p5 p6 p7 p8
  have b0 := (cells_of KX.out).1 0
  have b1 := (cells_of KX.out).1 1
  have b2 := (cells_of KX.out).1 2
  have bf := (cells_of KX.out).2
  have z0 := (cells_of K2.out).1 0
  have z1 := (cells_of K2.out).1 1
  have z2 := (cells_of K2.out).1 2
  have zf := (cells_of K2.out).2
  have p6 := (cells_of K1.out).1 6
  have p8 := (cells_of K1.out).1 8
  simp [zEn] at b0 b1 b2 z0 z1 z2 p6 p8
  have h1b : ¬ n + 1 = bx := by have := hbx.out; omega
  have hb1 : ¬ bx = n + 1 := by have := hbx.out; omega
  have hnb : ¬ n = bx := by have := hbx.out; omega
  have hbn : ¬ bx = n := by have := hbx.out; omega
  have fin : Hid (∀ (W3 : World) (cd vl : Int), But bx w2 W3 → V = ⟨cd, vl, out⟩ → (((W3.setCell ⟨n + 1, 0, none⟩ (.int .i64 cd)).setCell ⟨n + 1, 1, none⟩ (.int .i64 vl)).setCell ⟨n + 1, 2, none⟩ (.slice ua out.length ca)).heap[n + 1]? = some (.cells #[.int .i64 cd, .int .i64 vl, .slice ua out.length ca] 28 (0, 0)) ∧ ∃ v', Value.agg #[.int .i64 cd, .int .i64 vl, .slice ua out.length ca] = Value.agg #[.int .i64 V.code, .int .i64 V.val, v'] ∧ LiZ (((W3.setCell ⟨n + 1, 0, none⟩ (.int .i64 cd)).setCell ⟨n + 1, 1, none⟩ (.int .i64 vl)).setCell ⟨n + 1, 2, none⟩ (.slice ua out.length ca)) n (((W3.setCell ⟨n + 1, 0, none⟩ (.int .i64 cd)).setCell ⟨n + 1, 1, none⟩ (.int .i64 vl)).setCell ⟨n + 1, 2, none⟩ (.slice ua out.length ca)).heap.size v' out ∧ Below n w (((W3.setCell ⟨n + 1, 0, none⟩ (.int .i64 cd)).setCell ⟨n + 1, 1, none⟩ (.int .i64 vl)).setCell ⟨n + 1, 2, none⟩ (.slice ua out.length ca))) := fun W3 cd vl kb hv => by
    have z3 := (kb.block (n + 1) (by omega) h1b).trans K2.out
    have k3 := (((But.refl (n + 1) W3).set 0 (.int .i64 cd)).set 1 (.int .i64 vl)).set 2 (.slice ua out.length ca)
    refine ⟨put3C z3 _ _ _, _, by rw [hv], ((((LZ.out.but KX.out (by decide) kb).mono (show n ≤ n + 2 by omega) kb.size).but z3 (by decide) k3).mono (Nat.le_refl _) k3.size), (BN2.out.trans (kb.below (by have := hbx.out; omega) (by omega))).trans (k3.below (by omega) (by have := kb.size; omega))⟩
  have K1t := K1
  clear K1
  have p7 := (cells_of K1t.out).1 7
  simp at p7
  clear K1t
  have tail : ∀ cd vl, V = ⟨cd, vl, out⟩ → True := fun _ _ _ => trivial
  cases r
  · have hV : Hid (V = ⟨code, if code = 0 then val else 0, out⟩) := by show _ = _; rw [E.out]; rfl
    by_cases hc : code = 0
    · subst hc
      have hov : over = true := by have := RQ.out; simpa using this.symm
      subst hov
      have hV2 : Hid (V = ⟨0, val, out⟩) := by show _ = _; rw [hV.out]; rfl
      have F := hideP (fin.out _ 0 val (((But.refl bx w2).set 0 (.int .i64 0)).set 1 (.int .i64 val)) hV2.out)
      clear fin E RQ hV hV2 tail
      go_wp2
      obtain ⟨f1, v', f2, f3, f4⟩ := F.out
      refine bodyPost_ret (results_cell_row rfl _ _ (n + 1) 28 _ (0, 0) _ rfl f1 Try.underlying28 rfl (by kernel_rfl)) rfl ?_
      exact ⟨v', congrArg Ending.returned f2, by first | exact f3 | (rw [HNN.out]; exact f3), by first | exact f4 | (rw [HNN.out]; exact f4)⟩
    · have hcb : (code == 0) = false := by simpa using hc
      have hV2 : Hid (V = ⟨code, 0, out⟩) := by show _ = _; rw [hV.out, if_neg hc]
      have F := hideP (fin.out _ code 0 ((But.refl bx w2).set 0 (.int .i64 code)) hV2.out)
      clear fin E RQ hV hV2 tail
      cases over
      all_goals
        go_wp2
        obtain ⟨f1, v', f2, f3, f4⟩ := F.out
        refine bodyPost_ret (results_cell_row rfl _ _ (n + 1) 28 _ (0, 0) _ rfl f1 Try.underlying28 rfl (by kernel_rfl)) rfl ?_
        exact ⟨v', congrArg Ending.returned f2, by first | exact f3 | (rw [HNN.out]; exact f3), by first | exact f4 | (rw [HNN.out]; exact f4)⟩
  · have hV2 : Hid (V = ⟨2, 0, out⟩) := by show _ = _; rw [E.out]; rfl
    have hov : over = false := by have := RQ.out; simp at this; exact this.2
    subst hov
    have F := hideP (fin.out _ 2 0 (But.refl bx w2) hV2.out)
    clear fin E RQ hV2 tail
    go_wp2
    obtain ⟨f1, v', f2, f3, f4⟩ := F.out
    refine bodyPost_ret (results_cell_row rfl _ _ (n + 1) 28 _ (0, 0) _ rfl f1 Try.underlying28 rfl (by kernel_rfl)) rfl ?_
    exact ⟨v', congrArg Ending.returned f2, by first | exact f3 | (rw [HNN.out]; exact f3), by first | exact f4 | (rw [HNN.out]; exact f4)⟩
end Go.Proofs.Ytpbmnajlkgjkfab
