/- The contract of spec.SameGraph. -/
import Derived.Test.YtkkjnjnbeekmcakSameGI
import Derived.Deep.CutRange
namespace Go.Proofs.Ytkkjnjnbeekmcak
open Go.ChangeShapes Go.WideShapes Go.ChangeAt Go.RowKit
theorem box_at {w X : World} {b : Nat} {cs : Array Value} {T : TypeId} (h : w.heap[b]? = some (.cells cs T (0, 0))) (bel : Below w.heap.size w X) : X.heap[b]? = some (.cells cs T (0, 0)) := (bel.block b (Array.getElem?_eq_some_iff.1 h).1).trans h
theorem two_at (w : World) (o1 o2 : Obj) (q : Nat) : (((w.alloc o1).alloc o2).drewN q).heap[w.heap.size]? = some o1 ∧ (((w.alloc o1).alloc o2).drewN q).heap[w.heap.size + 1]? = some o2 := by
  have h := two (drewN_below ((w.alloc o1).alloc o2) q)
  exact ⟨h.1, h.2.1⟩
theorem BlkIs_len {w : World} {B : Nat} {v : Array Value} {x : Blk} (h : BlkIs w B v x) : x.code.length ≤ maxLen := by
  obtain ⟨_, _, _, _, h1⟩ := h
  exact h1.1
set_option maxHeartbeats 16000000 in
set_option maxRecDepth 100000 in
theorem spec_sameGraph (x y : Gr) (w : World) (B1 B2 : Nat) (v1 v2 : Array Value) (h1 : GrIs w B1 v1 x) (h2 : GrIs w B2 v2 y) :
    Calls Try.prog 6 #[.agg v1, .agg v2] w fun en w' => en = .returned (.bool (grB x y)) ∧ Below w.heap.size w w' := by
  obtain ⟨s1, p1, n1, t1, b1⟩ := x
  obtain ⟨s2, p2, n2, t2, b2⟩ := y
  obtain ⟨us1, cs1, ub1, cb1, rfl, _, hz1, hb1⟩ := h1
  obtain ⟨us2, cs2, ub2, cb2, rfl, _, hz2, hb2⟩ := h2
  simp only at *
  have hm := maxLen_lt
  have hl1 := hb1.1
  have hl2 := hb2.1
  have Z1 := hideP hz1
  have Z2 := hideP hz2
  have H1 := hideP hb1
  have H2 := hideP hb2
  clear hz1 hz2 hb1 hb2
  go_enter Try.func6, Try.ntmps6
  go_wp2_with fail
  refine (l02Ints_any s1 s2 _ us1 us2 cs1 cs2 (Z1.out.stays (below2 w _ _)).sees (Z2.out.stays (below2 w _ _)).sees).mono ?_
  rintro y1 w1 ⟨rfl, q, rfl⟩
  obtain ⟨r, hr⟩ : ∃ r, (s1 == s2) = r := ⟨_, rfl⟩
  have E : Hid (grB ⟨s1, p1, n1, t1, b1⟩ ⟨s2, p2, n2, t2, b2⟩ = (r && (p1 == p2 && (n1 == n2 && (t1 == t2 && all2 blkB b1 b2))))) := by show _ = _; simp only [grB, hr]
  rw [hr]
  obtain ⟨W0, hW0⟩ : ∃ W0, ((w.alloc (.cells #[.slice us1 s1.length cs1, .int .i64 p1, .int .i64 n1, .int .i64 t1, .slice ub1 b1.length cb1] 30)).alloc (.cells #[.slice us2 s2.length cs2, .int .i64 p2, .int .i64 n2, .int .i64 t2, .slice ub2 b2.length cb2] 30)).drewN q = W0 := ⟨_, rfl⟩
  have hq := two_at w (.cells #[.slice us1 s1.length cs1, .int .i64 p1, .int .i64 n1, .int .i64 t1, .slice ub1 b1.length cb1] 30) (.cells #[.slice us2 s2.length cs2, .int .i64 p2, .int .i64 n2, .int .i64 t2, .slice ub2 b2.length cb2] 30) q
  have BW : Hid (Below w.heap.size w W0) := by rw [← hW0]; exact (below2 w _ _).trans ((drewN_below _ q).mono (by simp; omega))
  rw [hW0] at hq ⊢
  have Q1 := hideP hq.1
  have Q2 := hideP hq.2
  have a0 := (cells_of hq.1).1 0
  have a1 := (cells_of hq.1).1 1
  have a2 := (cells_of hq.1).1 2
  have a3 := (cells_of hq.1).1 3
  have a4 := (cells_of hq.1).1 4
  have c0 := (cells_of hq.2).1 0
  have c1 := (cells_of hq.2).1 1
  have c2 := (cells_of hq.2).1 2
  have c3 := (cells_of hq.2).1 3
  have c4 := (cells_of hq.2).1 4
  simp at a0 a1 a2 a3 a4 c0 c1 c2 c3 c4
  clear hr hq hW0 Z1 Z2
  cases r
  · go_wp2
    go_ret
    exact ⟨ret_bool (by rw [E.out]; rfl), BW.out⟩
  · by_cases hp : p1 = p2
    · by_cases hn : n1 = n2
      · by_cases ht : t1 = t2
        · by_cases hne : b1.length = b2.length
          · subst hp hn ht
            have E2 : Hid (grB ⟨s1, p1, n1, t1, b1⟩ ⟨s2, p1, n1, t1, b2⟩ = all2 blkB b1 b2) := by show _ = _; rw [E.out]; simp
            have HN := hideP hne
            rw [← hne] at c4
            clear hne E hl2
            go_wp2
            clear a0 a1 a2 a3 a4 c0 c1 c2 c3 c4
            go_loopw [5] (fun i wr => ∃ j : Nat, j ≤ b1.length ∧ i = .int .i64 j ∧ Hid (Below W0.heap.size W0 wr) ∧ Hid (all2 blkB b1 b2 = all2 blkB (b1.drop j) (b2.drop j))) (fun i _ => b1.length - (intOf i).toNat)
            case atStart => exact ⟨0, Nat.zero_le _, rfl, Below.refl _ _, rfl⟩
            case round =>
              obtain ⟨j, hj, rfl, bel, hs⟩ := hrel
              have k4 := (cells_of (box_at Q1.out bel.out)).1 4
              have m4 := (cells_of (box_at Q2.out bel.out)).1 4
              simp at k4 m4
              by_cases hlt : j < b1.length
              · have hlt2 : j < b2.length := by have := HN.out; omega
                have st := all2_step blkB hlt hlt2
                have bw := BW.out.trans (bel.out.mono BW.out.size)
                obtain ⟨b, o, x0, x1, x2, x3, x4, ux, kx, hu1, _, hbx, hx, f0, f1, f2, f3, f4, hbX⟩ := Blk_get (H1.out.stays BlkKeeps bw) j hlt
                obtain ⟨b', o', y0, y1, y2, y3, y4, uy, ky, hu2, _, hby, hy, g0, g1, g2, g3, g4, hbY⟩ := Blk_get (H2.out.stays BlkKeeps bw) j hlt2
                rw [hu1] at k4
                rw [hu2] at m4
                rw [hx, hy] at st
                have E3 := hideP (hs.out.trans st)
                have HX := hideP hbX
                have HY := hideP hbY
                have BWH := hideP bw
                clear hs st hx hy hbX hbY bw hu1 hu2
                have hA1 : w.heap.size + 1 < wr.heap.size := Nat.lt_of_lt_of_le (Array.getElem?_eq_some_iff.1 Q2.out).1 bel.out.size
                have hA0 : w.heap.size < wr.heap.size := by omega
                go_upto_region 6 with fail
                go_cut [6, 7] from 52 to 61 (fun s6 s7 wx => ∃ bx by', s6 = .pointer (some ⟨bx, 0, none⟩) ∧ s7 = .pointer (some ⟨by', 0, none⟩) ∧ Hid (wx.heap[bx]? = some (.cells #[.slice ux x0.length kx, .int .i64 x1, .int .i64 x2, .int .i64 x3, .int .i64 x4] 40 (0, 0)) ∧ wx.heap[by']? = some (.cells #[.slice uy y0.length ky, .int .i64 y1, .int .i64 y2, .int .i64 y3, .int .i64 y4] 40 (0, 0)) ∧ Below wr.heap.size wr wx))
                case first =>
                  go_region
                  all_goals (go_wp2_with fail; go_meet)
                  · have h := two ((Below.refl _ ((wr.alloc (.cells #[.slice ux x0.length kx, .int .i64 x1, .int .i64 x2, .int .i64 x3, .int .i64 x4] 40)).alloc (.cells #[.slice uy y0.length ky, .int .i64 y1, .int .i64 y2, .int .i64 y3, .int .i64 y4] 40))).drew)
                    exact ⟨_, _, rfl, rfl, h.1, h.2.1, h.2.2.2⟩
                  · have h := two ((Below.refl _ ((wr.alloc (.cells #[.slice uy y0.length ky, .int .i64 y1, .int .i64 y2, .int .i64 y3, .int .i64 y4] 40)).alloc (.cells #[.slice ux x0.length kx, .int .i64 x1, .int .i64 x2, .int .i64 x3, .int .i64 x4] 40))).drew)
                    exact ⟨_, _, rfl, rfl, h.2.1, h.1, h.2.2.2⟩
                case rest =>
                obtain ⟨bx, by', rfl, rfl, hc⟩ := hcut
                have BX := hideP hc.out.1
                have BY := hideP hc.out.2.1
                have BC := hideP (bel.out.trans (hc.out.2.2.mono bel.out.size))
                have HX2 := hideP (BlkKeeps.stays HX.out hc.out.2.2)
                have HY2 := hideP (BlkKeeps.stays HY.out hc.out.2.2)
                obtain ⟨w3, hw3⟩ : ∃ w3, wc = w3 := ⟨_, rfl⟩
                subst hw3
                clear hc HX HY f0 f1 f2 f3 f4 g0 g1 g2 g3 g4 k4 m4 hbx hby hA0 hA1
                have X0 := (cells_of BX.out).1 0
                have Y0 := (cells_of BY.out).1 0
                have X1 := (cells_of BX.out).1 1
                have Y1 := (cells_of BY.out).1 1
                have X2 := (cells_of BX.out).1 2
                have Y2 := (cells_of BY.out).1 2
                have X3 := (cells_of BX.out).1 3
                have Y3 := (cells_of BY.out).1 3
                have X4 := (cells_of BX.out).1 4
                have Y4 := (cells_of BY.out).1 4
                simp at X0 X1 X2 X3 X4 Y0 Y1 Y2 Y3 Y4
                obtain ⟨r, hr⟩ : ∃ r, blkB ⟨x0, x1, x2, x3, x4⟩ ⟨y0, y1, y2, y3, y4⟩ = r := ⟨_, rfl⟩
                replace E3 : Hid (all2 blkB b1 b2 = (r && all2 blkB (b1.drop (j + 1)) (b2.drop (j + 1)))) := by show _ = _; rw [E3.out, hr]
                have F : Hid (r = false → grB ⟨s1, p1, n1, t1, b1⟩ ⟨s2, p1, n1, t1, b2⟩ = false) := fun h => by rw [E2.out, E3.out, h]; rfl
                have BF := hideP (BW.out.trans (BC.out.mono BW.out.size))
                by_cases e0 : x1 = y1
                · skip
                  by_cases e1 : x2 = y2
                  · skip
                    by_cases e2 : x3 = y3
                    · skip
                      by_cases e3 : x4 = y4
                      · skip
                        have hlc1 := (BlkIs_len HX2.out)
                        have hlc2 := (BlkIs_len HY2.out)
                        by_cases e4 : x0.length = y0.length
                        · subst e0 e1 e2 e3
                          have R : Hid (r = all2 insB x0 y0) := by show _ = _; rw [← hr]; simp [blkB]
                          have HE := hideP e4
                          have S1 : Hid (SlIs InsIs 7 wc B1 ux x0) := by obtain ⟨u, c, h0, _, h1⟩ := HX2.out; simp at h0; obtain ⟨⟨rfl, _⟩, _⟩ := h0; exact h1
                          have S2 : Hid (SlIs InsIs 7 wc B2 uy y0) := by obtain ⟨u, c, h0, _, h1⟩ := HY2.out; simp at h0; obtain ⟨⟨rfl, _⟩, _⟩ := h0; exact h1
                          rw [← e4] at Y0
                          clear hr e4 HX2 HY2 hlc2
                          go_wp2
                          clear X0 X1 X2 X3 X4 Y0 Y1 Y2 Y3 Y4
                          go_loopw [8] (fun i wq => ∃ k : Nat, k ≤ x0.length ∧ i = .int .i64 k ∧ Hid (∃ n, wq = wc.drewN n) ∧ Hid (all2 insB x0 y0 = all2 insB (x0.drop k) (y0.drop k))) (fun i _ => x0.length - (intOf i).toNat)
                          case atStart => exact ⟨0, Nat.zero_le _, rfl, ⟨0, rfl⟩, rfl⟩
                          case round =>
                          obtain ⟨k, hk, rfl, hn, hs2⟩ := hrel
                          obtain ⟨n, rfl⟩ := hn.out
                          have X0 := (cells_of BX.out).1 0
                          have Y0 := (cells_of BY.out).1 0
                          simp at X0 Y0
                          rw [← HE.out] at Y0
                          by_cases hlk : k < x0.length
                          · have hlk2 : k < y0.length := by have := HE.out; omega
                            have st := all2_step insB hlk hlk2
                            obtain ⟨bu, ou, i0, i1, i2, i3, i4, i5, i6, hu1, _, _, hi, c0, c1, c2, c3, c4, c5, c6, _⟩ := Ins_get S1.out k hlk
                            obtain ⟨bv, ov, l0, l1, l2, l3, l4, l5, l6, hu2, _, _, hl, d0, d1, d2, d3, d4, d5, d6, _⟩ := Ins_get S2.out k hlk2
                            have EQ0 := fun X => eqIns ⟨i0, i1, i2, i3, i4, i5, i6⟩ ⟨l0, l1, l2, l3, l4, l5, l6⟩ X
                            rw [hi, hl] at st
                            obtain ⟨z, hz⟩ : ∃ z, insB ⟨i0, i1, i2, i3, i4, i5, i6⟩ ⟨l0, l1, l2, l3, l4, l5, l6⟩ = z := ⟨_, rfl⟩
                            rw [hz] at EQ0 st
                            simp only at EQ0
                            rw [hu1] at X0
                            rw [hu2] at Y0
                            have gd := gdI
                            have E5 := hideP (hs2.out.trans st)
                            clear hz hi hl st hs2 hu1 hu2
                            go_wp2
                            go_region
                            all_goals
                              cases z
                              · go_wp2
                                go_ret
                                exact ⟨ret_bool (by have := F.out (by rw [R.out, E5.out]; rfl); exact this.symm), BF.out.trans (((drewN_below wc (n + 1))).mono BF.out.size)⟩
                              · go_wp2
                                go_roundw
                                case rel => exact ⟨k + 1, by omega, by go_num, ⟨n + 1, rfl⟩, by show _ = _; rw [E5.out]; rfl⟩
                                case measure => simp [intOf]; omega
                          · have hkn : k = x0.length := by omega
                            subst hkn
                            have T : Hid (r = true) := R.out.trans (hs2.out.trans (all2_end insB x0 y0 HE.out))
                            go_wp2
                            go_roundw
                            case rel => exact ⟨j + 1, by omega, by go_num, BC.out.trans ((drewN_below wc n).mono BC.out.size), by show _ = _; rw [E3.out, T.out]; rfl⟩
                            case measure => simp [intOf]; omega
                        · have G := hideP (F.out (by rw [← hr]; simp [blkB, all2_ne insB x0 y0 e4]))
                          have e4' : ¬ (x0.length : Int) = (y0.length : Int) := by omega
                          clear hr F E3
                          go_wp2
                          go_ret
                          exact ⟨ret_bool G.out.symm, BF.out⟩
                      · have G := hideP (F.out (by rw [← hr]; simp [blkB, e3]))
                        clear hr F E3
                        go_wp2
                        go_ret
                        exact ⟨ret_bool G.out.symm, BF.out⟩
                    · have G := hideP (F.out (by rw [← hr]; simp [blkB, e2]))
                      clear hr F E3
                      go_wp2
                      go_ret
                      exact ⟨ret_bool G.out.symm, BF.out⟩
                  · have G := hideP (F.out (by rw [← hr]; simp [blkB, e1]))
                    clear hr F E3
                    go_wp2
                    go_ret
                    exact ⟨ret_bool G.out.symm, BF.out⟩
                · have G := hideP (F.out (by rw [← hr]; simp [blkB, e0]))
                  clear hr F E3
                  go_wp2
                  go_ret
                  exact ⟨ret_bool G.out.symm, BF.out⟩
              · have hjn : j = b1.length := by omega
                subst hjn
                have E4 : Hid (all2 blkB b1 b2 = true) := hs.out.trans (all2_end blkB b1 b2 HN.out)
                go_wp2
                go_ret
                exact ⟨ret_bool (by rw [E2.out, E4.out]), BW.out.trans (bel.out.mono BW.out.size)⟩
          · have E2 : Hid (grB ⟨s1, p1, n1, t1, b1⟩ ⟨s2, p2, n2, t2, b2⟩ = false) := by show _ = _; rw [E.out, all2_ne blkB b1 b2 hne]; simp
            have hne' : ¬ (b1.length : Int) = (b2.length : Int) := by omega
            clear E
            go_wp2
            go_ret
            exact ⟨ret_bool E2.out.symm, BW.out⟩
        · have E2 : Hid (grB ⟨s1, p1, n1, t1, b1⟩ ⟨s2, p2, n2, t2, b2⟩ = false) := by show _ = _; rw [E.out]; simp [ht]
          clear E
          go_wp2
          go_ret
          exact ⟨ret_bool E2.out.symm, BW.out⟩
      · have E2 : Hid (grB ⟨s1, p1, n1, t1, b1⟩ ⟨s2, p2, n2, t2, b2⟩ = false) := by show _ = _; rw [E.out]; simp [hn]
        clear E
        go_wp2
        go_ret
        exact ⟨ret_bool E2.out.symm, BW.out⟩
    · have E2 : Hid (grB ⟨s1, p1, n1, t1, b1⟩ ⟨s2, p2, n2, t2, b2⟩ = false) := by show _ = _; rw [E.out]; simp [hp]
      clear E
      go_wp2
      go_ret
      exact ⟨ret_bool E2.out.symm, BW.out⟩
end Go.Proofs.Ytkkjnjnbeekmcak
