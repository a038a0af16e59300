/- The contracts of impl.nextWords and impl.Dead. -/
import Derived.Test.YtfoelnblnfcaiaaDeaP
import Derived.Test.YtfoelnblnfcaiaaCtW
import Derived.Test.YtfoelnblnfcaiaaAhH
namespace Go.Proofs.Ytfoelnblnfcaiaa
open Go.ChangeShapes Go.WideShapes Go.ChangeAt Go.RowKit Go.Maps
theorem make_waysW (n : Nat) (hn : n ≤ 6000) (W : World) : (Instr.makeSlice 61 (.int .i64 (n : Int)) (.int .i64 (n : Int))).run Try.prog W = .ok (.slice (some ⟨W.heap.size, 0, none⟩) n n) (W.alloc (.cells (madeCells #[.slice none 0 0] n) 22)) := by
  have := make_n (P := Try.prog) Try.underlying61 infoIS n (by omega) (by omega) W
  rw [Nat.mul_one] at this
  exact this
theorem lit1 {w : World} {o : Obj} {l : List Int} {cs : Array Value} {k : Nat} (hk : k = l.length) (hcs : cs = (l.map (Value.int .i64)).toArray) (hl : l.length ≤ 1000) : OwnI ((w.alloc o).alloc (.cells cs 3)) w.heap.size (.slice (some ⟨w.heap.size + 1, 0, none⟩) k k) l := by
  have h := own_lit (w.alloc o) l cs (w.heap.size + 1) k (by simp) hk hcs hl
  exact h.mono (by simp)
set_option maxHeartbeats 4000000 in
set_option maxRecDepth 100000 in
theorem nextWords_any (i : Nat) (op r a b n : Int) (w : World) (hi : i ≤ 6000) :
    Calls Try.prog 48 #[.int .i64 (i : Int), .agg #[.int .i64 op, .int .i64 r, .int .i64 a, .int .i64 b, .int .i64 n]] w fun e w' => ∃ v', e = .returned v' ∧ OwnI w' w.heap.size v' (nxX i ⟨op, r, a, b, n⟩) ∧ Below w.heap.size w w' := by
  by_cases h10 : op = 10
  · subst h10
    have E : Hid (nxX i ⟨10, r, a, b, n⟩ = []) := by show _ = _; simp [nxX]
    go_enter Try.func48, Try.ntmps48
    go_wp2
    go_ret
    exact ⟨_, rfl, by rw [E.out]; exact lit1 rfl rfl (by simp), below2 w _ _⟩
  · have g10 : (op == 10) = false := by simpa using h10
    by_cases h8 : op = 8
    · subst h8
      have E : Hid (nxX i ⟨8, r, a, b, n⟩ = [n]) := by show _ = _; simp [nxX]
      go_enter Try.func48, Try.ntmps48
      go_wp2
      go_ret
      exact ⟨_, rfl, by rw [E.out]; exact lit1 rfl rfl (by simp), below2 w _ _⟩
    · have g8 : (op == 8) = false := by simpa using h8
      by_cases h9 : op = 9
      · subst h9
        have E : Hid (nxX i ⟨9, r, a, b, n⟩ = [n, (i : Int) + 1]) := by show _ = _; simp [nxX]
        go_enter Try.func48, Try.ntmps48
        go_wp2
        go_ret
        exact ⟨_, rfl, by rw [E.out]; exact lit1 rfl rfl (by simp), below2 w _ _⟩
      · have g9 : (op == 9) = false := by simpa using h9
        have E : Hid (nxX i ⟨op, r, a, b, n⟩ = [(i : Int) + 1]) := by show _ = _; simp [nxX, h10, h8, h9]
        go_enter Try.func48, Try.ntmps48
        go_wp2
        go_ret
        exact ⟨_, rfl, by rw [E.out]; exact lit1 rfl rfl (by simp), below2 w _ _⟩
theorem not_inL {l : List Int} {s : Int} (h : ¬ s ∈ l) : inL l s = false := by
  cases e : inL l s
  · rfl
  · exact absurd (inL_iff.1 e) h
set_option maxRecDepth 100000 in
set_option maxHeartbeats 8000000 in
theorem impl_dead (m : Img) (w : World) (B : Nat) (v : Array Value) (h : ImgIs w B v m) (GO : ImOk 11 m) :
    Calls Try.prog 25 #[.agg v] w fun en w' => ∃ v', en = .returned v' ∧ OwnI w' w.heap.size v' (deadP m) ∧ Below w.heap.size w w' := by
  obtain ⟨y, hy⟩ : ∃ y, imgOk m = y := ⟨_, rfl⟩
  have CY : Hid (∀ W, Below w.heap.size w W → Calls Try.prog 11 #[.agg v] W fun en w' => en = .returned (.bool y) ∧ Below W.heap.size W w') := fun W hW => by rw [← hy]; exact GO W B v (ImgKeeps.stays h hW)
  have HN : Hid (y = true → m.code.length ≤ 6000 ∧ 1 ≤ m.code.length) := fun e => imgOk_few (by rw [hy]; exact e)
  have HIN : Hid (y = true → ∀ i, i < m.code.length → ∀ z ∈ nxW m.code i, InR m.code.length z) := fun e i hi => nxW_in (by rw [hy]; exact e) i hi
  have EP : Hid (deadP m = if y = true then dnP (Way (nxW m.code) [0] (-1)) m.code.length else []) := by show _ = _; unfold deadP; rw [hy]
  obtain ⟨P, hP⟩ : ∃ P, deadP m = P := ⟨_, rfl⟩
  rw [hP] at EP ⊢
  clear hy hP GO
  obtain ⟨sizes, params, slots, code⟩ := m
  obtain ⟨us, cs, ub, cb, rfl, _, _, hb⟩ := h
  simp only at *
  have hm := maxLen_lt
  have hl := hb.1
  have HB := hideP hb
  clear hb
  have AL := hideP (below2 w (.cells #[.slice us sizes.length cs, .int .i64 params, .int .i64 slots, .slice ub code.length cb] 30) (.cells #[] 3))
  have BX1 := hideP (two (w := w) (o1 := .cells #[.slice us sizes.length cs, .int .i64 params, .int .i64 slots, .slice ub code.length cb] 30) (o2 := .cells #[] 3) (Below.refl _ _)).1
  have O1 : Hid (OwnI ((w.alloc (.cells #[.slice us sizes.length cs, .int .i64 params, .int .i64 slots, .slice ub code.length cb] 30)).alloc (.cells #[] 3)) (w.heap.size + 1) (.slice (some ⟨w.heap.size + 1, 0, none⟩) 0 0) []) := by
    have := own_lit (w.alloc (.cells #[.slice us sizes.length cs, .int .i64 params, .int .i64 slots, .slice ub code.length cb] 30)) [] #[] (w.heap.size + 1) 0 (by simp) rfl rfl (by simp)
    show OwnI _ _ _ _
    simpa using this
  have Z1 : Hid (w.heap.size + 1 ≤ ((w.alloc (.cells #[.slice us sizes.length cs, .int .i64 params, .int .i64 slots, .slice ub code.length cb] 30)).alloc (.cells #[] 3)).heap.size) := by show _ ≤ _; simp
  obtain ⟨n, hnn⟩ : ∃ n, code.length = n := ⟨_, rfl⟩
  have HNN := hideP hnn
  rw [hnn] at HN HIN EP AL BX1 O1 Z1 CY hl ⊢
  clear hnn
  go_enter Try.func25, Try.ntmps25
  go_wp2_with fail
  refine (CY.out _ AL.out).mono ?_
  rintro e1 w1 ⟨rfl, b1⟩
  have BB := hideP (below_trans AL.out b1)
  have OO := hideP (O1.out.stays b1)
  have BX := hideP ((b1.block _ (Array.getElem?_eq_some_iff.1 BX1.out).1).trans BX1.out)
  have SZ : Hid (w.heap.size + 1 ≤ w1.heap.size) := Nat.le_trans Z1.out b1.size
  clear b1 O1 BX1 AL Z1 CY
  cases y
  · go_wp2
    go_ret
    refine ⟨_, rfl, ?_, BB.out⟩
    rw [EP.out, if_neg (by simp)]
    exact OO.out.mono (Nat.le_succ _)
  · obtain ⟨hn6, hn1⟩ := HN.out rfl
    have EP2 : Hid (P = dnP (Way (nxW code) [0] (-1)) n) := by show _ = _; rw [EP.out, if_pos rfl]
    have HI2 := hideP (HIN.out rfl)
    have gg := (cells_of BX.out).1
    have p3 := gg 3
    simp at p3
    have hm1 := make_waysW n hn6
    have A0 := hideP (ahAt_made w1 n w.heap.size)
    have al := (Below.refl w1.heap.size w1).alloc (Nat.le_refl _) (.cells (madeCells #[.slice none 0 0] n) 22)
    have B2 := hideP (below_trans BB.out al)
    have O2 := hideP (OO.out.stays al)
    have X2 := hideP (keepW BX.out al)
    have S2 : Hid (w.heap.size + 1 ≤ (w1.alloc (.cells (madeCells #[.slice none 0 0] n) 22)).heap.size) := Nat.le_trans SZ.out al.size
    have gg2 := (cells_of X2.out).1
    have q3 := gg2 3
    simp at q3
    clear gg gg2 al HN HIN EP OO BB BX
    go_upto_region 5 with fail
    obtain ⟨ga, hga⟩ : ∃ ga, w1.heap.size = ga := ⟨_, rfl⟩
    obtain ⟨w2, hw2⟩ : ∃ w2, w1.alloc (.cells (madeCells #[.slice none 0 0] n) 22) = w2 := ⟨_, rfl⟩
    rw [hw2] at A0 B2 O2 X2 S2 q3 ⊢
    rw [hga] at A0 SZ ⊢
    clear hw2 hga hm1 p3
    have G1 : Hid (w.heap.size + 1 ≤ ga) := SZ.out
    have OG : Hid ((Value.slice (some ⟨w.heap.size + 1, 0, none⟩) 0 0).ownBlock ≠ some ga) := fun e => by
      obtain ⟨g', _, cur, hv, _, hh, _⟩ := O2.out.parts
      obtain ⟨c2, h2, _⟩ := A0.out.row
      have e1 : w.heap.size + 1 = ga := by simpa [Value.ownBlock] using e
      injection hv with e2
      injection e2 with e2
      injection e2 with e2
      rw [← e2, e1, h2] at hh
      injection hh with hh
      injection hh with _ e3
      exact absurd e3 (by decide)
    go_wp2
    go_loopg [21] n (fun gk ix wr => ∃ (j : Nat) (av : Nat → Value), gk + j = n ∧ ix = .int .i64 j ∧ Hid (AhAt w.heap.size n ga av (fun u => if u < j then nxW code u else []) wr) ∧ Hid (Below w.heap.size w wr) ∧ Hid (OwnI wr (w.heap.size + 1) (.slice (some ⟨w.heap.size + 1, 0, none⟩) 0 0) []) ∧ Hid (wr.heap[w.heap.size]? = some (.cells #[.slice us sizes.length cs, .int .i64 params, .int .i64 slots, .slice ub n cb] 30)) ∧ Hid (w.heap.size + 1 ≤ wr.heap.size))
    case atStart => exact ⟨0, fun _ => .slice none 0 0, by simp, rfl, A0.out.congr (fun t ht => by simp), B2.out, O2.out, X2.out, S2.out⟩
    case round =>
      obtain ⟨j, av, hj, rfl, hA, hE, hO, hX, hS⟩ := hrel
      clear A0 B2 O2 X2 S2 q3
      by_cases hlt : j < n
      · have hjc : j < code.length := by rw [HNN.out]; exact hlt
        obtain ⟨b, o, y0, y1, y2, y3, y4, rfl, _, hbi, hy, r0, r1, r2, r3, r4, hxx⟩ := Wrd_get (HB.out.stays WrdKeeps hE.out) j hjc
        have PN := hideP (nxW_at hjc)
        rw [hy] at PN
        have al := (Below.refl wr.heap.size wr).alloc (Nat.le_refl _) (.cells #[.int .i64 y0, .int .i64 y1, .int .i64 y2, .int .i64 y3, .int .i64 y4] 44)
        have A1 := hideP (hA.out.stays al)
        have E1 := hideP (below_trans hE.out al)
        have O1 := hideP (hO.out.stays al)
        have X1 := hideP (keepW hX.out al)
        have S1 : Hid (w.heap.size + 1 ≤ (wr.alloc (.cells #[.int .i64 y0, .int .i64 y1, .int .i64 y2, .int .i64 y3, .int .i64 y4] 44)).heap.size) := Nat.le_trans hS.out al.size
        obtain ⟨nx, hnx⟩ : ∃ nx, nxX j ⟨y0, y1, y2, y3, y4⟩ = nx := ⟨_, rfl⟩
        have NX := hideP (fun W => nextWords_any j y0 y1 y2 y3 y4 W (by omega))
        rw [hnx] at NX PN
        clear al hA hE hO hX hS hy hxx hnx
        go_wp2_with fail
        refine (NX.out _).mono ?_
        rintro e7 w7 ⟨v7, rfl, o7, b7⟩
        obtain ⟨gu, cu, hv7, _⟩ := id o7
        subst hv7
        have lo7 := o7.low gu rfl
        have A7 := hideP (A1.out.stays b7)
        have E7 := hideP (below_trans E1.out b7)
        obtain ⟨m1, f1⟩ := A7.out.at hlt
        have f1 := f1 j
        have hsz := E1.out.size
        have A8 := hideP (A1.out.putL hlt (Below.refl _ _) (W2 := w7) (o7.mono hsz) (grows_any b7) (Or.inr ⟨gu, rfl, lo7.1⟩))
        have B8 : Hid (But ga w7 (w7.setCell ⟨ga, j, none⟩ (.slice (some ⟨gu, 0, none⟩) nx.length cu))) := (But.refl _ _).set _ _
        have E8 := hideP (E7.out.trans (B8.out.below (Nat.le_of_succ_le G1.out) E7.out.size))
        have O8 := hideP ((O1.out.stays b7).butG B8.out OG.out)
        have X8 := hideP (B8.out.keepB (keepW X1.out b7) (by have := G1.out; omega))
        have S8 : Hid (w.heap.size + 1 ≤ (w7.setCell ⟨ga, j, none⟩ (.slice (some ⟨gu, 0, none⟩) nx.length cu)).heap.size) := Nat.le_trans S1.out (Nat.le_trans b7.size B8.out.size)
        have A9 : Hid (AhAt w.heap.size n ga (fun u => if u = j then .slice (some ⟨gu, 0, none⟩) nx.length cu else av u) (fun u => if u < j + 1 then nxW code u else []) (w7.setCell ⟨ga, j, none⟩ (.slice (some ⟨gu, 0, none⟩) nx.length cu))) := A8.out.congr (fun t ht => by
          by_cases e : t = j
          · subst e
            rw [if_pos rfl, if_pos (by omega), PN.out]
          · rw [if_neg e]
            by_cases e2 : t < j
            · rw [if_pos e2, if_pos (by omega)]
            · rw [if_neg e2, if_neg (by omega)])
        clear A8 B8 o7 b7 lo7 A7 E7 NX A1 E1 PN hsz O1 X1 S1 r0 r1 r2 r3 r4
        go_wp2
        go_roundg (n - (j + 1))
        case rel => exact ⟨j + 1, _, by omega, by go_num, A9.out, E8.out, O8.out, X8.out, S8.out⟩
        case measure => omega
      · have hjn : j = n := by omega
        subst hjn
        have A1 := hideP (hA.out.congr (fun t ht => if_pos ht))
        have al := (Below.refl wr.heap.size wr).alloc (Nat.le_refl _) (.cells #[.int .i64 0] 3)
        have OL := hideP (own_lit wr [0] #[.int .i64 0] wr.heap.size 1 rfl rfl rfl (by simp))
        have CT := hideP (comeTo_any j (nxW code) [0] (-1) _ w.heap.size ga wr.heap.size av _ (A1.out.stays al) OL.out (fun i hi z hz => HI2.out i hi z hz) (fun z hz => by rw [List.mem_singleton.1 hz]; exact ⟨by omega, by omega⟩) hn6 (by have := restN_le (met := []) (nxW_len code) j; simp only [List.length_singleton]; omega))
        have E1 := hideP (below_trans hE.out al)
        have O1 := hideP (hO.out.stays al)
        have X1 := hideP (keepW hX.out al)
        have S1 : Hid (w.heap.size + 1 ≤ (wr.alloc (.cells #[.int .i64 0] 3)).heap.size) := Nat.le_trans hS.out al.size
        clear al hA hE hO hX hS A1 OL
        go_wp2_with fail
        refine CT.out.mono ?_
        rintro e5 w5 ⟨ms, k5, l5, rfl, hms, s5, hk5, hl5, b5⟩
        have E5 := hideP (below_trans E1.out b5)
        have O5 := hideP (O1.out.stays b5)
        have X5 := hideP (keepW X1.out b5)
        have S5 : Hid (w.heap.size + 1 ≤ w5.heap.size) := Nat.le_trans S1.out b5.size
        have T5 := hideP s5
        have L5 := hideP hl5
        have gg := (cells_of X5.out).1
        have q3 := gg 3
        simp at q3
        clear b5 s5 hl5 E1 O1 X1 S1 gg CT
        go_wp2
        clear q3
        go_loopg [3, 39] j (fun gk o ix wr => ∃ (i : Nat), gk + i = j ∧ ix = .int .i64 i ∧ Hid (OwnI wr (w.heap.size + 1) o (dnP (Way (nxW code) [0] (-1)) i)) ∧ Hid (SetIs InK wr ms k5 l5) ∧ Hid (Below w.heap.size w wr) ∧ Hid (w.heap.size + 1 ≤ wr.heap.size))
        case atStart => exact ⟨0, by simp, rfl, O5.out, T5.out, E5.out, S5.out⟩
        case round =>
          obtain ⟨i, hi, rfl, ho, hT, hE, hS⟩ := hrel
          clear O5 T5 E5 S5 X5
          obtain ⟨go, co, rfl, _⟩ := id ho.out
          by_cases hlt2 : i < j
          · have CH := hideP (hasI_any l5 (i : Int) wr ms k5 hT.out (by show I64 _; unfold I64; omega))
            go_wp2_with fail
            refine CH.out.mono ?_
            rintro e6 w6 ⟨rfl, b6⟩
            have O6 := hideP (ho.out.stays b6)
            have T6 := hideP (hT.out.stays b6)
            have E6 := hideP (below_trans hE.out b6)
            have S6 : Hid (w.heap.size + 1 ≤ w6.heap.size) := Nat.le_trans hS.out b6.size
            clear b6 CH ho hT hE hS
            by_cases hin : (i : Int) ∈ l5
            · have him : inL l5 (i : Int) = true := inL_iff.2 hin
              have U := hideP (dnP_yes ((L5.out _).1 hin))
              rw [him]
              clear him hin
              go_wp2
              go_roundg (j - (i + 1))
              case rel => exact ⟨i + 1, by omega, by go_num, by rw [U.out]; exact O6.out, T6.out, E6.out, S6.out⟩
              case measure => omega
            · have him : inL l5 (i : Int) = false := not_inL hin
              have U := hideP (dnP_no (fun e => hin ((L5.out _).2 e)))
              rw [him]
              obtain ⟨L, hL⟩ : ∃ L, dnP (Way (nxW code) [0] (-1)) i = L := ⟨_, rfl⟩
              have hLl : L.length ≤ 6000 := by rw [← hL]; have := dnP_len (Way (nxW code) [0] (-1)) i; omega
              rw [hL] at O6 U ⊢
              clear him hin hL
              have al := (Below.refl w6.heap.size w6).alloc (Nat.le_refl _) (.cells #[.int .i64 (i : Int)] 3)
              have OC := hideP (O6.out.stays al)
              have OD := hideP (own_lit w6 [(i : Int)] #[.int .i64 (i : Int)] w6.heap.size 1 rfl rfl rfl (by simp))
              have BC := hideP (E6.out.alloc E6.out.size (.cells #[.int .i64 (i : Int)] 3))
              have TC := hideP (T6.out.stays al)
              have SC : Hid (w.heap.size + 1 ≤ (w6.alloc (.cells #[.int .i64 (i : Int)] 3)).heap.size) := Nat.le_trans S6.out al.size
              have hgb := OC.out.setNe TC.out
              clear al O6 T6 E6 S6
              go_wp2_with (at_builtin; refine list_appI _ rfl _ _ rfl (w.heap.size + 1) _ L [(i : Int)] w6.heap.size 0 1 1 rfl rfl rfl OC.out OD.out.at (by simp; omega) SC.out ?_; intro v8 w8 o8 grow8 loc8)
              replace grow8 : World.grownBy _ w8 (Value.slice (some ⟨go, 0, none⟩) L.length co).ownBlock := grow8
              have B8 := hideP (BC.out.grown grow8 BC.out.size (fun b' hb' => by have := OC.out.low b' hb'; omega))
              have Z8 : Hid (w.heap.size + 1 ≤ w8.heap.size) := Nat.le_trans SC.out grow8.size
              have T8 := hideP (TC.out.kept grow8 (by simp [Value.ownBlock]; exact fun e => hgb e.symm))
              obtain ⟨g8, c8, rfl, _⟩ := id o8
              have O8 := hideP o8
              clear o8 grow8 loc8 hgb
              go_wp2
              go_roundg (j - (i + 1))
              case rel => exact ⟨i + 1, by omega, by go_num, by rw [U.out]; simpa using O8, T8.out, B8.out, Z8.out⟩
              case measure => omega
          · have hij : i = j := by omega
            subst hij
            go_wp2
            go_ret
            exact ⟨_, rfl, by rw [EP2.out]; exact ho.out.mono (Nat.le_succ _), hE.out⟩
end Go.Proofs.Ytfoelnblnfcaiaa
