/- The contract of impl.AsmWord. -/
import Derived.Test.YtheholgdfmipbaaDoorAmI
import Derived.Test.YtheholgdfmipbaaDoorImgI
namespace Go.Proofs.YtheholgdfmipbaaDoor
open Go.ChangeShapes Go.WideShapes Go.ChangeAt Go.RowKit
theorem fmsT_at : ∀ q, q < 12 → fmsT[q]? = some (offT.getD q 0, lenT.getD q 0) := by decide
/-- What stands in the block of the parts, read by a form. -/
theorem frm_cells {W : World} {b : Nat} (h : W.heap[b]? = some (.cells (tokA.map Value.string).toArray 9 (0, 0))) (q j : Nat) (t : ByteArray) (hj : (frmT q)[j]? = some t) : W.cell? ⟨b, offT.getD q 0 + j, none⟩ = some (.string t) := by
  rw [(cells_of h).1, List.getElem?_toArray, List.getElem?_map]
  unfold frmT at hj
  have h1 : ((tokA.drop (offT.getD q 0)).take (lenT.getD q 0))[j]? = some t := hj
  have hlt : j < lenT.getD q 0 := by
    have := (List.getElem?_eq_some_iff.1 h1).1
    rw [List.length_take] at this
    omega
  rw [List.getElem?_take_of_lt hlt, List.getElem?_drop] at h1
  rw [h1]; rfl
/-- The five cells of a word's box. -/
def WS (b : Nat) (x : Wrd) (W : World) : Prop := W.cell? ⟨b, 0, none⟩ = some (.int .i64 x.op) ∧ W.cell? ⟨b, 1, none⟩ = some (.int .i64 x.r) ∧ W.cell? ⟨b, 2, none⟩ = some (.int .i64 x.a) ∧ W.cell? ⟨b, 3, none⟩ = some (.int .i64 x.b) ∧ W.cell? ⟨b, 4, none⟩ = some (.int .i64 x.n)
theorem WS.of {b : Nat} {x : Wrd} {W : World} (h : W.heap[b]? = some (.cells #[.int .i64 x.op, .int .i64 x.r, .int .i64 x.a, .int .i64 x.b, .int .i64 x.n] 47 (0, 0))) : WS b x W := by
  have f := (cells_of h).1
  exact ⟨f 0, f 1, f 2, f 3, f 4⟩
set_option maxHeartbeats 8000000 in
set_option maxRecDepth 100000 in
theorem impl_asmWord (m : Img) (p : Int) (w : World) (B : Nat) (v : Array Value) (h : ImgIs w B v m) (ht : TabA w) (ml : Int) (hml : w.cell? ⟨4, 0, none⟩ = some (.int .i64 ml)) :
    Calls Tryd.prog 15 #[.agg v, .int .i64 p] w fun en w' => en = .returned (.string ⟨(asmW m p).toArray⟩) ∧ Below w.heap.size w w' := by
  obtain ⟨y, hy⟩ : ∃ y, imgOk m = y := ⟨_, rfl⟩
  have CY : Hid (∀ W, Below w.heap.size w W → Calls Tryd.prog 27 #[.agg v] W fun en w' => en = .returned (.bool y) ∧ Below W.heap.size W w') := fun W hW => by rw [← hy]; exact impl_imageOk _ W B v (ImgKeeps.stays h hW)
  have HQ : Hid (y = true → ∀ x ∈ m.code, (∃ q : Nat, x.op = (q : Int) ∧ q < 12) ∧ (x.op = 3 → ∃ k : Nat, x.n = (k : Int) ∧ k < 6)) := fun e x hx => ⟨imgOk_word (by rw [hy]; exact e) hx, imgOk_sign (by rw [hy]; exact e) hx⟩
  have EP : Hid (asmW m p = if y = true ∧ 0 ≤ p ∧ p < ((m.code.length : Nat) : Int) then wordL (m.code.getD p.toNat default) else []) := by show _ = _; unfold asmW; rw [hy]
  obtain ⟨P, hP⟩ : ∃ P, asmW m p = P := ⟨_, rfl⟩
  rw [hP] at EP ⊢
  clear hy hP
  obtain ⟨sizes, params, slots, code⟩ := m
  obtain ⟨us, cs, ub, cb, rfl, _, _, hb⟩ := h
  simp only at *
  have hm := maxLen_lt
  have hl := hb.1
  have HB := hideP hb
  have HT := hideP ht
  have lM := World.block_lt_of_cell? _ _ hml
  have HM := hideP hml
  clear hb ht hml
  have AL : Hid (Below w.heap.size w (w.alloc (.cells #[.slice us sizes.length cs, .int .i64 params, .int .i64 slots, .slice ub code.length cb] 33))) := (Below.refl _ _).alloc (Nat.le_refl _) _
  have BX1 := hideP (newA w (.cells #[.slice us sizes.length cs, .int .i64 params, .int .i64 slots, .slice ub code.length cb] 33))
  obtain ⟨W0, hW0⟩ : ∃ W0, w.alloc (.cells #[.slice us sizes.length cs, .int .i64 params, .int .i64 slots, .slice ub code.length cb] 33) = W0 := ⟨_, rfl⟩
  obtain ⟨bi, hbi⟩ : ∃ bi, w.heap.size = bi := ⟨_, rfl⟩
  rw [hW0, hbi] at BX1
  rw [hW0] at AL
  have HW0 := hideP hW0
  have HBI := hideP hbi
  have p0 := (cells_of BX1.out).1 0
  have p1 := (cells_of BX1.out).1 1
  have p2 := (cells_of BX1.out).1 2
  have p3 := (cells_of BX1.out).1 3
  simp at p0 p1 p2 p3
  clear hW0 hbi
  by_cases hp : 0 ≤ p ∧ p < ((code.length : Nat) : Int)
  · have hin : belI p ((code.length : Nat) : Int) = true := by unfold belI; exact decide_eq_true hp
    obtain ⟨j, hj⟩ : ∃ j : Nat, p = (j : Int) := ⟨p.toNat, by omega⟩
    have hlt : j < code.length := by omega
    have HIN := hideP hin
    have EJ : Hid (P = if y = true then wordL code[j] else []) := by
      show _ = _
      rw [EP.out]
      cases y
      · rw [if_neg (by simp), if_neg (by simp)]
      · rw [if_pos ⟨rfl, hp⟩, if_pos rfl, hj, Int.toNat_natCast, List.getD_eq_getElem?_getD, List.getElem?_eq_getElem hlt]; rfl
    subst hj
    clear hp hin EP
    go_enter Tryd.func15, Tryd.ntmps15
    go_upto_region 1 with fail
    rw [HW0.out, HBI.out]
    go_wp2_with fail
    refine (isBelow_any _ _ _).mono ?_
    rintro e1 w1 ⟨rfl, rfl⟩
    rw [HIN.out]
    go_wp2_with fail
    refine (CY.out _ AL.out).mono ?_
    rintro e2 w2 ⟨rfl, b2⟩
    have BB := hideP (below_trans AL.out b2)
    have BX := hideP (keepA BX1.out b2)
    clear b2 BX1 AL p0 p1 p2 p3
    cases y
    · go_wp2
      go_ret
      exact ⟨ret_str (by rw [EJ.out, if_neg (by simp)]), BB.out⟩
    have p3 := (cells_of BX.out).1 3
    simp at p3
    obtain ⟨b, o, y0, y1, y2, y3, y4, rfl, _, hbb, hy, r0, r1, r2, r3, r4, hxx⟩ := Wrd_get (HB.out.stays WrdKeeps BB.out) j hlt
    obtain ⟨⟨q, hq1, hq2⟩, hq3⟩ := HQ.out rfl _ (List.getElem_mem hlt)
    have hxw := hxx.2
    have EK : Hid (P = wordL ⟨y0, y1, y2, y3, y4⟩) := by show _ = _; rw [EJ.out, if_pos rfl, hy]
    rw [hy] at hq1 hq3
    simp only at hq1 hq3
    subst hq1
    have WL : Hid (∀ W b' g', W.heap[g']? = some (.cells (tokA.map Value.string).toArray 9 (0, 0)) → TabA W → b' = offT.getD q 0 → Calls Tryd.prog 31 #[.slice (some ⟨g', b', none⟩) (lenT.getD q 0) (lenT.getD q 0), .agg #[.int .i64 (q : Int), .int .i64 y1, .int .i64 y2, .int .i64 y3, .int .i64 y4]] W fun e w' => e = .returned (.string ⟨(wordL ⟨(q : Int), y1, y2, y3, y4⟩).toArray⟩) ∧ Below W.heap.size W w') := fun W b' g' hg hT eb => by
      subst eb
      have h1 := (frmT_ok q hq2).1
      have h2 := wordLine_any ⟨(q : Int), y1, y2, y3, y4⟩ q rfl hq2 hxw (fun e => hq3 (by omega)) W g' (offT.getD q 0) (fun j t hj => frm_cells hg q j t hj) (Array.getElem?_eq_some_iff.1 hg).1 hT
      rw [h1] at h2
      exact h2
    have FA := hideP (fmsT_at q hq2)
    have hq4 : (q : Int) < 12 := by omega
    clear hy hxx hq3 hxw EJ HQ
    obtain ⟨W3, hW3⟩ : ∃ W3, w2.alloc (.cells #[.int .i64 (q : Int), .int .i64 y1, .int .i64 y2, .int .i64 y3, .int .i64 y4] 47) = W3 := ⟨_, rfl⟩
    obtain ⟨bw, hbw⟩ : ∃ bw, w2.heap.size = bw := ⟨_, rfl⟩
    have al3 : Below w2.heap.size w2 W3 := hW3 ▸ (Below.refl w2.heap.size w2).alloc (Nat.le_refl _) (.cells #[.int .i64 (q : Int), .int .i64 y1, .int .i64 y2, .int .i64 y3, .int .i64 y4] 47)
    have X5 : Hid (W3.heap[bw]? = some (.cells #[.int .i64 (q : Int), .int .i64 y1, .int .i64 y2, .int .i64 y3, .int .i64 y4] 47 (0, 0))) := by show _ = _; rw [← hW3, ← hbw]; exact newA w2 _
    have B3 := hideP (below_trans BB.out al3)
    have HW3 := hideP hW3
    have HBW := hideP hbw
    clear hW3 hbw al3
    go_upto_region 4 with fail
    rw [HW3.out, HBW.out]
    clear r0 r1 r2 r3 r4 p3 BX
    have S0 : WS bw ⟨(q : Int), y1, y2, y3, y4⟩ W3.drew := WS.of X5.out
    have X6 : Hid (W3.drew.heap[bw]? = some (.cells #[.int .i64 (q : Int), .int .i64 y1, .int .i64 y2, .int .i64 y3, .int .i64 y4] 47 (0, 0))) := X5.out
    have B4 : Hid (Below w.heap.size w W3.drew) := B3.out.drew
    refine wp_region_held_drew (S := WS bw ⟨(q : Int), y1, y2, y3, y4⟩) (by kernel_rfl) S0 (fun hHeld => ?_)
    generalize W3.drew = X0 at B4 X6 hHeld ⊢
    clear S0 X5 B3
    refine wpAnyH_take (i := 1) (v := (.pointer (some ⟨bw, 0, none⟩))) rfl (by kernel_rfl) (by kernel_rfl) (by kernel_rfl) (fun _ _ _ h => h) (Or.inl ⟨by rfl, ?_⟩) hHeld ?_
    · (intro w hSw; obtain ⟨q0, q1, q2, q3, q4⟩ := hSw; go_simp)
    walk_nrm
    refine wpAnyH_take (i := 2) (v := (.int .i64 (q : Int))) rfl (by kernel_rfl) (by kernel_rfl) (by kernel_rfl) (fun _ _ _ h => h) (Or.inl ⟨by rfl, ?_⟩) hHeld ?_
    · (intro w hSw; obtain ⟨q0, q1, q2, q3, q4⟩ := hSw; go_simp)
    walk_nrm
    refine wpAnyH_take (i := 5) (v := (.agg #[.int .i64 (q : Int), .int .i64 y1, .int .i64 y2, .int .i64 y3, .int .i64 y4])) rfl (by kernel_rfl) (by kernel_rfl) (by kernel_rfl) (fun _ _ _ h => h) (Or.inl ⟨by rfl, ?_⟩) hHeld ?_
    · (intro w hSw; obtain ⟨q0, q1, q2, q3, q4⟩ := hSw; go_simp)
    walk_nrm
    refine wpAnyH_ready (rs := [0]) (by kernel_rfl) (by simp) ?_
    refine AllReadyH.cons rfl (fun K hK => ?_) (AllReadyH.nil)
    go_simp
    go_at_call 30
    refine (wordForms_any ml _ ((B4.out.cell (p := ⟨4, 0, none⟩) lM).trans HM.out)).mono ?_
    rintro ea X1 ⟨tb, g, c, rfl, ow, _, hh, ba⟩
    have B5 := hideP (below_trans B4.out ba)
    have X7 := hideP (keepA X6.out ba)
    have HH := hideP hh
    have S1 : Hid (WS bw ⟨(q : Int), y1, y2, y3, y4⟩ X1) := WS.of X7.out
    have c4 : X1.cell? ⟨g, q, none⟩ = some (.slice (some ⟨tb, offT.getD q 0, none⟩) (lenT.getD q 0) (lenT.getD q 0)) := by
      have hql : q < fmsT.length := hq2
      have h1 := ow.at (FmOk tb) q hql 0 (show 0 < 1 by decide)
      have h2 : fmsT[q] = (offT.getD q 0, lenT.getD q 0) := by
        have := FA.out
        rw [List.getElem?_eq_getElem hql] at this
        exact Option.some.inj this
      rw [h2] at h1
      have e : (0 + q * (FmE tb).sz + 0) = q := by show 0 + q * 1 + 0 = q; omega
      rw [e] at h1
      exact h1
    obtain ⟨fo, hfo⟩ : ∃ fo, offT.getD q 0 = fo := ⟨_, rfl⟩
    obtain ⟨fl, hfl⟩ : ∃ fl, lenT.getD q 0 = fl := ⟨_, rfl⟩
    rw [hfo, hfl] at c4
    rw [hfo, hfl] at WL
    clear ow hh ba FA hfo hfl X6 B4
    go_wp2_with fail
    refine hK.out _ _ S1.out (fun hHeld => ?_)
    clear hK K
    refine wpAnyH_take (i := 3) (v := (.pointer (some ⟨g, q, none⟩))) rfl (by kernel_rfl) (by kernel_rfl) (by kernel_rfl) (fun _ _ _ h => h) (Or.inl ⟨by rfl, ?_⟩) hHeld ?_
    · (intro w hSw; obtain ⟨q0, q1, q2, q3, q4⟩ := hSw; go_simp)
    walk_nrm
    refine wpAnyH_ready (rs := [4]) (by kernel_rfl) (by simp) ?_
    refine AllReadyH.cons rfl (fun K hK => ?_) (AllReadyH.nil)
    go_simp
    refine hK.out _ _ S1.out (fun hHeld => ?_)
    clear hK K c4
    refine wpAnyH_ready (rs := [6]) (by kernel_rfl) (by simp) ?_
    refine AllReadyH.cons rfl (fun K hK => ?_) (AllReadyH.nil)
    go_simp
    go_at_call 31
    refine (WL.out X1 fo tb HH.out (HT.out.stays B5.out) rfl).mono ?_
    rintro eb X2 ⟨rfl, bb⟩
    have B6 := hideP (below_trans B5.out bb)
    have S2 : Hid (WS bw ⟨(q : Int), y1, y2, y3, y4⟩ X2) := WS.of (keepA X7.out bb)
    clear bb
    go_wp2_with fail
    refine hK.out _ _ S2.out (fun hHeld => ?_)
    clear hK K
    refine wpAnyH_ready (rs := [7]) (by kernel_rfl) (by simp) ?_
    refine AllReadyH.cons rfl (fun K hK => ?_) (AllReadyH.nil)
    go_simp
    refine hK.out _ _ S2.out (fun hHeld => ?_)
    clear hK K
    refine wpAnyH_done (by kernel_rfl) ?_ _
    go_wp2
    go_ret
    exact ⟨ret_str (by rw [EK.out]), B6.out⟩
  · have hin : belI p ((code.length : Nat) : Int) = false := by unfold belI; exact decide_eq_false hp
    have HIN := hideP hin
    have EJ : Hid (P = []) := by show _ = _; rw [EP.out, if_neg (fun h => hp h.2)]
    clear hp hin EP
    go_enter Tryd.func15, Tryd.ntmps15
    go_upto_region 1 with fail
    rw [HW0.out, HBI.out]
    go_wp2_with fail
    refine (isBelow_any _ _ _).mono ?_
    rintro e1 w1 ⟨rfl, rfl⟩
    rw [HIN.out]
    go_wp2
    go_ret
    exact ⟨ret_str (by rw [EJ.out]), AL.out⟩
end Go.Proofs.YtheholgdfmipbaaDoor
