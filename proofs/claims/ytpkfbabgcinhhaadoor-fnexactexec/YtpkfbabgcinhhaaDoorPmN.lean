/- The contract of the machine's next. -/
import Derived.Test.YtpkfbabgcinhhaaDoorPmD
import Derived.Conc.WalkWords
namespace Go.Proofs.YtpkfbabgcinhhaaDoor
open Go.ChangeShapes Go.WideShapes Go.ChangeAt Go.RowKit
section
variable {w0 : World} {L : PLay} {ui : Option Addr} {ci : Nat} {vo : Value} {w w' : World} {s : Mch} {g : List Int} {k : Int} {code : List Wrd}
theorem enterF {f : FuncId} {fn : Func} {c : Code} (hf : Tryd.prog.funcs[f]? = some fn) (hname : (fn.name == "runtime.NumGoroutine") = false) (hb : fn.body = some c) (args : Array Value) (w : World) :
    (callFunc f args).run Tryd.prog w = .ok (.enter f args) w := by
  have h1 : fn.name ≠ "runtime.NumGoroutine" := by simpa using hname
  simp [callFunc, hf, h1, hb]
theorem enterKind (op : Nat) (h : op < 12) (args : Array Value) (w : World) : (callFunc (kindF op) args).run Tryd.prog w = .ok (.enter (kindF op) args) w := by
  match op, h with
  | 0, _ => exact enterF Tryd.func54 (by kernel_rfl) rfl args w
  | 1, _ => exact enterF Tryd.func55 (by kernel_rfl) rfl args w
  | 2, _ => exact enterF Tryd.func56 (by kernel_rfl) rfl args w
  | 3, _ => exact enterF Tryd.func57 (by kernel_rfl) rfl args w
  | 4, _ => exact enterF Tryd.func58 (by kernel_rfl) rfl args w
  | 5, _ => exact enterF Tryd.func59 (by kernel_rfl) rfl args w
  | 6, _ => exact enterF Tryd.func60 (by kernel_rfl) rfl args w
  | 7, _ => exact enterF Tryd.func61 (by kernel_rfl) rfl args w
  | 8, _ => exact enterF Tryd.func62 (by kernel_rfl) rfl args w
  | 9, _ => exact enterF Tryd.func63 (by kernel_rfl) rfl args w
  | 10, _ => exact enterF Tryd.func64 (by kernel_rfl) rfl args w
  | 11, _ => exact enterF Tryd.func65 (by kernel_rfl) rfl args w
set_option maxHeartbeats 8000000 in
set_option maxRecDepth 100000 in
theorem next_some (h : PAt w0 L code ui ci vo w s g (k : Int)) (hf : 0 < s.fuel) (hf2 : s.fuel ≤ 1000000) (hc : s.code = 0) (ho : s.over = false) (hv : s.val = 0) (hout : s.out.length ≤ 1000000) (hml : s.mem.length ≤ 100) (q : Nat) (hk : k = (q : Int)) (hq : q < code.length) (hcl : code.length ≤ 100000)
    (hx : wrdOk (s.mem.length : Nat) (s.vars.length : Nat) (code.length : Nat) code[q] = true) :
    Calls Tryd.prog 44 #[.pointer (some ⟨L.b, 0, none⟩)] w fun en w' => ∃ k2, DoRes w0 L code (wordM code[q] k { s with fuel := s.fuel - 1 } g) k2 en w' ∧ (en = .returned .nilIface ∨ k2 = k) := by
  subst hk
  have TF := hideP (takeFuel_yes h hf hf2)
  obtain ⟨x0, x1, x2, x3, x4, hxe⟩ : ∃ a b c d e, code[q] = ⟨a, b, c, d, e⟩ := ⟨_, _, _, _, _, rfl⟩
  obtain ⟨op, rfl, hop⟩ : ∃ p : Nat, x0 = (p : Int) ∧ p < 12 := by
    rw [hxe] at hx
    by_cases h1 : 0 ≤ x0 ∧ x0 < 12
    · exact ⟨x0.toNat, by omega, by omega⟩
    · rw [wrd_x (by omega) (by omega) (by omega) (by omega) (by omega) (by omega) (by omega) (by omega) (by omega) (by omega) (by omega) (by omega)] at hx; cases hx
  rw [hxe] at hx ⊢
  have HX := hideP hx
  have HC := hideP h.code
  have HE := hideP hxe
  clear h hx hxe
  go_enter Tryd.func44, Tryd.ntmps44
  go_wp2_with fail
  refine TF.out.mono ?_
  rintro e1 w1 ⟨rfl, h1⟩
  have H1 := hideP h1
  have d22 := h1.cells.2.2.2.2.2.2
  have f22 := h1.fz 22
  have d5 := h1.cells.2.2.2.2.2.1
  have K := hideP (h1.pos ((q : Int) + 1))
  obtain ⟨bw, ow, y0, y1, y2, y3, y4, hu, _, hbl, he, c0, c1, c2, c3, c4, _⟩ := Wrd_get (HC.out.stays WrdKeeps h1.bel) q hq
  have he2 := HE.out.symm.trans he
  simp only [Wrd.mk.injEq] at he2
  obtain ⟨rfl, rfl, rfl, rfl, rfl⟩ := he2
  rw [hu] at d5
  have hlB : L.b < w1.heap.size := h1.lt
  have hbw0 : bw < w0.heap.size := by
    obtain ⟨b', o', _, _, _, _, _, hu', _, hbl', _⟩ := Wrd_get HC.out q hq
    rw [hu] at hu'; cases hu'; exact hbl'
  have hnb : ¬ bw = L.b := by have := h1.lowB; omega
  have hnb2 : ¬ L.b = bw := by have := h1.lowB; omega
  clear h1 TF he
  go_upto_region 7 with fail
  obtain ⟨W, hW⟩ : ∃ W, (w1.setCell ⟨L.b, 22, none⟩ (.int .i64 ((q : Int) + 1))).alloc (.cells #[.int .i64 op, .int .i64 x1, .int .i64 x2, .int .i64 x3, .int .i64 x4] 73) = W := ⟨_, rfl⟩
  have al := (Below.refl (w1.setCell ⟨L.b, 22, none⟩ (.int .i64 ((q : Int) + 1))).heap.size (w1.setCell ⟨L.b, 22, none⟩ (.int .i64 ((q : Int) + 1)))).alloc (Nat.le_refl _) (.cells #[.int .i64 op, .int .i64 x1, .int .i64 x2, .int .i64 x3, .int .i64 x4] 73)
  have NB : ((w1.setCell ⟨L.b, 22, none⟩ (.int .i64 ((q : Int) + 1))).alloc (.cells #[.int .i64 op, .int .i64 x1, .int .i64 x2, .int .i64 x3, .int .i64 x4] 73)).heap[w1.heap.size]? = some (.cells #[.int .i64 op, .int .i64 x1, .int .i64 x2, .int .i64 x3, .int .i64 x4] 73 (0, 0)) := by
    have hs : (w1.setCell ⟨L.b, 22, none⟩ (.int .i64 ((q : Int) + 1))).heap.size = w1.heap.size := size_set _ _ _
    rw [← hs]
    show ((w1.setCell ⟨L.b, 22, none⟩ (.int .i64 ((q : Int) + 1))).heap.push _)[(w1.setCell ⟨L.b, 22, none⟩ (.int .i64 ((q : Int) + 1))).heap.size]? = _
    exact Array.getElem?_push_size
  have HD := hideP ((K.out.stays al).stays (Below.refl _ _).drew)
  have kd := (K.out.stays al).kd op hop
  rw [hW] at HD NB kd ⊢
  have e0 := (cells_of NB).1 0
  have e1 := (cells_of NB).1 1
  have e2 := (cells_of NB).1 2
  have e3 := (cells_of NB).1 3
  have e4 := (cells_of NB).1 4
  simp at e0 e1 e2 e3 e4
  have hop2 : (op : Int) < 12 := by omega
  obtain ⟨t, ht⟩ : ∃ t, wordM ⟨op, x1, x2, x3, x4⟩ (q : Int) { s with fuel := s.fuel - 1 } g = t := ⟨_, rfl⟩
  obtain ⟨tc, htc⟩ : ∃ c, t.1.code = c := ⟨_, rfl⟩
  obtain ⟨tv, htv⟩ : ∃ c, t.1.val = c := ⟨_, rfl⟩
  have TC := hideP ht
  have TCc : Hid ((wordM ⟨op, x1, x2, x3, x4⟩ (q : Int) { s with fuel := s.fuel - 1 } g).1.code = tc) := by show _ = _; rw [ht, htc]
  have TCv : Hid ((wordM ⟨op, x1, x2, x3, x4⟩ (q : Int) { s with fuel := s.fuel - 1 } g).1.val = tv) := by show _ = _; rw [ht, htv]
  obtain ⟨F, hF⟩ : ∃ F, kindF op = F := ⟨_, rfl⟩
  have DO : Hid (∀ X, PAt w0 L code ui ci vo X { s with fuel := s.fuel - 1 } g ((q : Int) + 1) → Calls Tryd.prog F #[.pointer (some ⟨L.b, 0, none⟩), .agg #[.int .i64 op, .int .i64 x1, .int .i64 x2, .int .i64 x3, .int .i64 x4]] X fun en w' => (t.1.code = 0 ∧ t.1.over = false ∧ en = .returned .nilIface ∧ ∃ ui ci vo, PAt w0 L code ui ci vo w' t.1 t.2.1 t.2.2) ∨ (¬ (t.1.code = 0 ∧ t.1.over = false) ∧ en = .returned (.iface 111 (.agg #[.int .i64 tc, .int .i64 tv])) ∧ ∃ ui ci vo, PAt w0 L code ui ci vo w' t.1 t.2.1 ((q : Int) + 1))) := fun X hX => by
    have := do_any (k := (q : Int)) hX hc ho hv hout hml op x1 x2 x3 x4 HX.out
    rw [hF, ht] at this
    unfold DoRes at this
    rw [htc, htv] at this
    rw [htc]
    exact this
  have CF : ∀ (args : Array Value) (X : World), (callFunc F args).run Tryd.prog X = .ok (.enter F args) X := fun args X => by rw [← hF]; exact enterKind op hop args X
  unfold kindV at kd
  rw [hF] at kd
  obtain ⟨nb, hnbe⟩ : ∃ nb, w1.heap.size = nb := ⟨_, rfl⟩
  rw [hnbe] at e0 e1 e2 e3 e4 ⊢
  clear hW al NB hF ht htc htv hnbe HX HC HE H1 K d22 f22 d5 hu c0 c1 c2 c3 c4 hlB hbl
  refine wp_region_held_drew (S := fun _ => True) (by kernel_rfl) trivial (fun hHeld => ?_)
  refine wpAnyH_take (i := 0) (v := (.pointer (some ⟨L.b, 0, none⟩))) rfl (by kernel_rfl) (by kernel_rfl) (by kernel_rfl) (fun _ _ _ h => h) (Or.inl ⟨by rfl, ?_⟩) hHeld ?_
  · (intro w hSw; go_simp)
  walk_nrm
  refine wpAnyH_take (i := 1) (v := (.pointer (some ⟨nb, 0, none⟩))) rfl (by kernel_rfl) (by kernel_rfl) (by kernel_rfl) (fun _ _ _ h => h) (Or.inl ⟨by rfl, ?_⟩) hHeld ?_
  · (intro w hSw; go_simp)
  walk_nrm
  refine wpAnyH_take (i := 3) (v := (.pointer (some ⟨L.b, 0, none⟩))) rfl (by kernel_rfl) (by kernel_rfl) (by kernel_rfl) (fun _ _ _ h => h) (Or.inl ⟨by rfl, ?_⟩) hHeld ?_
  · (intro w hSw; go_simp)
  walk_nrm
  refine wpAnyH_take (i := 4) (v := (.pointer (some ⟨L.b, 23, none⟩))) rfl (by kernel_rfl) (by kernel_rfl) (by kernel_rfl) (fun _ _ _ h => h) (Or.inl ⟨by rfl, ?_⟩) hHeld ?_
  · (intro w hSw; go_simp)
  walk_nrm
  refine wpAnyH_ready (rs := [2, 7]) (by kernel_rfl) (by simp) ?_
  refine AllReadyH.cons rfl (fun K hK => ?_) (AllReadyH.cons rfl (fun K hK => ?_) (AllReadyH.nil))
  · go_simp
    refine hK.out _ _ trivial (fun hHeld => ?_)
    clear hK K
    refine wpAnyH_take (i := 5) (v := (.pointer (some ⟨L.b, 23 + op, none⟩))) rfl (by kernel_rfl) (by kernel_rfl) (by kernel_rfl) (fun _ _ _ h => h) (Or.inl ⟨by rfl, ?_⟩) hHeld ?_
    · (intro w hSw; go_simp)
    walk_nrm
    refine wpAnyH_ready (rs := [6, 7]) (by kernel_rfl) (by simp) ?_
    refine AllReadyH.cons rfl (fun K hK => ?_) (AllReadyH.cons rfl (fun K hK => ?_) (AllReadyH.nil))
    · go_simp
      refine hK.out _ _ trivial (fun hHeld => ?_)
      clear hK K
      refine wpAnyH_ready (rs := [7]) (by kernel_rfl) (by simp) ?_
      refine AllReadyH.cons rfl (fun K hK => ?_) (AllReadyH.nil)
      go_simp
      refine hK.out _ _ trivial (fun hHeld => ?_)
      clear hK K
      refine wpAnyH_ready (rs := [8]) (by kernel_rfl) (by simp) ?_
      refine AllReadyH.cons rfl (fun K hK => ?_) (AllReadyH.nil)
      go_simp
      clear CF
      refine (DO.out _ HD.out).mono ?_
      rintro ea wa (⟨t1, t2, rfl, hp⟩ | ⟨t1, rfl, ui2, ci2, vo2, hp⟩)
      · have HP := hideP hp
        clear hp
        go_wp2_with fail
        refine hK.out _ _ trivial (fun hHeld => ?_)
        clear hK K
        refine wpAnyH_take (i := 9) (v := (.nilIface)) rfl (by kernel_rfl) (by kernel_rfl) (by kernel_rfl) (fun _ _ _ h => h) (Or.inl ⟨by rfl, ?_⟩) hHeld ?_
        · (intro w hSw; go_simp)
        walk_nrm
        refine wpAnyH_done (by kernel_rfl) ?_ _
        clear hHeld
        go_wp2
        go_ret
        exact ⟨(q : Int), Or.inl ⟨TC.out ▸ t1, TC.out ▸ t2, rfl, TC.out ▸ HP.out⟩, Or.inl rfl⟩
      · have HP := hideP hp
        have d22b := hp.cells.2.2.2.2.2.2
        have f22b := hp.fz 22
        have HQ := hideP (hp.pos (q : Int))
        clear hp
        go_wp2_with fail
        refine hK.out _ _ trivial (fun hHeld => ?_)
        clear hK K
        refine wpAnyH_take (i := 9) (v := (.iface 111 (.agg #[.int .i64 tc, .int .i64 tv]))) rfl (by kernel_rfl) (by kernel_rfl) (by kernel_rfl) (fun _ _ _ h => h) (Or.inl ⟨by rfl, ?_⟩) hHeld ?_
        · (intro w hSw; go_simp)
        walk_nrm
        refine wpAnyH_done (by kernel_rfl) ?_ _
        clear hHeld
        go_wp2
        go_ret
        exact ⟨(q : Int), Or.inr ⟨TC.out ▸ t1, by rw [TCc.out, TCv.out]; rfl, _, _, _, TC.out ▸ HQ.out⟩, Or.inr rfl⟩
    · go_simp
      refine hK.out _ _ trivial (fun hHeld => ?_)
      clear hK K
      refine wpAnyH_ready (rs := [6]) (by kernel_rfl) (by simp) ?_
      refine AllReadyH.cons rfl (fun K hK => ?_) (AllReadyH.nil)
      go_simp
      refine hK.out _ _ trivial (fun hHeld => ?_)
      clear hK K
      refine wpAnyH_ready (rs := [8]) (by kernel_rfl) (by simp) ?_
      refine AllReadyH.cons rfl (fun K hK => ?_) (AllReadyH.nil)
      go_simp
      clear CF
      refine (DO.out _ HD.out).mono ?_
      rintro ea wa (⟨t1, t2, rfl, hp⟩ | ⟨t1, rfl, ui2, ci2, vo2, hp⟩)
      · have HP := hideP hp
        clear hp
        go_wp2_with fail
        refine hK.out _ _ trivial (fun hHeld => ?_)
        clear hK K
        refine wpAnyH_take (i := 9) (v := (.nilIface)) rfl (by kernel_rfl) (by kernel_rfl) (by kernel_rfl) (fun _ _ _ h => h) (Or.inl ⟨by rfl, ?_⟩) hHeld ?_
        · (intro w hSw; go_simp)
        walk_nrm
        refine wpAnyH_done (by kernel_rfl) ?_ _
        clear hHeld
        go_wp2
        go_ret
        exact ⟨(q : Int), Or.inl ⟨TC.out ▸ t1, TC.out ▸ t2, rfl, TC.out ▸ HP.out⟩, Or.inl rfl⟩
      · have HP := hideP hp
        have d22b := hp.cells.2.2.2.2.2.2
        have f22b := hp.fz 22
        have HQ := hideP (hp.pos (q : Int))
        clear hp
        go_wp2_with fail
        refine hK.out _ _ trivial (fun hHeld => ?_)
        clear hK K
        refine wpAnyH_take (i := 9) (v := (.iface 111 (.agg #[.int .i64 tc, .int .i64 tv]))) rfl (by kernel_rfl) (by kernel_rfl) (by kernel_rfl) (fun _ _ _ h => h) (Or.inl ⟨by rfl, ?_⟩) hHeld ?_
        · (intro w hSw; go_simp)
        walk_nrm
        refine wpAnyH_done (by kernel_rfl) ?_ _
        clear hHeld
        go_wp2
        go_ret
        exact ⟨(q : Int), Or.inr ⟨TC.out ▸ t1, by rw [TCc.out, TCv.out]; rfl, _, _, _, TC.out ▸ HQ.out⟩, Or.inr rfl⟩
  · go_simp
    refine hK.out _ _ trivial (fun hHeld => ?_)
    clear hK K
    refine wpAnyH_ready (rs := [2]) (by kernel_rfl) (by simp) ?_
    refine AllReadyH.cons rfl (fun K hK => ?_) (AllReadyH.nil)
    go_simp
    refine hK.out _ _ trivial (fun hHeld => ?_)
    clear hK K
    refine wpAnyH_take (i := 5) (v := (.pointer (some ⟨L.b, 23 + op, none⟩))) rfl (by kernel_rfl) (by kernel_rfl) (by kernel_rfl) (fun _ _ _ h => h) (Or.inl ⟨by rfl, ?_⟩) hHeld ?_
    · (intro w hSw; go_simp)
    walk_nrm
    refine wpAnyH_ready (rs := [6]) (by kernel_rfl) (by simp) ?_
    refine AllReadyH.cons rfl (fun K hK => ?_) (AllReadyH.nil)
    go_simp
    refine hK.out _ _ trivial (fun hHeld => ?_)
    clear hK K
    refine wpAnyH_ready (rs := [8]) (by kernel_rfl) (by simp) ?_
    refine AllReadyH.cons rfl (fun K hK => ?_) (AllReadyH.nil)
    go_simp
    clear CF
    refine (DO.out _ HD.out).mono ?_
    rintro ea wa (⟨t1, t2, rfl, hp⟩ | ⟨t1, rfl, ui2, ci2, vo2, hp⟩)
    · have HP := hideP hp
      clear hp
      go_wp2_with fail
      refine hK.out _ _ trivial (fun hHeld => ?_)
      clear hK K
      refine wpAnyH_take (i := 9) (v := (.nilIface)) rfl (by kernel_rfl) (by kernel_rfl) (by kernel_rfl) (fun _ _ _ h => h) (Or.inl ⟨by rfl, ?_⟩) hHeld ?_
      · (intro w hSw; go_simp)
      walk_nrm
      refine wpAnyH_done (by kernel_rfl) ?_ _
      clear hHeld
      go_wp2
      go_ret
      exact ⟨(q : Int), Or.inl ⟨TC.out ▸ t1, TC.out ▸ t2, rfl, TC.out ▸ HP.out⟩, Or.inl rfl⟩
    · have HP := hideP hp
      have d22b := hp.cells.2.2.2.2.2.2
      have f22b := hp.fz 22
      have HQ := hideP (hp.pos (q : Int))
      clear hp
      go_wp2_with fail
      refine hK.out _ _ trivial (fun hHeld => ?_)
      clear hK K
      refine wpAnyH_take (i := 9) (v := (.iface 111 (.agg #[.int .i64 tc, .int .i64 tv]))) rfl (by kernel_rfl) (by kernel_rfl) (by kernel_rfl) (fun _ _ _ h => h) (Or.inl ⟨by rfl, ?_⟩) hHeld ?_
      · (intro w hSw; go_simp)
      walk_nrm
      refine wpAnyH_done (by kernel_rfl) ?_ _
      clear hHeld
      go_wp2
      go_ret
      exact ⟨(q : Int), Or.inr ⟨TC.out ▸ t1, by rw [TCc.out, TCv.out]; rfl, _, _, _, TC.out ▸ HQ.out⟩, Or.inr rfl⟩
end
end Go.Proofs.YtpkfbabgcinhhaaDoor
