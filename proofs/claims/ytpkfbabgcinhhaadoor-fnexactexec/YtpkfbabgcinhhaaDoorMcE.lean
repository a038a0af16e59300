/- The contract of spec.l03End (written by wip/mkmce.py). -/
import Derived.Test.YtpkfbabgcinhhaaDoorCkG
import Derived.Test.YtpkfbabgcinhhaaDoorCpA
import Derived.Conc.WalkWords
import Derived.Deep.CutRange
import Derived.Laws.Rows
namespace Go.Proofs.YtpkfbabgcinhhaaDoor
open Go.ChangeShapes Go.WideShapes Go.ChangeAt Go.RowKit
/-- append of such a list to an empty one. -/
theorem own0 {w : World} {B g0 : Nat} (h0 : w.heap[g0]? = some (.cells #[] 3 (0, 0))) (hB : B ≤ g0) : OwnI w B (.slice (some ⟨g0, 0, none⟩) 0 0) [] := ⟨g0, 0, rfl, rfl, Or.inr ⟨g0, 0, #[], rfl, hB, h0, Nat.le_refl _, Nat.zero_le _, rfl, rfl⟩⟩
theorem run_appZ {w : World} {B D g0 : Nat} {vo : Value} {l : List Int} (ty : TypeId) (h0 : w.heap[g0]? = some (.cells #[] 3 (0, 0))) (hB : B ≤ g0) (h : OwnN IntE w D vo l) (hn : l.length ≤ 8000000) :
    ∃ v' w', (Builtin.append_ #[22, 22] ty #[.slice (some ⟨g0, 0, none⟩) 0 0, vo]).run Tryd.prog w = .ok v' w' ∧ (∃ g c, v' = .slice (some ⟨g, 0, none⟩) l.length c ∧ OwnI w' B v' l) ∧ w.grownBy w' (some g0) := by
  have hl0 : g0 < w.heap.size := (Array.getElem?_eq_some_iff.1 h0).1
  obtain ⟨i0, hi, _, _, _⟩ := info_parts IntOk.info
  obtain ⟨hlen, ⟨hv, hz⟩ | ⟨b, cap, cur, hv, hb, hh, hc, hm, hs, ht⟩⟩ := id h
  · have hnil : l = [] := List.eq_nil_of_length_eq_zero hz
    subst hnil hv
    exact ⟨_, _, run_app_none (P := Tryd.prog) w 22 ty 3 i0 IntOk.und hi g0 0, ⟨g0, 0, rfl, own0 h0 hB⟩, World.grownBy.refl _ _⟩
  · subst hv
    have h1 : OwnI w B (.slice (some ⟨g0, 0, none⟩) 0 0) [] := own0 h0 hB
    obtain ⟨v', w', hr, r1, r2, _⟩ := run_appI (l2 := l) (b := b) (o := 0) (cap2 := cap) ty h1 (fun j hj => by
      have hcl : cur.toList.take (l.length * 1) = l.map (Value.int .i64) := by rw [← intE_flat]; exact ht
      have k1 : (cur.toList.take (l.length * 1))[j]? = (l.map (Value.int .i64))[j]? := by rw [hcl]
      rw [List.getElem?_take_of_lt (by omega)] at k1
      rw [Nat.zero_add, (cells_of hh).1 j]
      simpa [hj] using k1) (by simpa using hn) (by omega)
    rw [List.nil_append] at r1
    obtain ⟨g, c, hv', _⟩ := id r1
    exact ⟨v', w', hr, ⟨g, c, hv', r1⟩, r2⟩
theorem step_appZ {ops : Array Oper} {o : Oper} {a : Act} {Q : Exit → Act → World → Prop} {K : Act → World → Prop} {F : Prop} (w : World) (hgd : o.guard = none) (s y : Operand) (ho : o.op = .call { callee := .builtin .append, args := #[s, y], argTypes := #[22, 22] })
    (B D g0 : Nat) (vo : Value) (l : List Int) (hs : a.eval s = .slice (some ⟨g0, 0, none⟩) 0 0) (hx : a.eval y = vo) (h0 : w.heap[g0]? = some (.cells #[] 3 (0, 0))) (hB : B ≤ g0) (h1 : OwnN IntE w D vo l) (hn : l.length ≤ 8000000)
    (h : ∀ g c w', OwnI w' B (.slice (some ⟨g, 0, none⟩) l.length c) l → w.grownBy w' (some g0) → K (a.put o.dst (.slice (some ⟨g, 0, none⟩) l.length c)) w') :
    if Region.wanted o (yielded ops a.tmps) = true then Oper.wp Tryd.prog o a w K Q else F := by
  have hw : Region.wanted o (yielded ops a.tmps) = true := by simp [Region.wanted, hgd]
  rw [if_pos hw]
  obtain ⟨v', w', hr, ⟨g, c, rfl, r1⟩, r2⟩ := run_appZ (B := B) o.type h0 hB h1 hn
  unfold Oper.wp execOp
  simp only [ho, resolve, invoke, builtin, Sem.run_bind, Sem.run_pure, Result.andThen_ok, List.map_toArray, List.map_cons, List.map_nil, hs, hx, hr]
  exact h g c w' r1 r2
def zE : Array Value := #[.int .i64 0, .int .i64 0, .slice none 0 0]
def SE3 (b : Nat) (code : Int) (vo : Value) (W : World) : Prop := W.cell? ⟨b, 4, none⟩ = some (.int .i64 code) ∧ W.cell? ⟨b, 7, none⟩ = some vo
theorem se_keep {b : Nat} {code : Int} {vo : Value} {w w' : World} (h : SE3 b code vo w) (hb : b < w.heap.size) (k : Below w.heap.size w w') : SE3 b code vo w' := ⟨(k.cell (p := ⟨b, 4, none⟩) hb).trans h.1, (k.cell (p := ⟨b, 7, none⟩) hb).trans h.2⟩
theorem put3 {w : World} {b : Nat} {T : TypeId} {a0 a1 a2 : Value} (h : w.heap[b]? = some (.cells #[a0, a1, a2] T (0, 0))) (v0 v1 v2 : Value) : (((w.setCell ⟨b, 0, none⟩ v0).setCell ⟨b, 1, none⟩ v1).setCell ⟨b, 2, none⟩ v2).heap[b]? = some (.cells #[v0, v1, v2] T (0, 0)) := by
  have h1 := box_set h 0 v0
  have h2 := box_set h1 1 v1
  have h3 := box_set h2 2 v2
  exact h3.trans rfl
theorem put3_below {n b : Nat} {w0 w : World} (h : Below n w0 w) (hb : n ≤ b) (hn : n ≤ w.heap.size) (v0 v1 v2 : Value) : Below n w0 (((w.setCell ⟨b, 0, none⟩ v0).setCell ⟨b, 1, none⟩ v1).setCell ⟨b, 2, none⟩ v2) :=
  h.trans ((((But.refl b w).set 0 v0).set 1 v1).set 2 v2 |>.below hb hn)
theorem le_n {n : Nat} {w w' : World} (b : Below (n + 1) w w') (h : w.heap.size = n + 1) : n + 1 ≤ w'.heap.size := h ▸ b.size
theorem le_of {n : Nat} {w w' : World} (b : Below (n + 1) w w') (_h : w.heap.size = n + 1) : w.heap.size ≤ w'.heap.size := b.size
theorem below_at {n : Nat} {w w' : World} (b : Below (n + 1) w w') (h : w.heap.size = n + 1) : Below w.heap.size w w' := h ▸ b
theorem se_grown {b g0 : Nat} {code : Int} {vo : Value} {w w' : World} (h : SE3 b code vo w) (hb : b < w.heap.size) (k : w.grownBy w' (some g0)) (hne : b ≠ g0) : SE3 b code vo w' :=
  ⟨(World.cell?_of_block (a := ⟨b, 4, none⟩) (k.block b hb (fun e => hne (Option.some.inj e)))).trans h.1, (World.cell?_of_block (a := ⟨b, 7, none⟩) (k.block b hb (fun e => hne (Option.some.inj e)))).trans h.2⟩
theorem se_but {b c : Nat} {code : Int} {vo : Value} {w w' : World} (h : SE3 b code vo w) (hb : b < w.heap.size) (k : But c w w') (hne : b ≠ c) : SE3 b code vo w' := ⟨(k.cell hb hne).trans h.1, (k.cell hb hne).trans h.2⟩
set_option maxHeartbeats 8000000 in
set_option maxRecDepth 100000 in
theorem end_any {L : Lay} {D : Nat} {ui : Option Addr} {ci : Nat} {vo : Value} {w : World} {s : Mch} {g : List Int} (h : MAt L D ui ci vo w s g) (ho : s.out.length ≤ 1000000) :
    Calls Tryd.prog 35 #[.pointer (some ⟨L.b, 0, none⟩)] w fun e w' => ∃ go c, e = .returned (.agg #[.int .i64 s.code, .int .i64 (if s.code = 0 then s.val else 0), .slice (some ⟨go, 0, none⟩) s.out.length c]) ∧ OwnI w' w.heap.size (.slice (some ⟨go, 0, none⟩) s.out.length c) s.out ∧ Below w.heap.size w w' := by
  obtain ⟨n, hn⟩ : ∃ n, w.heap.size = n := ⟨_, rfl⟩
  have HNN := hideP hn
  have al := (Below.refl w.heap.size w).alloc (Nat.le_refl _) (.cells zE 28)
  have H := hideP (h.stays al)
  have Z0 : Hid ((w.alloc (.cells zE 28)).heap[n]? = some (.cells zE 28 (0, 0))) := by show _ = _; rw [← hn]; show (w.heap.push _)[w.heap.size]? = _; exact Array.getElem?_push_size
  have HAL := hideP al
  obtain ⟨W, hW⟩ : ∃ W, w.alloc (.cells zE 28) = W := ⟨_, rfl⟩
  have hz : W.heap.size = n + 1 := by rw [← hW]; simp [hn]
  rw [hW] at H Z0 HAL
  unfold zE at hW
  have HZ := hideP hz
  have x4 := (cells_of H.out.box).1 4
  have x6 := (cells_of H.out.box).1 6
  have x7 := (cells_of H.out.box).1 7
  simp at x4 x6 x7
  have lb : L.b < W.heap.size := (Array.getElem?_eq_some_iff.1 H.out.box).1
  have SD : Hid (SE3 L.b s.code vo W.drew) := ⟨x4, x7⟩
  clear al h hz
  go_enter Tryd.func35, Tryd.ntmps35
  go_upto_region 1 with fail
  go_cut [3] from 4 to 14 (fun s3 wx => ∃ bx go c, s3 = .pointer (some ⟨bx, 0, none⟩) ∧ Hid (n < bx) ∧ Hid (go ≠ bx) ∧ Hid (wx.heap[bx]? = some (.cells #[.int .i64 s.code, .int .i64 0, .slice (some ⟨go, 0, none⟩) s.out.length c] 28 (0, 0))) ∧ Hid (OwnI wx (n + 1) (.slice (some ⟨go, 0, none⟩) s.out.length c) s.out) ∧ Hid (Below (n + 1) W wx))
  case first =>
    have B0 : Hid (Below (n + 1) W W.drew) := (Below.refl (n + 1) W).drew
    have S0 := SD
    refine wp_region_held_drew (S := SE3 L.b s.code vo) (by kernel_rfl) SD.out (fun hHeld => ?_)
    generalize W.drew = X0 at B0 S0 hHeld ⊢
    refine wpAnyH_take (i := 0) (v := (.pointer (some ⟨L.b, 0, none⟩))) rfl (by kernel_rfl) (by kernel_rfl) (by kernel_rfl) (fun _ _ _ h => h) (Or.inl ⟨by rfl, ?_⟩) hHeld ?_
    · (intro w hSw; obtain ⟨q1, q2⟩ := hSw; go_simp)
    walk_nrm
    refine wpAnyH_take (i := 1) (v := (.pointer (some ⟨L.b, 0, none⟩))) rfl (by kernel_rfl) (by kernel_rfl) (by kernel_rfl) (fun _ _ _ h => h) (Or.inl ⟨by rfl, ?_⟩) hHeld ?_
    · (intro w hSw; obtain ⟨q1, q2⟩ := hSw; go_simp)
    walk_nrm
    refine wpAnyH_take (i := 2) (v := (.pointer (some ⟨L.b, 4, none⟩))) rfl (by kernel_rfl) (by kernel_rfl) (by kernel_rfl) (fun _ _ _ h => h) (Or.inl ⟨by rfl, ?_⟩) hHeld ?_
    · (intro w hSw; obtain ⟨q1, q2⟩ := hSw; go_simp)
    walk_nrm
    refine wpAnyH_take (i := 3) (v := (.int .i64 s.code)) rfl (by kernel_rfl) (by kernel_rfl) (by kernel_rfl) (fun _ _ _ h => h) (Or.inl ⟨by rfl, ?_⟩) hHeld ?_
    · (intro w hSw; obtain ⟨q1, q2⟩ := hSw; go_simp)
    walk_nrm
    refine wpAnyH_take (i := 5) (v := (.pointer (some ⟨L.b, 0, none⟩))) rfl (by kernel_rfl) (by kernel_rfl) (by kernel_rfl) (fun _ _ _ h => h) (Or.inl ⟨by rfl, ?_⟩) hHeld ?_
    · (intro w hSw; obtain ⟨q1, q2⟩ := hSw; go_simp)
    walk_nrm
    refine wpAnyH_take (i := 6) (v := (.pointer (some ⟨L.b, 0, none⟩))) rfl (by kernel_rfl) (by kernel_rfl) (by kernel_rfl) (fun _ _ _ h => h) (Or.inl ⟨by rfl, ?_⟩) hHeld ?_
    · (intro w hSw; obtain ⟨q1, q2⟩ := hSw; go_simp)
    walk_nrm
    refine wpAnyH_take (i := 7) (v := (.pointer (some ⟨L.b, 7, none⟩))) rfl (by kernel_rfl) (by kernel_rfl) (by kernel_rfl) (fun _ _ _ h => h) (Or.inl ⟨by rfl, ?_⟩) hHeld ?_
    · (intro w hSw; obtain ⟨q1, q2⟩ := hSw; go_simp)
    walk_nrm
    refine wpAnyH_take (i := 8) (v := (vo)) rfl (by kernel_rfl) (by kernel_rfl) (by kernel_rfl) (fun _ _ _ h => h) (Or.inl ⟨by rfl, ?_⟩) hHeld ?_
    · (intro w hSw; obtain ⟨q1, q2⟩ := hSw; go_simp)
    walk_nrm
    refine wpAnyH_ready (rs := [4, 11]) (by kernel_rfl) (by simp) ?_
    refine AllReadyH.cons rfl (fun K hK => ?_) (AllReadyH.cons rfl (fun K hK => ?_) (AllReadyH.nil))
    · have al := (Below.refl X0.heap.size X0).alloc (Nat.le_refl _) (.cells #[] 3)
      have NL := hideP (show (X0.alloc (.cells #[] 3)).heap[X0.heap.size]? = some (.cells #[] 3 (0, 0)) by show (X0.heap.push _)[X0.heap.size]? = _; exact Array.getElem?_push_size)
      go_simp
      obtain ⟨X1, hX⟩ : ∃ Y, X0.alloc (.cells #[] 3) = Y := ⟨_, rfl⟩
      rw [hX] at al NL ⊢
      clear hX
      have S1 := hideP (se_keep S0.out (Nat.lt_of_lt_of_le lb (le_of B0.out HZ.out)) al)
      have G0 : Hid (n + 1 ≤ X0.heap.size) := by have := B0.out.size; have := HZ.out; show _ ≤ _; omega
      obtain ⟨g0, hg0⟩ : ∃ q, X0.heap.size = q := ⟨_, rfl⟩
      rw [hg0] at NL G0 ⊢
      have LG : Hid (g0 < X1.heap.size) := (Array.getElem?_eq_some_iff.1 NL.out).1
      have B1 := hideP (B0.out.trans (al.mono (le_n B0.out HZ.out)))
      clear al
      refine hK.out _ _ S1.out (fun hHeld => ?_)
      clear hK K
      refine wpAnyH_ready (rs := [9, 11]) (by kernel_rfl) (by simp) ?_
      refine AllReadyH.cons rfl (fun K hK => ?_) (AllReadyH.cons rfl (fun K hK => ?_) (AllReadyH.nil))
      · have HO := (H.out.stays (below_at B1.out HZ.out)).out
        refine step_appZ _ rfl _ _ rfl (n + 1) D g0 vo s.out rfl rfl NL.out G0.out HO (by omega) ?_
        intro go c X2 o6 g6
        have S2 := hideP (se_grown S1.out (Nat.lt_of_lt_of_le lb (le_of B1.out HZ.out)) g6 (by have := G0.out; have := HZ.out; omega))
        have B2 := hideP (B1.out.trans (grown_below g6 (fun q e => by cases e; exact G0.out) (le_n B1.out HZ.out)))
        have OW := hideP o6
        have OW0 := OW
        clear o6 g6 HO
        go_wp2_with fail
        refine hK.out _ _ S2.out (fun hHeld => ?_)
        clear hK K
        refine wpAnyH_take (i := 10) (v := (.agg #[.int .i64 s.code, .int .i64 0, .slice (some ⟨go, 0, none⟩) s.out.length c])) rfl (by kernel_rfl) (by kernel_rfl) (by kernel_rfl) (fun _ _ _ h => h) (Or.inl ⟨by rfl, ?_⟩) hHeld ?_
        · (intro w hSw; obtain ⟨q1, q2⟩ := hSw; go_simp)
        walk_nrm
        refine wpAnyH_ready (rs := [11]) (by kernel_rfl) (by simp) ?_
        refine AllReadyH.cons rfl (fun K hK => ?_) (AllReadyH.nil)
        have al := (Below.refl X2.heap.size X2).alloc (Nat.le_refl _) (.cells #[.int .i64 0, .int .i64 0, .slice none 0 0] 28)
        have EB := hideP (show (X2.alloc (.cells #[.int .i64 0, .int .i64 0, .slice none 0 0] 28)).heap[X2.heap.size]? = some (.cells #[.int .i64 0, .int .i64 0, .slice none 0 0] 28 (0, 0)) by show (X2.heap.push _)[X2.heap.size]? = _; exact Array.getElem?_push_size)
        go_simp
        obtain ⟨X3, hX⟩ : ∃ Y, X2.alloc (.cells #[.int .i64 0, .int .i64 0, .slice none 0 0] 28) = Y := ⟨_, rfl⟩
        rw [hX] at al EB ⊢
        clear hX
        have S3 := hideP (se_keep S2.out (Nat.lt_of_lt_of_le lb (le_of B2.out HZ.out)) al)
        have NB : Hid (n < X2.heap.size) := by have := B2.out.size; have := HZ.out; show _ < _; omega
        have OW2 := hideP (OW.out.stays al)
        have OW := OW2
        have GE : Hid (go ≠ X2.heap.size) := fun e => by have := (OW0.out.low go rfl).2; omega
        obtain ⟨bx, hbx⟩ : ∃ q, X2.heap.size = q := ⟨_, rfl⟩
        rw [hbx] at EB NB GE ⊢
        have EB0 := EB
        have B3 := hideP (B2.out.trans (al.mono (le_n B2.out HZ.out)))
        clear al
        refine hK.out _ _ S3.out (fun hHeld => ?_)
        clear hK K
        have P3 := hideP (put3 EB.out (.int .i64 s.code) (.int .i64 0) (.slice (some ⟨go, 0, none⟩) s.out.length c))
        have PB := hideP (put3_below B3.out (show n + 1 ≤ bx from NB.out) (le_n B3.out HZ.out) (.int .i64 s.code) (.int .i64 0) (.slice (some ⟨go, 0, none⟩) s.out.length c))
        have kb := (((But.refl bx X3).set 0 (.int .i64 s.code)).set 1 (.int .i64 0)).set 2 (.slice (some ⟨go, 0, none⟩) s.out.length c)
        have OZ := hideP (OW.out.butG kb (fun e => GE.out (own_blk e)))
        have SZ := hideP (se_but S3.out (Nat.lt_of_lt_of_le lb (le_of B3.out HZ.out)) kb (fun e => typ_ne2 ((H.out.stays (below_at B3.out HZ.out)).box) EB.out (by decide) e))
        have e0 := (cells_of EB.out).1 0
        have e1 := (cells_of EB.out).1 1
        have e2 := (cells_of EB.out).1 2
        have ef := (cells_of EB.out).2
        simp at e0 e1 e2
        clear kb
        refine wpAnyH_ready (rs := [12]) (by kernel_rfl) (by simp) ?_
        refine AllReadyH.cons rfl (fun K hK => ?_) (AllReadyH.nil)
        go_simp
        refine hK.out _ _ SZ.out (fun hHeld => ?_)
        clear hK K
        refine wpAnyH_done (by kernel_rfl) ?_ _
        go_wp2_with fail
        go_meet
        exact ⟨bx, go, c, rfl, NB.out, GE.out, P3.out, OZ.out, PB.out⟩
      · have al := (Below.refl X1.heap.size X1).alloc (Nat.le_refl _) (.cells #[.int .i64 0, .int .i64 0, .slice none 0 0] 28)
        have EB := hideP (show (X1.alloc (.cells #[.int .i64 0, .int .i64 0, .slice none 0 0] 28)).heap[X1.heap.size]? = some (.cells #[.int .i64 0, .int .i64 0, .slice none 0 0] 28 (0, 0)) by show (X1.heap.push _)[X1.heap.size]? = _; exact Array.getElem?_push_size)
        go_simp
        obtain ⟨X2, hX⟩ : ∃ Y, X1.alloc (.cells #[.int .i64 0, .int .i64 0, .slice none 0 0] 28) = Y := ⟨_, rfl⟩
        rw [hX] at al EB ⊢
        clear hX
        have S2 := hideP (se_keep S1.out (Nat.lt_of_lt_of_le lb (le_of B1.out HZ.out)) al)
        have NB : Hid (n < X1.heap.size) := by have := B1.out.size; have := HZ.out; show _ < _; omega
        have NL2 := hideP ((al.block _ LG.out).trans NL.out)
        have NL := NL2
        have NE : Hid (g0 ≠ X1.heap.size) := fun e => by have := LG.out; omega
        have LG2 : Hid (g0 < X2.heap.size) := Nat.lt_of_lt_of_le LG.out al.size
        have LG := LG2
        obtain ⟨bx, hbx⟩ : ∃ q, X1.heap.size = q := ⟨_, rfl⟩
        rw [hbx] at EB NB NE ⊢
        have EB0 := EB
        have B2 := hideP (B1.out.trans (al.mono (le_n B1.out HZ.out)))
        clear al
        refine hK.out _ _ S2.out (fun hHeld => ?_)
        clear hK K
        refine wpAnyH_ready (rs := [9]) (by kernel_rfl) (by simp) ?_
        refine AllReadyH.cons rfl (fun K hK => ?_) (AllReadyH.nil)
        have HO := (H.out.stays (below_at B2.out HZ.out)).out
        refine step_appZ _ rfl _ _ rfl (n + 1) D g0 vo s.out rfl rfl NL.out G0.out HO (by omega) ?_
        intro go c X3 o6 g6
        have S3 := hideP (se_grown S2.out (Nat.lt_of_lt_of_le lb (le_of B2.out HZ.out)) g6 (by have := G0.out; have := HZ.out; omega))
        have B3 := hideP (B2.out.trans (grown_below g6 (fun q e => by cases e; exact G0.out) (le_n B2.out HZ.out)))
        have OW := hideP o6
        have OW0 := OW
        have EX := hideP ((g6.block bx (Array.getElem?_eq_some_iff.1 EB.out).1 (fun e => NE.out (Option.some.inj e).symm)).trans EB.out)
        have EB := EX
        have GE : Hid (go ≠ bx) := fun e => by obtain ⟨q1, q2, q3, q4, _, q6, _⟩ := OW.out.parts; cases q4; rw [e, EB.out] at q6; simp at q6
        clear o6 g6 HO
        go_wp2_with fail
        refine hK.out _ _ S3.out (fun hHeld => ?_)
        clear hK K
        refine wpAnyH_take (i := 10) (v := (.agg #[.int .i64 s.code, .int .i64 0, .slice (some ⟨go, 0, none⟩) s.out.length c])) rfl (by kernel_rfl) (by kernel_rfl) (by kernel_rfl) (fun _ _ _ h => h) (Or.inl ⟨by rfl, ?_⟩) hHeld ?_
        · (intro w hSw; obtain ⟨q1, q2⟩ := hSw; go_simp)
        walk_nrm
        have P3 := hideP (put3 EB.out (.int .i64 s.code) (.int .i64 0) (.slice (some ⟨go, 0, none⟩) s.out.length c))
        have PB := hideP (put3_below B3.out (show n + 1 ≤ bx from NB.out) (le_n B3.out HZ.out) (.int .i64 s.code) (.int .i64 0) (.slice (some ⟨go, 0, none⟩) s.out.length c))
        have kb := (((But.refl bx X3).set 0 (.int .i64 s.code)).set 1 (.int .i64 0)).set 2 (.slice (some ⟨go, 0, none⟩) s.out.length c)
        have OZ := hideP (OW.out.butG kb (fun e => GE.out (own_blk e)))
        have SZ := hideP (se_but S3.out (Nat.lt_of_lt_of_le lb (le_of B3.out HZ.out)) kb (fun e => typ_ne2 ((H.out.stays (below_at B3.out HZ.out)).box) EB.out (by decide) e))
        have e0 := (cells_of EB.out).1 0
        have e1 := (cells_of EB.out).1 1
        have e2 := (cells_of EB.out).1 2
        have ef := (cells_of EB.out).2
        simp at e0 e1 e2
        clear kb
        refine wpAnyH_ready (rs := [12]) (by kernel_rfl) (by simp) ?_
        refine AllReadyH.cons rfl (fun K hK => ?_) (AllReadyH.nil)
        go_simp
        refine hK.out _ _ SZ.out (fun hHeld => ?_)
        clear hK K
        refine wpAnyH_done (by kernel_rfl) ?_ _
        go_wp2_with fail
        go_meet
        exact ⟨bx, go, c, rfl, NB.out, GE.out, P3.out, OZ.out, PB.out⟩
    · have al := (Below.refl X0.heap.size X0).alloc (Nat.le_refl _) (.cells #[.int .i64 0, .int .i64 0, .slice none 0 0] 28)
      have EB := hideP (show (X0.alloc (.cells #[.int .i64 0, .int .i64 0, .slice none 0 0] 28)).heap[X0.heap.size]? = some (.cells #[.int .i64 0, .int .i64 0, .slice none 0 0] 28 (0, 0)) by show (X0.heap.push _)[X0.heap.size]? = _; exact Array.getElem?_push_size)
      go_simp
      obtain ⟨X1, hX⟩ : ∃ Y, X0.alloc (.cells #[.int .i64 0, .int .i64 0, .slice none 0 0] 28) = Y := ⟨_, rfl⟩
      rw [hX] at al EB ⊢
      clear hX
      have S1 := hideP (se_keep S0.out (Nat.lt_of_lt_of_le lb (le_of B0.out HZ.out)) al)
      have NB : Hid (n < X0.heap.size) := by have := B0.out.size; have := HZ.out; show _ < _; omega
      obtain ⟨bx, hbx⟩ : ∃ q, X0.heap.size = q := ⟨_, rfl⟩
      rw [hbx] at EB NB ⊢
      have EB0 := EB
      have B1 := hideP (B0.out.trans (al.mono (le_n B0.out HZ.out)))
      clear al
      refine hK.out _ _ S1.out (fun hHeld => ?_)
      clear hK K
      refine wpAnyH_ready (rs := [4]) (by kernel_rfl) (by simp) ?_
      refine AllReadyH.cons rfl (fun K hK => ?_) (AllReadyH.nil)
      have al := (Below.refl X1.heap.size X1).alloc (Nat.le_refl _) (.cells #[] 3)
      have NL := hideP (show (X1.alloc (.cells #[] 3)).heap[X1.heap.size]? = some (.cells #[] 3 (0, 0)) by show (X1.heap.push _)[X1.heap.size]? = _; exact Array.getElem?_push_size)
      go_simp
      obtain ⟨X2, hX⟩ : ∃ Y, X1.alloc (.cells #[] 3) = Y := ⟨_, rfl⟩
      rw [hX] at al NL ⊢
      clear hX
      have S2 := hideP (se_keep S1.out (Nat.lt_of_lt_of_le lb (le_of B1.out HZ.out)) al)
      have G0 : Hid (n + 1 ≤ X1.heap.size) := by have := B1.out.size; have := HZ.out; show _ ≤ _; omega
      have EX := hideP ((al.block _ (Array.getElem?_eq_some_iff.1 EB.out).1).trans EB.out)
      have EB := EX
      have NE : Hid (X1.heap.size ≠ bx) := fun e => by have := (Array.getElem?_eq_some_iff.1 EB0.out).1; omega
      obtain ⟨g0, hg0⟩ : ∃ q, X1.heap.size = q := ⟨_, rfl⟩
      rw [hg0] at NL G0 NE ⊢
      have LG : Hid (g0 < X2.heap.size) := (Array.getElem?_eq_some_iff.1 NL.out).1
      have B2 := hideP (B1.out.trans (al.mono (le_n B1.out HZ.out)))
      clear al
      refine hK.out _ _ S2.out (fun hHeld => ?_)
      clear hK K
      refine wpAnyH_ready (rs := [9]) (by kernel_rfl) (by simp) ?_
      refine AllReadyH.cons rfl (fun K hK => ?_) (AllReadyH.nil)
      have HO := (H.out.stays (below_at B2.out HZ.out)).out
      refine step_appZ _ rfl _ _ rfl (n + 1) D g0 vo s.out rfl rfl NL.out G0.out HO (by omega) ?_
      intro go c X3 o6 g6
      have S3 := hideP (se_grown S2.out (Nat.lt_of_lt_of_le lb (le_of B2.out HZ.out)) g6 (by have := G0.out; have := HZ.out; omega))
      have B3 := hideP (B2.out.trans (grown_below g6 (fun q e => by cases e; exact G0.out) (le_n B2.out HZ.out)))
      have OW := hideP o6
      have OW0 := OW
      have EX := hideP ((g6.block bx (Array.getElem?_eq_some_iff.1 EB.out).1 (fun e => NE.out (Option.some.inj e).symm)).trans EB.out)
      have EB := EX
      have GE : Hid (go ≠ bx) := fun e => by obtain ⟨q1, q2, q3, q4, _, q6, _⟩ := OW.out.parts; cases q4; rw [e, EB.out] at q6; simp at q6
      clear o6 g6 HO
      go_wp2_with fail
      refine hK.out _ _ S3.out (fun hHeld => ?_)
      clear hK K
      refine wpAnyH_take (i := 10) (v := (.agg #[.int .i64 s.code, .int .i64 0, .slice (some ⟨go, 0, none⟩) s.out.length c])) rfl (by kernel_rfl) (by kernel_rfl) (by kernel_rfl) (fun _ _ _ h => h) (Or.inl ⟨by rfl, ?_⟩) hHeld ?_
      · (intro w hSw; obtain ⟨q1, q2⟩ := hSw; go_simp)
      walk_nrm
      have P3 := hideP (put3 EB.out (.int .i64 s.code) (.int .i64 0) (.slice (some ⟨go, 0, none⟩) s.out.length c))
      have PB := hideP (put3_below B3.out (show n + 1 ≤ bx from NB.out) (le_n B3.out HZ.out) (.int .i64 s.code) (.int .i64 0) (.slice (some ⟨go, 0, none⟩) s.out.length c))
      have kb := (((But.refl bx X3).set 0 (.int .i64 s.code)).set 1 (.int .i64 0)).set 2 (.slice (some ⟨go, 0, none⟩) s.out.length c)
      have OZ := hideP (OW.out.butG kb (fun e => GE.out (own_blk e)))
      have SZ := hideP (se_but S3.out (Nat.lt_of_lt_of_le lb (le_of B3.out HZ.out)) kb (fun e => typ_ne2 ((H.out.stays (below_at B3.out HZ.out)).box) EB.out (by decide) e))
      have e0 := (cells_of EB.out).1 0
      have e1 := (cells_of EB.out).1 1
      have e2 := (cells_of EB.out).1 2
      have ef := (cells_of EB.out).2
      simp at e0 e1 e2
      clear kb
      refine wpAnyH_ready (rs := [12]) (by kernel_rfl) (by simp) ?_
      refine AllReadyH.cons rfl (fun K hK => ?_) (AllReadyH.nil)
      go_simp
      refine hK.out _ _ SZ.out (fun hHeld => ?_)
      clear hK K
      refine wpAnyH_done (by kernel_rfl) ?_ _
      go_wp2_with fail
      go_meet
      exact ⟨bx, go, c, rfl, NB.out, GE.out, P3.out, OZ.out, PB.out⟩
  case rest =>
    obtain ⟨bx, go, c, rfl, hbx, hgo, hx, ho2, hb⟩ := hcut
    have HX := hideP (H.out.stays (below_at hb.out HZ.out))
    have zz := hideP ((hb.out.block n (Nat.lt_succ_self n)).trans Z0.out)
    have y4 := (cells_of HX.out.box).1 4
    have y6 := (cells_of HX.out.box).1 6
    have b0 := (cells_of hx.out).1 0
    have b1 := (cells_of hx.out).1 1
    have b2 := (cells_of hx.out).1 2
    have bf := (cells_of hx.out).2
    have z0 := (cells_of zz.out).1 0
    have z1 := (cells_of zz.out).1 1
    have z2 := (cells_of zz.out).1 2
    have zf := (cells_of zz.out).2
    simp [zE] at y4 y6 b0 b1 b2 z0 z1 z2
    have hnb : ¬ n = bx := fun e => by have := hbx.out; omega
    have hbn : ¬ bx = n := fun e => by have := hbx.out; omega
    have hBn : n ≤ wc.heap.size := Nat.le_trans (Nat.le_succ n) (le_n hb.out HZ.out)
    have BN := hideP ((HNN.out ▸ HAL.out : Below n w W).trans (hb.out.mono (Nat.le_succ n)))
    clear H SD x4 x6 x7 lb hW
    by_cases hc : s.code = 0
    · have E1 : Hid (Value.agg #[.int .i64 s.code, .int .i64 (if s.code = 0 then s.val else 0), .slice (some ⟨go, 0, none⟩) s.out.length c] = .agg #[.int .i64 0, .int .i64 s.val, .slice (some ⟨go, 0, none⟩) s.out.length c]) := by show _ = _; rw [if_pos hc, hc]
      rw [hc] at y4 b0
      have hx2 : Hid ((wc.setCell ⟨bx, 1, none⟩ (.int .i64 s.val)).heap[n]? = some (.cells zE 28 (0, 0))) := keepQ zz.out ((But.refl bx wc).set 1 (.int .i64 s.val)) hnb
      have P3 := hideP (put3 (show (wc.setCell ⟨bx, 1, none⟩ (.int .i64 s.val)).heap[n]? = some (.cells #[.int .i64 0, .int .i64 0, .slice none 0 0] 28 (0, 0)) from hx2.out) (.int .i64 0) (.int .i64 s.val) (.slice (some ⟨go, 0, none⟩) s.out.length c))
      have k1 := (But.refl bx wc).set 1 (.int .i64 s.val)
      have PB := hideP (put3_below (BN.out.trans (k1.below (Nat.le_of_lt hbx.out) hBn)) (Nat.le_refl n) (Nat.le_trans hBn k1.size) (.int .i64 0) (.int .i64 s.val) (.slice (some ⟨go, 0, none⟩) s.out.length c))
      have O2 := hideP ((ho2.out.butG k1 (fun e => hgo.out (own_blk e))).butG ((((But.refl n (wc.setCell ⟨bx, 1, none⟩ (.int .i64 s.val))).set 0 (.int .i64 0)).set 1 (.int .i64 s.val)).set 2 (.slice (some ⟨go, 0, none⟩) s.out.length c)) (fun e => by have e1 := own_blk e; have := (ho2.out.low go rfl).1; omega))
      clear k1 hx2
      go_wp2
      refine bodyPost_ret (results_cell_row rfl _ _ n 28 #[.int .i64 0, .int .i64 s.val, .slice (some ⟨go, 0, none⟩) s.out.length c] (0, 0) _ rfl P3.out Tryd.underlying28 rfl (by kernel_rfl)) rfl ?_
      exact ⟨go, c, by first | rfl | exact congrArg Ending.returned E1.out.symm, by first | exact O2.out.mono (Nat.le_succ n) | (rw [HNN.out]; exact O2.out.mono (Nat.le_succ n)), by first | exact PB.out | (rw [HNN.out]; exact PB.out)⟩
    · have E1 : Hid (Value.agg #[.int .i64 s.code, .int .i64 (if s.code = 0 then s.val else 0), .slice (some ⟨go, 0, none⟩) s.out.length c] = .agg #[.int .i64 s.code, .int .i64 0, .slice (some ⟨go, 0, none⟩) s.out.length c]) := by show _ = _; rw [if_neg hc]
      have hcb : (s.code == 0) = false := by simpa using hc
      have P3 := hideP (put3 (show wc.heap[n]? = some (.cells #[.int .i64 0, .int .i64 0, .slice none 0 0] 28 (0, 0)) from zz.out) (.int .i64 s.code) (.int .i64 0) (.slice (some ⟨go, 0, none⟩) s.out.length c))
      have PB := hideP (put3_below BN.out (Nat.le_refl n) hBn (.int .i64 s.code) (.int .i64 0) (.slice (some ⟨go, 0, none⟩) s.out.length c))
      have O2 := hideP (ho2.out.butG ((((But.refl n wc).set 0 (.int .i64 s.code)).set 1 (.int .i64 0)).set 2 (.slice (some ⟨go, 0, none⟩) s.out.length c)) (fun e => by have e1 := own_blk e; have := (ho2.out.low go rfl).1; omega))
      go_wp2
      refine bodyPost_ret (results_cell_row rfl _ _ n 28 #[.int .i64 s.code, .int .i64 0, .slice (some ⟨go, 0, none⟩) s.out.length c] (0, 0) _ rfl P3.out Tryd.underlying28 rfl (by kernel_rfl)) rfl ?_
      exact ⟨go, c, by first | rfl | exact congrArg Ending.returned E1.out.symm, by first | exact O2.out.mono (Nat.le_succ n) | (rw [HNN.out]; exact O2.out.mono (Nat.le_succ n)), by first | exact PB.out | (rw [HNN.out]; exact PB.out)⟩
end Go.Proofs.YtpkfbabgcinhhaaDoor
