/- The contract of impl.CpuEnd (written by wip/mkcei.py). -/
import Derived.Test.YtpbmnajlkgjkfabCeP
import Derived.Conc.WalkWords
import Derived.Deep.CutRange
import Derived.Deep.RegionHeld3
import Derived.Laws.Rows
namespace Go.Proofs.Ytpbmnajlkgjkfab
open Go.ChangeShapes Go.WideShapes Go.ChangeAt Go.RowKit
theorem runs_any (c : Cp) (w : World) (B : Nat) (v : Array Value) (h : CpIs w B v c) :
    Calls Try.prog 19 #[.agg v] w fun en w' => en = .returned (.bool (runsB c)) ∧ Below w.heap.size w w' := by
  obtain ⟨pos, regs, slots, mem, input, out, code, over, val⟩ := c
  obtain ⟨_, _, _, _, _, _, _, _, _, _, rfl, _⟩ := h
  simp only [runsB]
  cases over
  · go_enter Try.func19, Try.ntmps19
    go_wp2
    all_goals go_ret
    all_goals exact ⟨ret_bool (by simp [*]), (Below.refl _ _).alloc (Nat.le_refl _) _⟩
  · go_enter Try.func19, Try.ntmps19
    go_wp2
    all_goals go_ret
    all_goals exact ⟨ret_bool (by simp [*]), (Below.refl _ _).alloc (Nat.le_refl _) _⟩
def SC (b : Nat) (code : Int) (vo : Value) (W : World) : Prop := W.cell? ⟨b, 6, none⟩ = some (.int .i64 code) ∧ W.cell? ⟨b, 5, none⟩ = some vo
theorem sc_keep {b : Nat} {code : Int} {vo : Value} {w w' : World} (h : SC b code vo w) (hb : b < w.heap.size) (k : Below w.heap.size w w') : SC b code vo w' := ⟨(k.cell (p := ⟨b, 6, none⟩) hb).trans h.1, (k.cell (p := ⟨b, 5, none⟩) hb).trans h.2⟩
theorem sc_but {b c : Nat} {code : Int} {vo : Value} {w w' : World} (h : SC b code vo w) (hb : b < w.heap.size) (k : But c w w') (hne : b ≠ c) : SC b code vo w' := ⟨(k.cell hb hne).trans h.1, (k.cell hb hne).trans h.2⟩
theorem boxC_set {w : World} {b : Nat} {c : Array Value} {T : TypeId} (h : w.heap[b]? = some (.cells c T (0, 0))) (i : Nat) (v : Value) : (w.setCell ⟨b, i, none⟩ v).heap[b]? = some (.cells (c.setIfInBounds i v) T (0, 0)) := heap_setCell_same w b i c T v h
theorem put3C {w : World} {b : Nat} {T : TypeId} {a0 a1 a2 : Value} (h : w.heap[b]? = some (.cells #[a0, a1, a2] T (0, 0))) (v0 v1 v2 : Value) : (((w.setCell ⟨b, 0, none⟩ v0).setCell ⟨b, 1, none⟩ v1).setCell ⟨b, 2, none⟩ v2).heap[b]? = some (.cells #[v0, v1, v2] T (0, 0)) := by
  have h1 := boxC_set h 0 v0
  have h2 := boxC_set h1 1 v1
  have h3 := boxC_set h2 2 v2
  exact h3.trans rfl
theorem le_nC {n : Nat} {w w' : World} (b : Below (n + 2) w w') (h : w.heap.size = n + 2) : n + 2 ≤ w'.heap.size := h ▸ b.size
theorem le_ofC {n : Nat} {w w' : World} (b : Below (n + 2) w w') (_h : w.heap.size = n + 2) : w.heap.size ≤ w'.heap.size := b.size
theorem keepE {W W' : World} {b : Nat} {o : Obj} (h : W.heap[b]? = some o) (bel : Below W.heap.size W W') : W'.heap[b]? = some o := (bel.block b (Array.getElem?_eq_some_iff.1 h).1).trans h
theorem newE (w : World) (o : Obj) : (w.alloc o).heap[w.heap.size]? = some o := by show (w.heap.push o)[w.heap.size]? = _; exact Array.getElem?_push_size
def zEn : Array Value := #[.int .i64 0, .int .i64 0, .slice none 0 0]
set_option maxHeartbeats 8000000 in
set_option maxRecDepth 100000 in
theorem impl_cpuEnd (c : Cp) (w : World) (B : Nat) (v : Array Value) (h : CpIs w B v c) (hl : c.out.length ≤ 8000000) :
    Calls Try.prog 7 #[.agg v] w fun en w' => ∃ v', en = .returned (.agg #[.int .i64 (endOf c).code, .int .i64 (endOf c).val, v']) ∧ LiZ w' w.heap.size w'.heap.size v' c.out ∧ Below w.heap.size w w' := by
  have H := hideP h
  obtain ⟨pos, regs, slots, mem, input, out, code, over, val⟩ := c
  obtain ⟨u1, c1, u2, c2, u3, c3, u4, c4, u5, c5, rfl, _, _, _, _, _, ho⟩ := h
  simp only at *
  have HO := hideP ho
  have hol := ho.1
  have hm := maxLen_lt
  clear ho
  have CL := hideP (fun W hW => cloneInts out W B u5 c5 (HO.out.stays hW) hl)
  have RU := hideP (fun W hW => runs_any _ W B _ (CpKeeps.stays H.out hW))
  obtain ⟨r, hr⟩ : ∃ r, runsB ⟨pos, regs, slots, mem, input, out, code, over, val⟩ = r := ⟨_, rfl⟩
  have RQ : Hid (r = (code == 0 && !over)) := hr.symm
  have E : Hid (endOf ⟨pos, regs, slots, mem, input, out, code, over, val⟩ = if r = true then ⟨2, 0, out⟩ else ⟨code, if code = 0 then val else 0, out⟩) := by show _ = _; unfold endOf; rw [hr]
  rw [hr] at RU
  clear hr H HO
  obtain ⟨V, hV⟩ : ∃ V, endOf ⟨pos, regs, slots, mem, input, out, code, over, val⟩ = V := ⟨_, rfl⟩
  rw [hV] at E ⊢
  clear hV
  obtain ⟨n, hn⟩ : ∃ n, w.heap.size = n := ⟨_, rfl⟩
  have HNN := hideP hn
  have a1 := (Below.refl w.heap.size w).alloc (Nat.le_refl _) (.cells #[.int .i64 pos, .slice u1 regs.length c1, .slice u2 slots.length c2, .slice u3 mem.length c3, .slice u4 input.length c4, .slice u5 out.length c5, .int .i64 code, .bool over, .int .i64 val] 30)
  have a2 := (Below.refl _ (w.alloc (.cells #[.int .i64 pos, .slice u1 regs.length c1, .slice u2 slots.length c2, .slice u3 mem.length c3, .slice u4 input.length c4, .slice u5 out.length c5, .int .i64 code, .bool over, .int .i64 val] 30))).alloc (Nat.le_refl _) (.cells zEn 28)
  have Z1 := keepE (newE w (.cells #[.int .i64 pos, .slice u1 regs.length c1, .slice u2 slots.length c2, .slice u3 mem.length c3, .slice u4 input.length c4, .slice u5 out.length c5, .int .i64 code, .bool over, .int .i64 val] 30)) a2
  have Z2 := newE (w.alloc (.cells #[.int .i64 pos, .slice u1 regs.length c1, .slice u2 slots.length c2, .slice u3 mem.length c3, .slice u4 input.length c4, .slice u5 out.length c5, .int .i64 code, .bool over, .int .i64 val] 30)) (.cells zEn 28)
  have BW := hideP (a1.trans (a2.mono a1.size))
  simp only [World.size_alloc, hn] at Z1 Z2
  obtain ⟨W, hW⟩ : ∃ W, (w.alloc (.cells #[.int .i64 pos, .slice u1 regs.length c1, .slice u2 slots.length c2, .slice u3 mem.length c3, .slice u4 input.length c4, .slice u5 out.length c5, .int .i64 code, .bool over, .int .i64 val] 30)).alloc (.cells zEn 28) = W := ⟨_, rfl⟩
  have hz : W.heap.size = n + 2 := by rw [← hW]; simp [hn]
  rw [hW] at Z1 Z2 BW
  unfold zEn at hW
  have HZ := hideP hz
  have I1 := hideP Z1
  have I2 := hideP Z2
  have x5 := (cells_of Z1).1 5
  have x6 := (cells_of Z1).1 6
  simp at x5 x6
  have lb : n < W.heap.size := by omega
  have SD : Hid (SC n code (.slice u5 out.length c5) W.drew) := ⟨x6, x5⟩
  clear a1 a2 Z1 Z2 x5 x6 hz
  rw [hn] at BW CL RU
  go_enter Try.func7, Try.ntmps7
  go_upto_region 1 with fail
  go_cut [3] from 4 to 9 (fun s3 wx => ∃ bx ua ca, s3 = .pointer (some ⟨bx, 0, none⟩) ∧ Hid (n + 2 ≤ bx) ∧ Hid (wx.heap[bx]? = some (.cells #[.int .i64 code, .int .i64 0, .slice ua out.length ca] 28 (0, 0))) ∧ Hid (LiZ wx (n + 2) wx.heap.size (.slice ua out.length ca) out) ∧ Hid (Below (n + 2) W wx))
  case first =>
    have B0 : Hid (Below (n + 2) W W.drew) := (Below.refl (n + 2) W).drew
    have S0 := SD
    refine wp_region_held_drew (S := SC n code (.slice u5 out.length c5)) (by kernel_rfl) SD.out (fun hHeld => ?_)
    generalize W.drew = X0 at B0 S0 hHeld ⊢
    refine wpAnyH_take (i := 0) (v := (.pointer (some ⟨n, 6, none⟩))) rfl (by kernel_rfl) (by kernel_rfl) (by kernel_rfl) (fun _ _ _ h => h) (Or.inl ⟨by rfl, ?_⟩) hHeld ?_
    · (intro w hSw; obtain ⟨q1, q2⟩ := hSw; go_simp)
    walk_nrm
    refine wpAnyH_take (i := 1) (v := (.int .i64 code)) rfl (by kernel_rfl) (by kernel_rfl) (by kernel_rfl) (fun _ _ _ h => h) (Or.inl ⟨by rfl, ?_⟩) hHeld ?_
    · (intro w hSw; obtain ⟨q1, q2⟩ := hSw; go_simp)
    walk_nrm
    refine wpAnyH_take (i := 2) (v := (.pointer (some ⟨n, 5, none⟩))) rfl (by kernel_rfl) (by kernel_rfl) (by kernel_rfl) (fun _ _ _ h => h) (Or.inl ⟨by rfl, ?_⟩) hHeld ?_
    · (intro w hSw; obtain ⟨q1, q2⟩ := hSw; go_simp)
    walk_nrm
    refine wpAnyH_take (i := 3) (v := (.slice u5 out.length c5)) rfl (by kernel_rfl) (by kernel_rfl) (by kernel_rfl) (fun _ _ _ h => h) (Or.inl ⟨by rfl, ?_⟩) hHeld ?_
    · (intro w hSw; obtain ⟨q1, q2⟩ := hSw; go_simp)
    walk_nrm
    refine wpAnyH_ready (rs := [4, 6]) (by kernel_rfl) (by simp) ?_
    refine AllReadyH.cons rfl (fun K hK => ?_) (AllReadyH.cons rfl (fun K hK => ?_) (AllReadyH.nil))
    · go_simp
      go_at_call 18
      refine (CL.out _ (BW.out.trans (B0.out.mono (Nat.le_trans (by omega) (Nat.le_refl (n + 2)))))).mono ?_
      rintro ea X1 ⟨va, rfl, lz, ba⟩
      obtain ⟨ua, ca, rfl, _⟩ := id lz
      have S1 := hideP (sc_keep S0.out (Nat.lt_of_lt_of_le lb (le_ofC B0.out HZ.out)) ba)
      have LZ := hideP (lz.mono (show n + 2 ≤ X0.heap.size by have := B0.out.size; have := HZ.out; omega) (Nat.le_refl _))
      have B1 := hideP (B0.out.trans (ba.mono (le_nC B0.out HZ.out)))
      clear ba lz
      go_wp2_with fail
      refine hK.out _ _ S1.out (fun hHeld => ?_)
      clear hK K
      refine wpAnyH_take (i := 5) (v := (.agg #[.int .i64 code, .int .i64 0, .slice ua out.length ca])) rfl (by kernel_rfl) (by kernel_rfl) (by kernel_rfl) (fun _ _ _ h => h) (Or.inl ⟨by rfl, ?_⟩) hHeld ?_
      · (intro w hSw; obtain ⟨q1, q2⟩ := hSw; go_simp)
      walk_nrm
      refine wpAnyH_ready (rs := [6]) (by kernel_rfl) (by simp) ?_
      refine AllReadyH.cons rfl (fun K hK => ?_) (AllReadyH.nil)
      have al := (Below.refl X1.heap.size X1).alloc (Nat.le_refl _) (.cells #[.int .i64 0, .int .i64 0, .slice none 0 0] 28)
      have EB := hideP (show (X1.alloc (.cells #[.int .i64 0, .int .i64 0, .slice none 0 0] 28)).heap[X1.heap.size]? = some (.cells #[.int .i64 0, .int .i64 0, .slice none 0 0] 28 (0, 0)) by show (X1.heap.push _)[X1.heap.size]? = _; exact Array.getElem?_push_size)
      go_simp
      obtain ⟨X2, hX⟩ : ∃ Y, X1.alloc (.cells #[.int .i64 0, .int .i64 0, .slice none 0 0] 28) = Y := ⟨_, rfl⟩
      rw [hX] at al EB ⊢
      clear hX
      have S2 := hideP (sc_keep S1.out (Nat.lt_of_lt_of_le lb (le_ofC B1.out HZ.out)) al)
      have NB : Hid (n + 2 ≤ X1.heap.size) := by have := B1.out.size; have := HZ.out; show _ ≤ _; omega
      have LZ2 := hideP ((LZ.out.stays al).mono (Nat.le_refl _) al.size)
      have LZ := LZ2
      obtain ⟨bx, hbx⟩ : ∃ q, X1.heap.size = q := ⟨_, rfl⟩
      rw [hbx] at EB NB ⊢
      have B2 := hideP (B1.out.trans (al.mono (le_nC B1.out HZ.out)))
      clear al hbx
      refine hK.out _ _ S2.out (fun hHeld => ?_)
      clear hK K
      have P3 := hideP (put3C EB.out (.int .i64 code) (.int .i64 0) (.slice ua out.length ca))
      have kb := (((But.refl bx X2).set 0 (.int .i64 code)).set 1 (.int .i64 0)).set 2 (.slice ua out.length ca)
      have PB := hideP (B2.out.trans (kb.below NB.out (le_nC B2.out HZ.out)))
      have LF := hideP ((LZ.out.but EB.out (by decide) kb).mono (Nat.le_refl _) kb.size)
      have SZ := hideP (sc_but S2.out (Nat.lt_of_lt_of_le lb (le_ofC B2.out HZ.out)) kb (fun e => by have := NB.out; omega))
      have e0 := (cells_of EB.out).1 0
      have e1 := (cells_of EB.out).1 1
      have e2 := (cells_of EB.out).1 2
      have ef := (cells_of EB.out).2
      simp at e0 e1 e2
      clear kb
      refine wpAnyH_ready (rs := [7]) (by kernel_rfl) (by simp) ?_
      refine AllReadyH.cons rfl (fun K hK => ?_) (AllReadyH.nil)
      go_simp
      refine hK.out _ _ SZ.out (fun hHeld => ?_)
      clear hK K
      refine wpAnyH_done (by kernel_rfl) ?_ _
      go_wp2_with fail
      go_meet
      exact ⟨bx, ua, ca, rfl, NB, P3, LF, PB⟩
    · have al := (Below.refl X0.heap.size X0).alloc (Nat.le_refl _) (.cells #[.int .i64 0, .int .i64 0, .slice none 0 0] 28)
      have EB := hideP (show (X0.alloc (.cells #[.int .i64 0, .int .i64 0, .slice none 0 0] 28)).heap[X0.heap.size]? = some (.cells #[.int .i64 0, .int .i64 0, .slice none 0 0] 28 (0, 0)) by show (X0.heap.push _)[X0.heap.size]? = _; exact Array.getElem?_push_size)
      go_simp
      obtain ⟨X1, hX⟩ : ∃ Y, X0.alloc (.cells #[.int .i64 0, .int .i64 0, .slice none 0 0] 28) = Y := ⟨_, rfl⟩
      rw [hX] at al EB ⊢
      clear hX
      have S1 := hideP (sc_keep S0.out (Nat.lt_of_lt_of_le lb (le_ofC B0.out HZ.out)) al)
      have NB : Hid (n + 2 ≤ X0.heap.size) := by have := B0.out.size; have := HZ.out; show _ ≤ _; omega
      obtain ⟨bx, hbx⟩ : ∃ q, X0.heap.size = q := ⟨_, rfl⟩
      rw [hbx] at EB NB ⊢
      have B1 := hideP (B0.out.trans (al.mono (le_nC B0.out HZ.out)))
      clear al hbx
      refine hK.out _ _ S1.out (fun hHeld => ?_)
      clear hK K
      refine wpAnyH_ready (rs := [4]) (by kernel_rfl) (by simp) ?_
      refine AllReadyH.cons rfl (fun K hK => ?_) (AllReadyH.nil)
      go_simp
      go_at_call 18
      refine (CL.out _ (BW.out.trans (B1.out.mono (Nat.le_trans (by omega) (Nat.le_refl (n + 2)))))).mono ?_
      rintro ea X2 ⟨va, rfl, lz, ba⟩
      obtain ⟨ua, ca, rfl, _⟩ := id lz
      have S2 := hideP (sc_keep S1.out (Nat.lt_of_lt_of_le lb (le_ofC B1.out HZ.out)) ba)
      have EX := hideP ((ba.block _ (Array.getElem?_eq_some_iff.1 EB.out).1).trans EB.out)
      have EB := EX
      have LZ := hideP (lz.mono (show n + 2 ≤ X1.heap.size by have := B1.out.size; have := HZ.out; omega) (Nat.le_refl _))
      have B2 := hideP (B1.out.trans (ba.mono (le_nC B1.out HZ.out)))
      clear ba lz
      go_wp2_with fail
      refine hK.out _ _ S2.out (fun hHeld => ?_)
      clear hK K
      refine wpAnyH_take (i := 5) (v := (.agg #[.int .i64 code, .int .i64 0, .slice ua out.length ca])) rfl (by kernel_rfl) (by kernel_rfl) (by kernel_rfl) (fun _ _ _ h => h) (Or.inl ⟨by rfl, ?_⟩) hHeld ?_
      · (intro w hSw; obtain ⟨q1, q2⟩ := hSw; go_simp)
      walk_nrm
      have P3 := hideP (put3C EB.out (.int .i64 code) (.int .i64 0) (.slice ua out.length ca))
      have kb := (((But.refl bx X2).set 0 (.int .i64 code)).set 1 (.int .i64 0)).set 2 (.slice ua out.length ca)
      have PB := hideP (B2.out.trans (kb.below NB.out (le_nC B2.out HZ.out)))
      have LF := hideP ((LZ.out.but EB.out (by decide) kb).mono (Nat.le_refl _) kb.size)
      have SZ := hideP (sc_but S2.out (Nat.lt_of_lt_of_le lb (le_ofC B2.out HZ.out)) kb (fun e => by have := NB.out; omega))
      have e0 := (cells_of EB.out).1 0
      have e1 := (cells_of EB.out).1 1
      have e2 := (cells_of EB.out).1 2
      have ef := (cells_of EB.out).2
      simp at e0 e1 e2
      clear kb
      refine wpAnyH_ready (rs := [7]) (by kernel_rfl) (by simp) ?_
      refine AllReadyH.cons rfl (fun K hK => ?_) (AllReadyH.nil)
      go_simp
      refine hK.out _ _ SZ.out (fun hHeld => ?_)
      clear hK K
      refine wpAnyH_done (by kernel_rfl) ?_ _
      go_wp2_with fail
      go_meet
      exact ⟨bx, ua, ca, rfl, NB, P3, LF, PB⟩
  case rest =>
    obtain ⟨bx, ua, ca, rfl, hbx, hx, hlz, hb⟩ := hcut
    have hsz : n + 2 ≤ wc.heap.size := le_nC hb.out HZ.out
    have bk := fun (k : Nat) (hk : k < n + 2) => hb.out.block k hk
    have J1 := hideP ((bk n (by omega)).trans I1.out)
    have J2 := hideP ((bk (n + 1) (by omega)).trans I2.out)
    have BN := hideP ((BW.out.trans (hb.out.mono (by omega)) : Below n w wc))
    have k1 := (cells_of J1.out).1
    have p0 := k1 0; have p1 := k1 1; have p2 := k1 2; have p3 := k1 3; have p4 := k1 4; have p5 := k1 5; have p6 := k1 6; have p7 := k1 7; have p8 := k1 8
    simp at p0 p1 p2 p3 p4 p5 p6 p7 p8
    clear k1 bk SD I1 I2 CL lb hW HZ BW
    go_wp2_with fail
    refine (RU.out _ BN.out).mono ?_
    rintro e2 w2 ⟨rfl, bel2⟩
    have K1 := hideP (keepE J1.out bel2)
    have K2 := hideP (keepE J2.out bel2)
    have KX := hideP (keepE hx.out bel2)
    have LZ := hideP ((hlz.out.stays bel2).mono (Nat.le_refl _) bel2.size)
    have BN2 := hideP (BN.out.trans (bel2.mono (by omega)))
    have hsz2 : n + 2 ≤ w2.heap.size := Nat.le_trans hsz bel2.size
    clear bel2 J1 J2 hx hlz hb BN hsz p0 p1 p2 p3 p4 p5 p6 p7 p8
    have b0 := (cells_of KX.out).1 0
    have b1 := (cells_of KX.out).1 1
    have b2 := (cells_of KX.out).1 2
    have bf := (cells_of KX.out).2
    have z0 := (cells_of K2.out).1 0
    have z1 := (cells_of K2.out).1 1
    have z2 := (cells_of K2.out).1 2
    have zf := (cells_of K2.out).2
    have p6 := (cells_of K1.out).1 6
    have p8 := (cells_of K1.out).1 8
    simp [zEn] at b0 b1 b2 z0 z1 z2 p6 p8
    have h1b : ¬ n + 1 = bx := by have := hbx.out; omega
    have hb1 : ¬ bx = n + 1 := by have := hbx.out; omega
    have hnb : ¬ n = bx := by have := hbx.out; omega
    have hbn : ¬ bx = n := by have := hbx.out; omega
    have fin : Hid (∀ (W3 : World) (cd vl : Int), But bx w2 W3 → V = ⟨cd, vl, out⟩ → (((W3.setCell ⟨n + 1, 0, none⟩ (.int .i64 cd)).setCell ⟨n + 1, 1, none⟩ (.int .i64 vl)).setCell ⟨n + 1, 2, none⟩ (.slice ua out.length ca)).heap[n + 1]? = some (.cells #[.int .i64 cd, .int .i64 vl, .slice ua out.length ca] 28 (0, 0)) ∧ ∃ v', Value.agg #[.int .i64 cd, .int .i64 vl, .slice ua out.length ca] = Value.agg #[.int .i64 V.code, .int .i64 V.val, v'] ∧ LiZ (((W3.setCell ⟨n + 1, 0, none⟩ (.int .i64 cd)).setCell ⟨n + 1, 1, none⟩ (.int .i64 vl)).setCell ⟨n + 1, 2, none⟩ (.slice ua out.length ca)) n (((W3.setCell ⟨n + 1, 0, none⟩ (.int .i64 cd)).setCell ⟨n + 1, 1, none⟩ (.int .i64 vl)).setCell ⟨n + 1, 2, none⟩ (.slice ua out.length ca)).heap.size v' out ∧ Below n w (((W3.setCell ⟨n + 1, 0, none⟩ (.int .i64 cd)).setCell ⟨n + 1, 1, none⟩ (.int .i64 vl)).setCell ⟨n + 1, 2, none⟩ (.slice ua out.length ca))) := fun W3 cd vl kb hv => by
      have z3 := (kb.block (n + 1) (by omega) h1b).trans K2.out
      have k3 := (((But.refl (n + 1) W3).set 0 (.int .i64 cd)).set 1 (.int .i64 vl)).set 2 (.slice ua out.length ca)
      refine ⟨put3C z3 _ _ _, _, by rw [hv], ((((LZ.out.but KX.out (by decide) kb).mono (show n ≤ n + 2 by omega) kb.size).but z3 (by decide) k3).mono (Nat.le_refl _) k3.size), (BN2.out.trans (kb.below (by have := hbx.out; omega) (by omega))).trans (k3.below (by omega) (by have := kb.size; omega))⟩
    clear K1
    cases r
    · have hV : Hid (V = ⟨code, if code = 0 then val else 0, out⟩) := by show _ = _; rw [E.out]; rfl
      by_cases hc : code = 0
      · subst hc
        have hV2 : Hid (V = ⟨0, val, out⟩) := by show _ = _; rw [hV.out]; rfl
        have F := hideP (fin.out _ 0 val ((But.refl bx w2).set 1 (.int .i64 val)) hV2.out)
        clear fin E RQ hV hV2
        go_wp2
        obtain ⟨f1, v', f2, f3, f4⟩ := F.out
        refine bodyPost_ret (results_cell_row rfl _ _ (n + 1) 28 _ (0, 0) _ rfl f1 Try.underlying28 rfl (by kernel_rfl)) rfl ?_
        exact ⟨v', congrArg Ending.returned f2, by first | exact f3 | (rw [HNN.out]; exact f3), by first | exact f4 | (rw [HNN.out]; exact f4)⟩
      · have hcb : (code == 0) = false := by simpa using hc
        have hV2 : Hid (V = ⟨code, 0, out⟩) := by show _ = _; rw [hV.out, if_neg hc]
        have F := hideP (fin.out _ code 0 (But.refl bx w2) hV2.out)
        clear fin E RQ hV hV2
        go_wp2
        obtain ⟨f1, v', f2, f3, f4⟩ := F.out
        refine bodyPost_ret (results_cell_row rfl _ _ (n + 1) 28 _ (0, 0) _ rfl f1 Try.underlying28 rfl (by kernel_rfl)) rfl ?_
        exact ⟨v', congrArg Ending.returned f2, by first | exact f3 | (rw [HNN.out]; exact f3), by first | exact f4 | (rw [HNN.out]; exact f4)⟩
    · have hV2 : Hid (V = ⟨2, 0, out⟩) := by show _ = _; rw [E.out]; rfl
      have F := hideP (fin.out _ 2 0 ((But.refl bx w2).set 0 (.int .i64 2)) hV2.out)
      clear fin E RQ hV2
      go_wp2
      obtain ⟨f1, v', f2, f3, f4⟩ := F.out
      refine bodyPost_ret (results_cell_row rfl _ _ (n + 1) 28 _ (0, 0) _ rfl f1 Try.underlying28 rfl (by kernel_rfl)) rfl ?_
      exact ⟨v', congrArg Ending.returned f2, by first | exact f3 | (rw [HNN.out]; exact f3), by first | exact f4 | (rw [HNN.out]; exact f4)⟩
end Go.Proofs.Ytpbmnajlkgjkfab
