/- How the machine ends: endBy, and its loop. -/
import Derived.Test.YtpkfbabgcinhhaaDoorPmN
import Derived.Test.YtpkfbabgcinhhaaDoorAsF
import Derived.Test.YtpkfbabgcinhhaaDoorCkI
import Derived.Laws.Rows
import Derived.Deep.LoopGhost
import Derived.Laws.Tables
import Derived.Laws.CopyRow
import Derived.Deep.WholeRow
import Derived.Laws.ByValue
namespace Go.Proofs.YtpkfbabgcinhhaaDoor
open Go.ChangeShapes Go.WideShapes Go.ChangeAt Go.RowKit
section
variable {w0 : World} {L : PLay} {ui : Option Addr} {ci : Nat} {vo : Value} {w w' : World} {s : Mch} {g : List Int} {k : Int} {code : List Wrd}
theorem box_setP {w : World} {b : Nat} {c : Array Value} {T : TypeId} (h : w.heap[b]? = some (.cells c T (0, 0))) (i : Nat) (v : Value) : (w.setCell ⟨b, i, none⟩ v).heap[b]? = some (.cells (c.setIfInBounds i v) T (0, 0)) := heap_setCell_same w b i c T v h
theorem put3P {w : World} {b : Nat} {T : TypeId} {a0 a1 a2 : Value} (h : w.heap[b]? = some (.cells #[a0, a1, a2] T (0, 0))) (v0 v1 v2 : Value) : (((w.setCell ⟨b, 0, none⟩ v0).setCell ⟨b, 1, none⟩ v1).setCell ⟨b, 2, none⟩ v2).heap[b]? = some (.cells #[v0, v1, v2] T (0, 0)) := by
  have h1 := box_setP h 0 v0
  have h2 := box_setP h1 1 v1
  have h3 := box_setP h2 2 v2
  exact h3.trans rfl
/-- Two new blocks, and what holds then. -/
theorem twoNew (w : World) (o1 o2 : Obj) : ∃ W, (w.alloc o1).alloc o2 = W ∧ Below w.heap.size w W ∧ W.heap[w.heap.size]? = some o1 ∧ W.heap[w.heap.size + 1]? = some o2 ∧ W.heap.size = w.heap.size + 2 := by
  have al1 := (Below.refl w.heap.size w).alloc (Nat.le_refl _) o1
  have al2 := (Below.refl _ (w.alloc o1)).alloc (Nat.le_refl _) o2
  refine ⟨_, rfl, al1.trans (al2.mono al1.size), (al2.block _ (by simp)).trans (by show (w.heap.push _)[w.heap.size]? = _; exact Array.getElem?_push_size), ?_, by simp⟩
  rw [← World.size_alloc w o1]
  show ((w.alloc _).heap.push _)[(w.alloc _).heap.size]? = _
  exact Array.getElem?_push_size
set_option maxHeartbeats 8000000 in
set_option maxRecDepth 100000 in
theorem endBy_any (h : PAt w0 L code ui ci vo w s g k) (c x : Int) (het : w0.cell? ⟨2, 0, none⟩ = some (.iface 100 (.agg #[hT 50]))) :
    Calls Tryd.prog 45 #[.pointer (some ⟨L.b, 0, none⟩), .iface 111 (.agg #[.int .i64 c, .int .i64 x])] w fun en w' => en = .returned (.agg #[.int .i64 c, .int .i64 x, vo]) ∧ PAt w0 L code ui ci vo w' s g k := by
  have hel : 2 < w0.heap.size := World.block_lt_of_cell? _ _ het
  have hb0 := h.lt
  have hlow := h.low
  obtain ⟨uv, nv, cv, rfl⟩ := h.out.shape
  obtain ⟨W, hW, bW, B1, B2, hsz⟩ := twoNew w (.cells #[.int .i64 0, .int .i64 0, .slice none 0 0] 28) (.cells #[.int .i64 0, .int .i64 0] 111)
  have H2 := hideP (h.stays bW)
  have AS := hideP (isAsE c x (w.heap.size + 1) _ _ W B2 ((H2.out.bel.cell (p := ⟨2, 0, none⟩) hel).trans het))
  have BB := hideP B1
  have HW := hideP hW
  have HS := hideP hsz
  have H0 := hideP h
  have BW := hideP bW
  clear h bW B1 B2 hW hsz H2 het hel
  go_enter Tryd.func45, Tryd.ntmps45
  go_upto_region 2 with fail
  rw [HW.out]
  go_wp2_with fail
  refine AS.out.mono ?_
  rintro e1 w1 ⟨rfl, kb, hx⟩
  have BK := hideP (BW.out.trans (kb.below (B := w.heap.size) (by omega) (by have := HS.out; omega)))
  have HP := hideP (H0.out.stays BK.out)
  have K1 := hideP ((kb.block w.heap.size (by have := HS.out; omega) (by omega)).trans BB.out)
  have e0 := (cells_of hx).1 0
  have e1 := (cells_of hx).1 1
  have z0 := (cells_of K1.out).1 0
  have z1 := (cells_of K1.out).1 1
  have z2 := (cells_of K1.out).1 2
  have zf := (cells_of K1.out).2
  simp at e0 e1 z0 z1 z2
  have d4 := HP.out.cells.2.2.2.2.1
  have hnn : ¬ w.heap.size = L.b := by omega
  have hnn2 : ¬ L.b = w.heap.size := by omega
  obtain ⟨n, hn⟩ : ∃ n, w.heap.size = n := ⟨_, rfl⟩
  have hlw : n < w1.heap.size := by have := (Array.getElem?_eq_some_iff.1 K1.out).1; omega
  have kx := (((But.refl n w1).set 0 (.int .i64 c)).set 1 (.int .i64 x)).set 2 (.slice uv nv cv)
  have BZ : Hid (Below n w (((w1.setCell ⟨n, 0, none⟩ (.int .i64 c)).setCell ⟨n, 1, none⟩ (.int .i64 x)).setCell ⟨n, 2, none⟩ (.slice uv nv cv))) := (hn ▸ BK.out : Below n w w1).trans (kx.below (Nat.le_refl _) (Nat.le_of_lt hlw))
  have HZ : Hid (PAt w0 L code ui ci (.slice uv nv cv) (((w1.setCell ⟨n, 0, none⟩ (.int .i64 c)).setCell ⟨n, 1, none⟩ (.int .i64 x)).setCell ⟨n, 2, none⟩ (.slice uv nv cv)) s g k) := H0.out.stays (by rw [hn]; exact BZ.out)
  have P3 := hideP (put3P (hn ▸ K1.out) (.int .i64 c) (.int .i64 x) (.slice uv nv cv))
  rw [hn] at z0 z1 z2 hnn hnn2 e0 e1 ⊢
  have zf2 : ∀ o, w1.frozen? ⟨n, o, none⟩ = false := hn ▸ zf
  clear kb hx BB BK HP AS HW HS BW H0 kx BZ K1 hb0 hlow
  clear hn zf
  go_wp2
  go_region
  all_goals go_wp2
  all_goals first
    | (refine bodyPost_ret (results_cell_row rfl _ _ n 28 _ (0, 0) _ rfl (show (World.drew _).heap[n]? = _ from P3.out) Tryd.underlying28 rfl (by kernel_rfl)) rfl ?_; exact ⟨rfl, HZ.out.stays (Below.refl _ _).drew⟩)
    | (refine bodyPost_ret (results_cell_row rfl _ _ n 28 _ (0, 0) _ rfl P3.out Tryd.underlying28 rfl (by kernel_rfl)) rfl ?_; exact ⟨rfl, HZ.out⟩)
end
end Go.Proofs.YtpkfbabgcinhhaaDoor

/- The machine's run to its end. -/
namespace Go.Proofs.YtpkfbabgcinhhaaDoor
open Go.ChangeShapes Go.WideShapes Go.ChangeAt Go.RowKit
/-- What runs still keeps its val; what traps keeps it, too. -/
theorem wordM_val (x : Wrd) (k : Int) (m : Mch) (g : List Int) (h : (wordM x k m g).1.over = false ∨ (wordM x k m g).1.code ≠ 0) (hc : m.code = 0) : (wordM x k m g).1.val = m.val := by
  unfold wordM at *
  by_cases e0 : x.op = 0
  · rw [if_pos e0]
  rw [if_neg e0] at h ⊢
  by_cases e1 : x.op = 1
  · rw [if_pos e1]
  rw [if_neg e1] at h ⊢
  by_cases e2 : x.op = 2
  · rw [if_pos e2]
  rw [if_neg e2] at h ⊢
  by_cases e3 : x.op = 3
  · rw [if_pos e3]
  rw [if_neg e3] at h ⊢
  by_cases e4 : x.op = 4
  · rw [if_pos e4]; split <;> rfl
  rw [if_neg e4] at h ⊢
  by_cases e5 : x.op = 5
  · rw [if_pos e5]; split <;> rfl
  rw [if_neg e5] at h ⊢
  by_cases e6 : x.op = 6
  · rw [if_pos e6]
  rw [if_neg e6] at h ⊢
  by_cases e7 : x.op = 7
  · rw [if_pos e7]
  rw [if_neg e7] at h ⊢
  by_cases e8 : x.op = 8
  · rw [if_pos e8]
  rw [if_neg e8] at h ⊢
  by_cases e9 : x.op = 9
  · rw [if_pos e9]
  rw [if_neg e9] at h ⊢
  by_cases e11 : x.op = 11
  · rw [if_pos e11]
  rw [if_neg e11] at h
  exfalso
  simp only at h
  rcases h with h | h
  · cases h
  · exact h hc
theorem runM_ended (code : List Wrd) (f : Nat) (t : McT) (h : ¬ (t.1.code = 0 ∧ t.1.over = false)) : runM code f t = t.1 := by
  have e : burnM t.1 = (false, t.1) := by
    unfold burnM
    rw [if_pos]
    by_cases h1 : t.1.code = 0
    · right; cases ho : t.1.over with
      | true => rfl
      | false => exact absurd ⟨h1, ho⟩ h
    · exact Or.inl h1
  cases f with
  | zero => unfold runM; rw [e]
  | succ f => unfold runM; rw [e]; simp
/-- What the machine's run is like between two words, or behind the last. -/
def EndRel (w0 : World) (L : PLay) (m : Img) (R : Mch) (gk : Nat) (last : Value) (wr : World) : Prop :=
  (last = .nilIface ∧ ∃ s g k ui ci vo, PAt w0 L m.code ui ci vo wr s g k ∧ McOk m (s, g, k) ∧ s.code = 0 ∧ s.over = false ∧ s.val = 0 ∧ gk = s.fuel.toNat + 1 ∧ runM m.code s.fuel.toNat (s, g, k) = R) ∨
  (last = .iface 111 (.agg #[.int .i64 R.code, .int .i64 (if R.code = 0 then R.val else 0)]) ∧ gk = 0 ∧ ∃ s g k ui ci vo, PAt w0 L m.code ui ci vo wr s g k ∧ s.out = R.out ∧ s.fuel = R.fuel)
section
variable {w0 : World} {L : PLay} {ui : Option Addr} {ci : Nat} {vo : Value} {w w' : World} {s : Mch} {g : List Int} {k : Int}
set_option maxHeartbeats 4000000 in
/-- One word more. -/
theorem next_any {m : Img} (hm : imgOk m = true) {R : Mch} (h : PAt w0 L m.code ui ci vo w s g k) (ok : McOk m (s, g, k)) (hc : s.code = 0) (ho : s.over = false) (hv : s.val = 0) (hr : runM m.code s.fuel.toNat (s, g, k) = R) :
    Calls Tryd.prog 44 #[.pointer (some ⟨L.b, 0, none⟩)] w fun en w' => ∃ v, en = .returned v ∧ ∃ g2, g2 ≤ s.fuel.toNat ∧ EndRel w0 L m R g2 v w' := by
  have hf := ok.fuel
  simp only at hf
  by_cases h0 : s.fuel = 0
  · have TF := hideP (takeFuel_no h h0)
    have H := hideP h
    have e : Hid (R = { s with code := 2 }) := by
      have z : s.fuel.toNat = 0 := by rw [h0]; rfl
      show R = _
      rw [← hr, z]
      show (burnM s).2 = _
      unfold burnM
      rw [if_neg (by simp [hc, ho]), if_pos h0]
    clear h hr
    go_enter Tryd.func44, Tryd.ntmps44
    go_wp2_with fail
    refine TF.out.mono ?_
    rintro e1 w1 ⟨rfl, rfl⟩
    go_wp2
    go_ret
    exact ⟨_, rfl, 0, Nat.zero_le _, Or.inr ⟨by rw [e.out]; simp, rfl, s, g, k, _, _, _, H.out, by rw [e.out], by rw [e.out]⟩⟩
  · have hat := ok.at' hc ho
    simp only at hat
    obtain ⟨q, rfl⟩ : ∃ q : Nat, k = (q : Int) := ⟨k.toNat, by omega⟩
    have hq : q < m.code.length := by omega
    have hb : (burnM s).1 = true := by
      unfold burnM
      rw [if_neg (by simp [hc, ho]), if_neg h0]
    obtain ⟨_, _, _, hb4⟩ := burn_true hb
    obtain ⟨ok2, hfu⟩ := ok.word hm hb
    have eg : m.code.getD (q : Int).toNat default = m.code[q] := by rw [Int.toNat_natCast, List.getD_eq_getElem?_getD, List.getElem?_eq_getElem hq]; rfl
    rw [eg, hb4] at ok2 hfu
    have hx := imgOk_wrd hm (List.getElem_mem hq)
    have hml := ok.mlen
    have hvl := ok.vlen
    have houl := ok.outl
    simp only at hml hvl houl
    have hcl : m.code.length ≤ 6000 := (imgOk_few hm).1
    have hsz : m.sizes.length ≤ 4 := by
      unfold imgOk regOk at hm
      simp only [Bool.and_eq_true, decide_eq_true_eq] at hm
      omega
    have hr2 : R = runM m.code (s.fuel - 1).toNat (wordM m.code[q] (q : Int) { s with fuel := s.fuel - 1 } g) := by
      rw [← hr]
      obtain ⟨f, hfe⟩ : ∃ f, s.fuel.toNat = f + 1 := ⟨s.fuel.toNat - 1, by omega⟩
      rw [hfe]
      have : (s.fuel - 1).toNat = f := by omega
      rw [this]
      show (if (burnM s).1 = true then runM m.code f (wordM (m.code.getD (q : Int).toNat default) (q : Int) (burnM s).2 g) else (burnM s).2) = _
      rw [if_pos hb, eg, hb4]
    refine (next_some h (by omega) (by omega) hc ho hv (by omega) (by omega) q rfl hq (by omega) (by rw [hml, hvl]; exact hx)).mono ?_
    rintro en w' ⟨k2, hd, hk⟩
    obtain ⟨t, ht⟩ : ∃ t, wordM m.code[q] (q : Int) { s with fuel := s.fuel - 1 } g = t := ⟨_, rfl⟩
    have wv := wordM_val m.code[q] (q : Int) { s with fuel := s.fuel - 1 } g
    rw [ht] at hd ok2 hfu hr2 wv
    simp only at wv
    rcases hd with ⟨t1, t2, rfl, ui2, ci2, vo2, hp⟩ | ⟨t1, rfl, ui2, ci2, vo2, hp⟩
    · refine ⟨_, rfl, t.1.fuel.toNat + 1, by rw [hfu]; omega, Or.inl ⟨rfl, t.1, t.2.1, t.2.2, ui2, ci2, vo2, hp, ok2, t1, t2, ?_, rfl, ?_⟩⟩
      · rw [wv (Or.inl t2) hc]; exact hv
      · rw [hfu]; exact hr2.symm
    · have er : R = t.1 := by rw [hr2]; exact runM_ended _ _ _ t1
      refine ⟨_, rfl, 0, Nat.zero_le _, Or.inr ⟨?_, rfl, t.1, t.2.1, k2, ui2, ci2, vo2, hp, by rw [er], by rw [er]⟩⟩
      rw [er]
      by_cases hz : t.1.code = 0
      · rw [if_pos hz]
      · rw [if_neg hz, wv (Or.inr hz) hc, hv]
/-- A block more that the machine leaves alone. -/
def PLay.also (L : PLay) (n : Nat) (o : Obj) : PLay := { L with hs := fun q => q = n ∨ L.hs q, ho := fun q => if q = n then o else L.ho q }
variable {code : List Wrd}
theorem PAt.new (h : PAt w0 L code ui ci vo w s g k) (o : Obj) : PAt w0 (L.also w.heap.size o) code ui ci vo (w.alloc o) s g k ∧ ¬ L.hs w.heap.size := by
  have nh : ¬ L.hs w.heap.size := fun e => Nat.lt_irrefl _ (lt_some (h.hold _ e).1)
  have h2 := h.stays ((Below.refl w.heap.size w).alloc (Nat.le_refl _) o)
  refine ⟨{ box := h2.box, g16 := h2.g16, vars := h2.vars, rows := h2.rows, map := h2.map, bel := h2.bel, code := h2.code, inp := h2.inp, icap := h2.icap, alu := h2.alu, out := h2.out, lowB := h2.lowB, lowV := h2.lowV, lowP := h2.lowP, lowI := h2.lowI, ri := h2.ri, ij := h2.ij, oo := h2.oo, hold := ?_ }, nh⟩
  rintro q (rfl | hq)
  · refine ⟨?_, ?_, ?_, ?_, ?_⟩
    · show (w.heap.push _)[w.heap.size]? = some (if w.heap.size = w.heap.size then o else _)
      rw [if_pos rfl]; exact Array.getElem?_push_size
    · exact fun e => Nat.lt_irrefl w.heap.size (by have := h.lt; have e2 : w.heap.size = L.b := e; omega)
    · exact fun e => Nat.lt_irrefl w.heap.size (by have := h.vars.lt; have e2 : w.heap.size = L.v := e; omega)
    · intro e
      obtain ⟨cur, h3⟩ := h.out.block e
      exact Nat.lt_irrefl _ (lt_some h3)
    · intro i hi e
      have := (h.rows i hi).lt
      have e2 : w.heap.size = L.mb i := e
      omega
  · have hne : q ≠ w.heap.size := fun e => nh (e ▸ hq)
    have := h2.hold q hq
    refine ⟨?_, this.2⟩
    show _ = some (if q = w.heap.size then o else L.ho q)
    rw [if_neg hne]; exact this.1
theorem PAt.less {n : Nat} {o : Obj} (h : PAt w0 (L.also n o) code ui ci vo w s g k) (hn : ¬ L.hs n) : PAt w0 L code ui ci vo w s g k :=
  { box := h.box, g16 := h.g16, vars := h.vars, rows := h.rows, map := h.map, bel := h.bel, code := h.code, inp := h.inp, icap := h.icap, alu := h.alu, out := h.out, lowB := h.lowB, lowV := h.lowV, lowP := h.lowP, lowI := h.lowI, ri := h.ri, ij := h.ij, oo := h.oo,
    hold := fun q hq => by
      have := h.hold q (Or.inr hq)
      refine ⟨this.1.trans ?_, this.2⟩
      show some (if q = n then o else L.ho q) = _
      rw [if_neg (fun e : q = n => hn (e ▸ hq))] }
theorem PAt.also_is {n : Nat} {o : Obj} (h : PAt w0 (L.also n o) code ui ci vo w s g k) : w.heap[n]? = some o := by
  have := (h.hold n (Or.inl rfl)).1
  rw [this]
  show some (if n = n then o else L.ho n) = _
  rw [if_pos rfl]
/-- A block that the machine leaves alone is written by its owner. -/
theorem PAt.put {n : Nat} {cs : Array Value} {T : TypeId} {fz : Nat × Nat} (h : PAt w0 (L.also n (.cells cs T fz)) code ui ci vo w s g k) (hn : ¬ L.hs n) (low : w0.heap.size ≤ n) (kb : But n w w') : PAt w0 L code ui ci vo w' s g k := by
  have hx := h.also_is
  obtain ⟨_, a2, a3, a4, a5⟩ := h.hold n (Or.inl rfl)
  have h1 := h.less hn
  obtain ⟨q, hq⟩ := h1.map
  have nm : L.mp ≠ n := fun e => by obtain ⟨es, cl, h1⟩ := hq.isMap; rw [e, hx] at h1; cases h1
  exact
    { box := h1.box.keep (kb.block _ h1.box.lt (Ne.symm a2)), g16 := h1.g16
      vars := h1.vars.keep (kb.block _ h1.vars.lt (Ne.symm a3))
      rows := fun i hi => (h1.rows i hi).keep (kb.block _ (h1.rows i hi).lt (Ne.symm (a5 i hi)))
      map := ⟨q, hq.blk (kb.block _ hq.lt nm)⟩
      bel := h1.bel.trans (kb.below low h1.low), code := h1.code, inp := h1.inp, icap := h1.icap, alu := h1.alu
      out := h1.out.butB kb a4
      lowB := h1.lowB, lowV := h1.lowV, lowP := h1.lowP, lowI := h1.lowI, ri := h1.ri, ij := h1.ij, oo := h1.oo
      hold := fun q hq => let ⟨a, r⟩ := h1.hold q hq; ⟨(kb.block _ (lt_some a) (fun e => hn (e ▸ hq))).trans a, r⟩ }
set_option maxHeartbeats 8000000 in
set_option maxRecDepth 100000 in
theorem end_all {m : Img} (hm : imgOk m = true) {R : Mch} (h : PAt w0 L m.code ui ci vo w s g k) (ok : McOk m (s, g, k)) (hc : s.code = 0) (ho : s.over = false) (hv : s.val = 0) (hr : runM m.code s.fuel.toNat (s, g, k) = R) (het : w0.cell? ⟨2, 0, none⟩ = some (.iface 100 (.agg #[hT 50]))) :
    Calls Tryd.prog 25 #[.pointer (some ⟨L.b, 0, none⟩)] w fun en w' => ∃ s2 g2 k2 ui2 ci2 vo2, en = .returned (.agg #[.int .i64 R.code, .int .i64 (if R.code = 0 then R.val else 0), vo2]) ∧ PAt w0 L m.code ui2 ci2 vo2 w' s2 g2 k2 ∧ s2.out = R.out ∧ s2.fuel = R.fuel := by
  obtain ⟨rv, hrv⟩ : ∃ rv, (if R.code = 0 then R.val else 0) = rv := ⟨_, rfl⟩
  obtain ⟨rc, hrc⟩ : ∃ rc, R.code = rc := ⟨_, rfl⟩
  have HRC := hideP hrc
  have HRV := hideP hrv
  rw [hrv, hrc]
  clear hrv hrc
  have hlow := h.low
  obtain ⟨n, hn⟩ : ∃ n, w.heap.size = n := ⟨_, rfl⟩
  obtain ⟨h2, nh⟩ := h.new (.cells #[.int .i64 0, .int .i64 0, .slice none 0 0] 28)
  rw [hn] at h2 nh
  obtain ⟨L2, hL⟩ : ∃ L2, L.also n (.cells #[.int .i64 0, .int .i64 0, .slice none 0 0] 28) = L2 := ⟨_, rfl⟩
  have eb : L.b = L2.b := by rw [← hL]; rfl
  rw [hL] at h2
  have LES : Hid (∀ {w : World} {s : Mch} {g : List Int} {k : Int} {ui : Option Addr} {ci : Nat} {vo : Value}, PAt w0 L2 m.code ui ci vo w s g k → (∀ w', But n w w' → PAt w0 L m.code ui ci vo w' s g k) ∧ w.heap[n]? = some (.cells #[.int .i64 0, .int .i64 0, .slice none 0 0] 28)) := by
    intro w s g k ui ci vo hp
    rw [← hL] at hp
    exact ⟨fun w' kb => hp.put nh (hn ▸ hlow) kb, hp.also_is⟩
  have START : Hid (EndRel w0 L2 m R (s.fuel.toNat + 1) .nilIface (w.alloc (.cells #[.int .i64 0, .int .i64 0, .slice none 0 0] 28))) := Or.inl ⟨rfl, s, g, k, ui, ci, vo, h2, ok, hc, ho, hv, rfl, hr⟩
  have HET := hideP het
  rw [eb]
  clear h h2 het hr ok eb hL nh
  go_enter Tryd.func25, Tryd.ntmps25
  go_wp2_with fail
  go_loopg [3] (s.fuel.toNat + 1) (fun gk last wr => Hid (EndRel w0 L2 m R gk last wr))
  case atStart => exact START.out
  case round =>
    rcases hrel.out with ⟨rfl, s1, g1, k1, ui1, ci1, vo1, hp, ok1, c1, o1, v1, hg, hr1⟩ | ⟨rfl, hz, s1, g1, k1, ui1, ci1, vo1, hp, o1, f1⟩
    · have NX := hideP (next_any hm hp ok1 c1 o1 v1 hr1)
      have HG := hideP hg
      clear hp ok1 c1 o1 v1 hr1 hrel hg START
      go_wp2_with fail
      refine NX.out.mono ?_
      rintro e1 w1 ⟨v, rfl, g2, hg2, hx⟩
      go_wp2_with fail
      go_roundg g2
      case measure => have := HG.out; omega
      case rel => exact hx
    · have EB := hideP (endBy_any hp R.code (if R.code = 0 then R.val else 0) HET.out)
      have O1 := hideP o1
      have F1 := hideP f1
      clear hp o1 f1 hrel hz START HET
      rw [HRV.out, HRC.out] at EB ⊢
      go_wp2_with fail
      refine EB.out.mono ?_
      rintro e1 w1 ⟨rfl, hp⟩
      obtain ⟨uv, nv, cv, rfl⟩ := hp.out.shape
      obtain ⟨hq, hx⟩ := LES.out hp
      have z0 := (cells_of hx).1 0
      have z1 := (cells_of hx).1 1
      have z2 := (cells_of hx).1 2
      have zf := (cells_of hx).2
      simp at z0 z1 z2
      have hlw : n < w1.heap.size := lt_some hx
      have P3 := hideP (put3P hx (.int .i64 rc) (.int .i64 rv) (.slice uv nv cv))
      have BZ := hideP (hq _ ((((But.refl n w1).set 0 (.int .i64 rc)).set 1 (.int .i64 rv)).set 2 (.slice uv nv cv)))
      clear hp hq hx EB LES hlw hn hlow
      obtain ⟨bb, hbb⟩ : ∃ bb, L2.b = bb := ⟨_, rfl⟩
      rw [hbb]
      clear hbb
      go_wp2_with fail
      refine bodyPost_ret (results_cell_row rfl _ _ n 28 _ (0, 0) _ rfl P3.out Tryd.underlying28 rfl (by kernel_rfl)) rfl ?_
      exact ⟨_, _, _, _, _, _, rfl, BZ.out, O1.out, F1.out⟩
end
end Go.Proofs.YtpkfbabgcinhhaaDoor

/- A machine is made. -/
namespace Go.Proofs.YtpkfbabgcinhhaaDoor
open Go.ChangeShapes Go.WideShapes Go.ChangeAt Go.RowKit
theorem setRow_new {W : World} {n : Nat} (h : W.heap.size = n) (c c' : Array Value) (t : TypeId) : (W.alloc (.cells c t)).setRow n c' = W.alloc (.cells c' t) := by subst h; exact World.setRow_alloc_new W c c' t
theorem heap_new {W : World} {n : Nat} (h : W.heap.size = n) (o : Obj) : (W.alloc o).heap[n]? = some o := by subst h; exact heap_alloc_last W o
/-- Some cells of a block are written at once. -/
theorem wp_store_part {P : Program} {o : Oper} {a : Act} {w : World} {K : Act → World → Prop} {Q : Exit → Act → World → Prop} (ty : TypeId) (x y : Operand) (ho : o.op = .store ty x y)
    (g off : Nat) (cells : Array Value) (hx : a.eval x = .pointer (some ⟨g, off, none⟩)) (hy : a.eval y = .agg cells)
    (t : TypeId) (old : Array Value) (hg : w.heap[g]? = some (.cells old t (0, 0))) (hi : (P.info? ty).map (·.size) = some cells.size)
    (hold : off + cells.size ≤ old.size) (h1 : cells.all (·.oneCell') = true)
    (h : K (a.put o.dst undef) (w.setRow g (old.toList.take off ++ cells.toList ++ old.toList.drop (off + cells.size)).toArray)) : o.wp P a w K Q := by
  have e := run_storeCells_at (P := P) g off t cells.toList 0 old w hg (by simpa using hold) (fun v hv => (Array.all_eq_true_iff_forall_mem.1 h1) v (by simpa using hv))
  have e2 : (storeVar ty ⟨g, off, none⟩ (.agg cells)).run P w = .ok () (w.setRow g (old.toList.take off ++ cells.toList ++ old.toList.drop (off + cells.size)).toArray) := by
    cases hq : P.info? ty with
    | none => simp [hq] at hi
    | some i =>
      have hs : cells.size = i.size := by simp [hq] at hi; omega
      simp only [Nat.add_zero, Array.length_toList] at e
      simp [storeVar, sizeOf, typeInfo, hq, Value.cells, hs] at e ⊢
      simpa [hs] using e
  unfold Oper.wp execOp
  simp only [ho, hx, hy, Instr.storeAt, Instr.sureAddr, Sem.run_bind, Sem.run_pure, Result.andThen_ok, e2]
  exact h
def mcC (b v nv cv mp : Nat) (ui : Option Addr) (ni ci : Nat) (f : Int) (uo : Option Addr) (no co : Nat) (uw : Option Addr) (nw cw : Nat) : Array Value := #[.slice (some ⟨v, 0, none⟩) nv cv, .map (some mp), .slice ui ni ci, .int .i64 f, .slice uo no co, .slice uw nw cw, .int .i64 0, .int .i64 0, .int .i64 0, .int .i64 0, .int .i64 0, .int .i64 0, .int .i64 0, .int .i64 0, .int .i64 0, .int .i64 0, .int .i64 0, .int .i64 0, .int .i64 0, .int .i64 0, .int .i64 0, .int .i64 0, .int .i64 0, kindV b 0, kindV b 1, kindV b 2, kindV b 3, kindV b 4, kindV b 5, kindV b 6, kindV b 7, kindV b 8, kindV b 9, kindV b 10, kindV b 11]
section
variable {w : World}
set_option maxHeartbeats 8000000 in
set_option maxRecDepth 100000 in
theorem machineOf_any (uw : Option Addr) (nw cw : Nat) (v : Nat) (nv cv : Nat) (mp : Nat) (ui : Option Addr) (ni ci : Nat) (f : Int) (uo : Option Addr) (no co : Nat) :
    Calls Tryd.prog 40 #[.slice uw nw cw, .agg #[.slice (some ⟨v, 0, none⟩) nv cv, .map (some mp), .slice ui ni ci, .int .i64 f, .slice uo no co]] w fun en w' => en = .returned (.pointer (some ⟨w.heap.size + 1, 0, none⟩)) ∧ Below w.heap.size w w' ∧ w'.heap[w.heap.size + 1]? = some (.cells (mcC (w.heap.size + 1) v nv cv mp ui ni ci f uo no co uw nw cw) 64 (0, 0)) := by
  go_enter Tryd.func40, Tryd.ntmps40
  go_upto_region 1 with fail
  obtain ⟨lb, hlb⟩ : ∃ lb, w.heap.size = lb := ⟨_, rfl⟩
  have al1 := (Below.refl w.heap.size w).alloc (Nat.le_refl _) (.cells #[.slice (some ⟨v, 0, none⟩) nv cv, .map (some mp), .slice ui ni ci, .int .i64 f, .slice uo no co] 59)
  have E0 : (w.alloc (.cells #[.slice (some ⟨v, 0, none⟩) nv cv, .map (some mp), .slice ui ni ci, .int .i64 f, .slice uo no co] 59)).heap[lb]? = some (.cells #[.slice (some ⟨v, 0, none⟩) nv cv, .map (some mp), .slice ui ni ci, .int .i64 f, .slice uo no co] 59 (0, 0)) := by rw [← hlb]; show (w.heap.push _)[w.heap.size]? = _; exact Array.getElem?_push_size
  have S0 : (w.alloc (.cells #[.slice (some ⟨v, 0, none⟩) nv cv, .map (some mp), .slice ui ni ci, .int .i64 f, .slice uo no co] 59)).heap.size = lb + 1 := by rw [World.size_alloc, hlb]
  obtain ⟨W, hW⟩ : ∃ W, (w.alloc (.cells #[.slice (some ⟨v, 0, none⟩) nv cv, .map (some mp), .slice ui ni ci, .int .i64 f, .slice uo no co] 59)) = W := ⟨_, rfl⟩
  rw [hW] at E0 S0 al1 ⊢
  rw [hlb] at al1 ⊢
  have HL := hideP hlb
  have HA := hideP al1
  clear hW al1 hlb
  have e0 := (cells_of E0).1 0
  have e1 := (cells_of E0).1 1
  have e2 := (cells_of E0).1 2
  have e3 := (cells_of E0).1 3
  have e4 := (cells_of E0).1 4
  simp at e0 e1 e2 e3 e4
  have HE0 := hideP E0
  clear E0
  apply wp_region_lit
  refine wpList_plain rfl (fun K hK => ?_)
  go_simp
  refine hK _ _ ?_
  clear hK K
  refine wpList_plain rfl (fun K hK => ?_)
  go_simp
  refine hK _ _ ?_
  clear hK K
  refine wpList_plain rfl (fun K hK => ?_)
  go_simp
  refine hK _ _ ?_
  clear hK K
  refine wpList_plain rfl (fun K hK => ?_)
  go_simp
  refine hK _ _ ?_
  clear hK K
  refine wpList_plain rfl (fun K hK => ?_)
  refine wp_store_row 64 _ _ rfl (lb + 1) _ rfl rfl 64 _ (heap_new S0 _) (by kernel_rfl) rfl (by simp [Value.oneCell']) ?_
  rw [setRow_new S0]
  refine hK _ _ ?_
  clear hK K
  refine wpList_nil ?_
  walk_nrm
  clear e0 e1 e2 e3 e4
  go_upto_region 2 with fail
  apply wp_region_lit
  refine wpList_plain rfl (fun K hK => ?_)
  go_simp
  refine hK _ _ ?_
  clear hK K
  refine wpList_plain rfl (fun K hK => ?_)
  go_simp
  refine hK _ _ ?_
  clear hK K
  refine wpList_plain rfl (fun K hK => ?_)
  go_simp
  refine hK _ _ ?_
  clear hK K
  refine wpList_plain rfl (fun K hK => ?_)
  go_simp
  refine hK _ _ ?_
  clear hK K
  refine wpList_plain rfl (fun K hK => ?_)
  go_simp
  refine hK _ _ ?_
  clear hK K
  refine wpList_plain rfl (fun K hK => ?_)
  go_simp
  refine hK _ _ ?_
  clear hK K
  refine wpList_plain rfl (fun K hK => ?_)
  go_simp
  refine hK _ _ ?_
  clear hK K
  refine wpList_plain rfl (fun K hK => ?_)
  go_simp
  refine hK _ _ ?_
  clear hK K
  refine wpList_plain rfl (fun K hK => ?_)
  go_simp
  refine hK _ _ ?_
  clear hK K
  refine wpList_plain rfl (fun K hK => ?_)
  go_simp
  refine hK _ _ ?_
  clear hK K
  refine wpList_plain rfl (fun K hK => ?_)
  go_simp
  refine hK _ _ ?_
  clear hK K
  refine wpList_plain rfl (fun K hK => ?_)
  go_simp
  refine hK _ _ ?_
  clear hK K
  refine wpList_plain rfl (fun K hK => ?_)
  go_simp
  refine hK _ _ ?_
  clear hK K
  refine wpList_plain rfl (fun K hK => ?_)
  go_simp
  refine hK _ _ ?_
  clear hK K
  refine wpList_plain rfl (fun K hK => ?_)
  refine wp_store_part _ _ _ rfl (lb + 1) 23 _ rfl rfl 64 _ (heap_new S0 _) (by kernel_rfl) (by simp) (by simp [Value.oneCell']) ?_
  rw [setRow_new S0]
  refine hK _ _ ?_
  clear hK K
  refine wpList_nil ?_
  walk_nrm
  have ES : ∀ X : World, X = W.alloc (.cells (mcC (lb + 1) v nv cv mp ui ni ci f uo no co uw nw cw) 64) → Below lb w X ∧ X.heap[lb + 1]? = some (.cells (mcC (lb + 1) v nv cv mp ui ni ci f uo no co uw nw cw) 64 (0, 0)) := by
    rintro X rfl
    exact ⟨HA.out.trans ((Below.refl lb W).alloc (by omega) _), heap_new S0 _⟩
  have HES := hideP ES
  clear ES
  go_wp2_with fail
  go_ret
  rw [HL.out]
  obtain ⟨r1, r2⟩ := HES.out _ rfl
  exact ⟨rfl, r1, r2⟩
/-- A machine's box as it is made. -/
theorem BoxIs.made {L : PLay} {n : Nat} {ui : Option Addr} {ci : Nat} {uo : Option Addr} {no co : Nat} {s : Mch} (h : w.heap[L.b]? = some (.cells (mcC L.b L.v s.vars.length L.cv L.mp ui s.input.length ci s.fuel uo no co L.uw n L.cw) 64 (0, 0))) :
    BoxIs L n ui ci (.slice uo no co) w s (List.replicate 16 0) 0 := by
  refine ⟨_, h, rfl, rfl, rfl, rfl, rfl, rfl, rfl, rfl, fun i hi => ?_, fun i hi => ?_⟩
  · have hi2 : i < 16 := by simpa using hi
    rw [List.getElem_replicate]
    clear hi
    match i, hi2 with
    | 0, _ => rfl
    | 1, _ => rfl
    | 2, _ => rfl
    | 3, _ => rfl
    | 4, _ => rfl
    | 5, _ => rfl
    | 6, _ => rfl
    | 7, _ => rfl
    | 8, _ => rfl
    | 9, _ => rfl
    | 10, _ => rfl
    | 11, _ => rfl
    | 12, _ => rfl
    | 13, _ => rfl
    | 14, _ => rfl
    | 15, _ => rfl
    | q + 16, hq => exact absurd hq (by omega)
  · match i, hi with
    | 0, _ => rfl
    | 1, _ => rfl
    | 2, _ => rfl
    | 3, _ => rfl
    | 4, _ => rfl
    | 5, _ => rfl
    | 6, _ => rfl
    | 7, _ => rfl
    | 8, _ => rfl
    | 9, _ => rfl
    | 10, _ => rfl
    | 11, _ => rfl
    | q + 12, hq => exact absurd hq (by omega)
end
end Go.Proofs.YtpkfbabgcinhhaaDoor

/- A state is made. -/
namespace Go.Proofs.YtpkfbabgcinhhaaDoor
open Go.ChangeShapes Go.WideShapes Go.ChangeAt Go.RowKit
theorem make_int (n : Nat) (hn : n ≤ 1000) (W : World) : (Instr.makeSlice 22 (.int .i64 (n : Int)) (.int .i64 (n : Int))).run Tryd.prog W = .ok (.slice (some ⟨W.heap.size, 0, none⟩) n n) (W.alloc (.cells (madeCells #[.int .i64 0] n) 3)) := by
  have := make_n (P := Tryd.prog) Tryd.underlying22 infoI n (by omega) (by omega) W
  rw [Nat.mul_one] at this
  exact this
theorem row_made (w : World) (n : Nat) : RowZ (w.alloc (.cells (madeCells #[.int .i64 0] n) 3)) w.heap.size (List.replicate n 0) := by
  refine ⟨_, heap_alloc_last w _, by rw [List.length_replicate, size_madeCells]; simp, fun j hj => ?_⟩
  rw [List.length_replicate] at hj
  rw [List.getElem_replicate]
  simp [madeCells, hj, Nat.mod_one]
/-- What is given, at the beginning of a row of noughts. -/
theorem copy_args {w : World} {g n : Nat} (hg : w.heap[g]? = some (.cells (madeCells #[.int .i64 0] n) 3 (0, 0))) (ua : Option Addr) (ca : Nat) (args : List Int) (ha : IntsIs w 0 ua args) (hle : args.length ≤ n) :
    ∃ w', (Builtin.copy_ #[22, 22] 3 #[.slice (some ⟨g, 0, none⟩) n n, .slice ua args.length ca]).run Tryd.prog w = .ok (goInt args.length) w' ∧ But g w w' ∧ RowZ w' g (args ++ List.replicate (n - args.length) 0) := by
  have hmc : ∀ j, j < n → (madeCells #[.int .i64 0] n)[j]? = some (.int .i64 0) := fun j hj => by simp [madeCells, hj, Nat.mod_one]
  have hsz : (madeCells #[Value.int .i64 0] n).size = n := by rw [size_madeCells]
  by_cases h0 : args.length = 0
  · refine ⟨w, ?_, But.refl _ _, _, hg, by rw [hsz]; simp; omega, fun j hj => ?_⟩
    · rw [h0]; exact run_copy_none w _ _ _ 3 _ _ _ _ _ _ Tryd.underlying22 (by kernel_rfl) (by simp)
    · have e : args = [] := List.eq_nil_of_length_eq_zero h0
      subst e
      have hj2 : j < n := by simpa using hj
      rw [hmc j hj2]
      simp
  · obtain ⟨b, o, rfl, _, _, _⟩ := IntsIs.get ha 0 (by omega)
    have hr := run_copy_row (P := Tryd.prog) w 22 22 3 3 g 0 n n ⟨b, o, none⟩ args.length ca _ 3 (args.map (Value.int .i64)) Tryd.underlying22 (by kernel_rfl) hg (by rw [List.length_map]; exact (Nat.min_eq_left hle).symm) (fun j v hj => by
        rw [List.getElem?_map] at hj
        by_cases hl : j < args.length
        · rw [List.getElem?_eq_getElem hl] at hj
          obtain ⟨b', o', he, _, _, hc⟩ := IntsIs.get ha j hl
          cases he
          rw [addr_add', hc]
          exact hj
        · rw [List.getElem?_eq_none (by omega)] at hj; cases hj) (by rw [List.length_map, hsz]; omega) (fun v hv => by obtain ⟨z, _, rfl⟩ := List.mem_map.1 hv; rfl)
    rw [List.length_map] at hr
    refine ⟨_, hr, ⟨rfl, rfl, rfl, by simp, fun k _ hk => setRow_other w g k _ hk⟩, _, setRow_heap w g _ _ _ _ hg, ?_, fun j hj => ?_⟩
    · simp [hsz] <;> omega
    · simp only [List.length_append, List.length_replicate] at hj
      have hj2 : j < n := by omega
      rw [List.getElem?_toArray]
      by_cases hl : j < args.length
      · rw [List.getElem_append_left hl]
        simp [List.getElem?_append, hl]
      · rw [List.getElem_append_right (by omega), List.getElem_replicate]
        have := hmc j hj2
        have e2 : args.length + (j - args.length) = j := by omega
        simp [List.getElem?_append, hl, List.getElem?_drop, e2, this]
theorem five (w : World) (o1 o2 o3 o4 o5 : Obj) : (((((w.alloc o1).alloc o2).alloc o3).alloc o4).alloc o5).heap.size = w.heap.size + 5 ∧ (((((w.alloc o1).alloc o2).alloc o3).alloc o4).alloc o5).heap[w.heap.size]? = some o1 ∧ (((((w.alloc o1).alloc o2).alloc o3).alloc o4).alloc o5).heap[w.heap.size + 1]? = some o2 ∧ (((((w.alloc o1).alloc o2).alloc o3).alloc o4).alloc o5).heap[w.heap.size + 2]? = some o3 ∧ (((((w.alloc o1).alloc o2).alloc o3).alloc o4).alloc o5).heap[w.heap.size + 3]? = some o4 ∧ (((((w.alloc o1).alloc o2).alloc o3).alloc o4).alloc o5).heap[w.heap.size + 4]? = some o5 ∧ Below w.heap.size w (((((w.alloc o1).alloc o2).alloc o3).alloc o4).alloc o5) := by
  have k : ∀ (X : World) (o : Obj) (j : Nat), j < X.heap.size → (X.alloc o).heap[j]? = X.heap[j]? := fun X o j hj => ((Below.refl X.heap.size X).alloc (Nat.le_refl _) o).block j hj
  have a1 := heap_alloc_last w o1
  have a2 : ((w.alloc o1).alloc o2).heap[w.heap.size + 1]? = some o2 := heap_new (by simp) o2
  have a3 : (((w.alloc o1).alloc o2).alloc o3).heap[w.heap.size + 2]? = some o3 := heap_new (by simp) o3
  have a4 : ((((w.alloc o1).alloc o2).alloc o3).alloc o4).heap[w.heap.size + 3]? = some o4 := heap_new (by simp) o4
  have a5 : (((((w.alloc o1).alloc o2).alloc o3).alloc o4).alloc o5).heap[w.heap.size + 4]? = some o5 := heap_new (by simp) o5
  refine ⟨by simp, ?_, ?_, ?_, ?_, a5, (((((Below.refl _ _).alloc (Nat.le_refl _) _).alloc (by simp) _).alloc (by simp; omega) _).alloc (by simp; omega) _).alloc (by simp; omega) _⟩
  · rw [k _ _ _ (by simp <;> omega), k _ _ _ (by simp <;> omega), k _ _ _ (by simp <;> omega), k _ _ _ (by simp <;> omega)]; exact a1
  · rw [k _ _ _ (by simp <;> omega), k _ _ _ (by simp <;> omega), k _ _ _ (by simp <;> omega)]; exact a2
  · rw [k _ _ _ (by simp <;> omega), k _ _ _ (by simp <;> omega)]; exact a3
  · rw [k _ _ _ (by simp <;> omega)]; exact a4
theorem put5P {w : World} {b : Nat} {T : TypeId} {a0 a1 a2 a3 a4 : Value} (h : w.heap[b]? = some (.cells #[a0, a1, a2, a3, a4] T (0, 0))) (v0 v1 v2 v3 v4 : Value) : (((((w.setCell ⟨b, 0, none⟩ v0).setCell ⟨b, 1, none⟩ v1).setCell ⟨b, 2, none⟩ v2).setCell ⟨b, 3, none⟩ v3).setCell ⟨b, 4, none⟩ v4).heap[b]? = some (.cells #[v0, v1, v2, v3, v4] T (0, 0)) := by
  have h1 := box_setP h 0 v0
  have h2 := box_setP h1 1 v1
  have h3 := box_setP h2 2 v2
  have h4 := box_setP h3 3 v3
  have h5 := box_setP h4 4 v4
  exact h5.trans rfl
/-- What newState makes. -/
def NsRes (w : World) (n : Nat) (args sizes : List Int) (v mp ob : Nat) (mb : Nat → Nat) (w' : World) : Prop :=
  Below w.heap.size w w' ∧ RowZ w' v (args ++ List.replicate (n - args.length) 0) ∧ EmAt w' mp sizes.length (fun z => if 0 ≤ z ∧ z < ((sizes.length : Nat) : Int) then some (.slice (some ⟨mb z.toNat, 0, none⟩) (sizes.getD z.toNat 0).toNat (sizes.getD z.toNat 0).toNat) else none) ∧
  (∀ i, i < sizes.length → RowZ w' (mb i) (List.replicate (sizes.getD i 0).toNat 0) ∧ ob < mb i) ∧ (∀ i k, i < sizes.length → k < sizes.length → mb i = mb k → i = k) ∧ w'.heap[ob]? = some (.cells #[] 3 (0, 0)) ∧ w.heap.size < v ∧ v < mp ∧ mp < ob
theorem EmAt.ofHeap {w : World} {b : Nat} (h : w.heap[b]? = some (.map #[] 0)) : EmAt w b 0 (fun _ => none) := ⟨fun _ _ e => (by cases e), _, ⟨#[], 0, h, ⟨by simp, MapKept.stamped_empty 0, by simp⟩, Nat.le_refl _, rfl⟩, fun s _ => ⟨by simp [Maps.has], fun _ e => (by cases e)⟩⟩
/-- The regions that are made so far. -/
structure NsAt (W2 : World) (mp lo : Nat) (sizes : List Int) (j : Nat) (mb : Nat → Nat) (wr : World) : Prop where
  map : EmAt wr mp j (fun z => if 0 ≤ z ∧ z < ((j : Nat) : Int) then some (.slice (some ⟨mb z.toNat, 0, none⟩) (sizes.getD z.toNat 0).toNat (sizes.getD z.toNat 0).toNat) else none)
  rows : ∀ i, i < j → RowZ wr (mb i) (List.replicate (sizes.getD i 0).toNat 0)
  lo : ∀ i, i < j → lo ≤ mb i
  inj : ∀ i k, i < j → k < j → mb i = mb k → i = k
  but : But mp W2 wr
theorem NsAt.zero {W2 : World} {mp lo : Nat} {sizes : List Int} (h : EmAt W2 mp 0 (fun _ => none)) : NsAt W2 mp lo sizes 0 (fun _ => 0) W2 :=
  ⟨by have e : (fun z : Int => if 0 ≤ z ∧ z < ((0 : Nat) : Int) then some (Value.slice (some ⟨(fun _ => 0) z.toNat, 0, none⟩) (sizes.getD z.toNat 0).toNat (sizes.getD z.toNat 0).toNat) else none) = fun _ => none := by
        funext z; rw [if_neg (by omega)]
      rw [e]; exact h, fun i hi => absurd hi (Nat.not_lt_zero _), fun i hi => absurd hi (Nat.not_lt_zero _), fun i k hi => absurd hi (Nat.not_lt_zero _), But.refl _ _⟩
theorem NsAt.more {W2 : World} {mp lo : Nat} {sizes : List Int} {j : Nat} {mb : Nat → Nat} {wr : World} (h : NsAt W2 mp lo sizes j mb wr) (hj : j < 1000) (hlo : lo ≤ W2.heap.size) (q : Nat) (hq : sizes.getD j 0 = (q : Int)) (X : World) (eX : X = wr.drew.alloc (.cells (madeCells #[.int .i64 0] q) 3)) :
    ∃ w', (Instr.mapUpdate 57 (.map (some mp)) (.int .i64 (j : Int)) (.slice (some ⟨wr.heap.size, 0, none⟩) q q)).run Tryd.prog X = .ok () w' ∧ NsAt W2 mp lo sizes (j + 1) (fun i => if i = j then wr.heap.size else mb i) w' := by
  subst eX
  have al : Below wr.heap.size wr (wr.drew.alloc (.cells (madeCells #[.int .i64 0] q) 3)) := (Below.refl wr.heap.size wr).drew.alloc (Nat.le_refl _) _
  have hl := h.map.lt
  have m2 := h.map.stays al
  obtain ⟨w', hr, hm, kb⟩ := m2.put Tryd.underlying57 (s := (j : Int)) (by unfold I64; omega) (.slice (some ⟨wr.heap.size, 0, none⟩) q q) (by omega)
  have rw0 : RowZ (wr.drew.alloc (.cells (madeCells #[.int .i64 0] q) 3)) wr.heap.size (List.replicate q 0) := row_made wr.drew q
  refine ⟨w', hr, ?_, fun i hi => ?_, fun i hi => ?_, fun i k hi hk e => ?_, ?_⟩
  · refine (congrArg (EmAt w' mp (j + 1)) (funext fun z => ?_)).mp hm
    by_cases ez : z = (j : Int)
    · subst ez
      rw [if_pos rfl, if_pos (by omega)]
      simp only [Int.toNat_natCast, hq, if_true]
    · rw [if_neg ez]
      by_cases hz : 0 ≤ z ∧ z < (j : Int)
      · have : z.toNat ≠ j := by omega
        rw [if_pos hz, if_pos (by omega)]
        simp only [if_neg this]
      · rw [if_neg hz, if_neg (by omega)]
  · by_cases e : i = j
    · subst e
      simp only [if_true]
      rw [hq]
      exact rw0.keep (kb.block _ rw0.lt (by omega))
    · simp only [if_neg e]
      have r := h.rows i (by omega)
      have r2 := r.keep (al.block _ r.lt)
      exact r2.keep (kb.block _ r2.lt (fun e2 => by
        obtain ⟨cur, h3, _⟩ := r2
        obtain ⟨es, cl, h4⟩ := m2.isMap
        rw [e2, h4] at h3; cases h3))
  · by_cases e : i = j
    · simp only [if_pos e]; have := h.but.size; omega
    · simp only [if_neg e]; exact h.lo i (by omega)
  · by_cases e1 : i = j <;> by_cases e2 : k = j
    · omega
    · simp only [if_pos e1, if_neg e2] at e
      have := (h.rows k (by omega)).lt; omega
    · simp only [if_neg e1, if_pos e2] at e
      have := (h.rows i (by omega)).lt; omega
    · simp only [if_neg e1, if_neg e2] at e
      exact h.inj i k (by omega) (by omega) e
  · refine ⟨kb.os.trans (al.os.trans h.but.os), kb.tape.trans (al.tape.trans h.but.tape), kb.output.trans (al.output.trans h.but.output), Nat.le_trans h.but.size (Nat.le_trans al.size kb.size), fun g hg hn => ?_⟩
    have l1 := Nat.lt_of_lt_of_le hg h.but.size
    exact (kb.block g (Nat.lt_of_lt_of_le l1 al.size) hn).trans ((al.block g l1).trans (h.but.block g hg hn))
section
variable {w : World}
set_option maxHeartbeats 8000000 in
set_option maxRecDepth 100000 in
theorem newState_any (us : Option Addr) (cs : Nat) (sizes : List Int) (hz : IntsIs w 0 us sizes) (hs4 : sizes.length ≤ 4) (hsz : ∀ z ∈ sizes, 1 ≤ z ∧ z ≤ 16) (n : Nat) (hn : n ≤ 1000) (ua : Option Addr) (ca : Nat) (args : List Int) (ha : IntsIs w 0 ua args) (hle : args.length ≤ n) (ui : Option Addr) (ni ci : Nat) (f : Int) :
    Calls Tryd.prog 41 #[.slice us sizes.length cs, .int .i64 n, .slice ua args.length ca, .slice ui ni ci, .int .i64 f] w fun en w' => ∃ v mp ob mb, en = .returned (.agg #[.slice (some ⟨v, 0, none⟩) n n, .map (some mp), .slice ui ni ci, .int .i64 f, .slice (some ⟨ob, 0, none⟩) 0 0]) ∧ NsRes w n args sizes v mp ob mb w' := by
  go_enter Tryd.func41, Tryd.ntmps41
  have MK := make_int n hn
  have hmm := @run_makeMap Tryd.prog
  go_upto_region 2 with fail
  obtain ⟨W, hW⟩ : ∃ W, (((((w.alloc (.cells #[.slice none 0 0, .map none, .slice none 0 0, .int .i64 0, .slice none 0 0] 59)).alloc (.cells (madeCells #[.int .i64 0] n) 3)).alloc (.map #[] 0)).alloc (.cells #[] 3)).alloc (.cells #[.slice (some ⟨w.heap.size + 1, 0, none⟩) n n, .map (some (w.heap.size + 1 + 1)), .slice ui ni ci, .int .i64 f, .slice (some ⟨w.heap.size + 1 + 1 + 1, 0, none⟩) 0 0] 59)) = W := ⟨_, rfl⟩
  obtain ⟨S1, F0, F1, F2, F3, F4, BW⟩ := five w (.cells #[.slice none 0 0, .map none, .slice none 0 0, .int .i64 0, .slice none 0 0] 59) (.cells (madeCells #[.int .i64 0] n) 3) (.map #[] 0) (.cells #[] 3) (.cells #[.slice (some ⟨w.heap.size + 1, 0, none⟩) n n, .map (some (w.heap.size + 1 + 1)), .slice ui ni ci, .int .i64 f, .slice (some ⟨w.heap.size + 1 + 1 + 1, 0, none⟩) 0 0] 59)
  rw [hW] at S1 F0 F1 F2 F3 F4 BW ⊢
  have IA := IntsIs.stays ha BW
  have HZ := hideP hz
  have G2 : W.heap[w.heap.size + 1 + 1]? = some (.map #[] 0) := F2
  have G4 : W.heap[w.heap.size + 1 + 1 + 1 + 1]? = some (.cells #[.slice (some ⟨w.heap.size + 1, 0, none⟩) n n, .map (some (w.heap.size + 1 + 1)), .slice ui ni ci, .int .i64 f, .slice (some ⟨w.heap.size + 1 + 1 + 1, 0, none⟩) 0 0] 59 (0, 0)) := F4
  have G3 : W.heap[w.heap.size + 1 + 1 + 1]? = some (.cells #[] 3 (0, 0)) := F3
  clear F2 F3 F4 hmm hW
  obtain ⟨b, hb⟩ : ∃ b, w.heap.size = b := ⟨_, rfl⟩
  rw [hb] at S1 F0 F1 G2 G3 G4 BW ⊢
  obtain ⟨v, hv⟩ : ∃ v, b + 1 = v := ⟨_, rfl⟩
  rw [hv] at F1 G2 G3 G4 ⊢
  obtain ⟨mp, hmp⟩ : ∃ x, v + 1 = x := ⟨_, rfl⟩
  rw [hmp] at G2 G3 G4 ⊢
  obtain ⟨ob, hob⟩ : ∃ x, mp + 1 = x := ⟨_, rfl⟩
  rw [hob] at G3 G4 ⊢
  obtain ⟨st, hst⟩ : ∃ x, ob + 1 = x := ⟨_, rfl⟩
  rw [hst] at G4 ⊢
  obtain ⟨W2, CP, K2, RZ⟩ := copy_args F1 ua ca args IA hle
  have c0 := (cells_of G4).1 0
  have c1 := (cells_of G4).1 1
  have c2 := (cells_of G4).1 2
  have c3 := (cells_of G4).1 3
  have c4 := (cells_of G4).1 4
  simp at c0 c1 c2 c3 c4
  have E0 := hideP ((EmAt.ofHeap G2).blk (K2.block mp (lt_some G2) (by omega)))
  have HS := hideP S1
  have HK := hideP K2
  have HR := hideP RZ
  have HB := hideP BW
  have HF := hideP F0
  have HG := hideP G4
  have HO := hideP G3
  clear S1 K2 RZ BW F0 F1 G2 G3 G4 IA ha hz
  go_wp2_with fail
  have c1' := HK.out.cell (c := st) (i := 1) (World.block_lt_of_cell? _ _ c1) (by omega)
  rw [c1] at c1'
  have HC := hideP c1'
  clear c0 c1 c2 c3 c4 c1' CP MK
  go_loopg [12, 13, 27] sizes.length (fun gk _ _ ix wr => ∃ (j : Nat) (mb : Nat → Nat), gk + j = sizes.length ∧ ix = .int .i64 j ∧ Hid (NsAt W2 mp (st + 1) sizes j mb wr))
  case atStart => exact ⟨0, _, by omega, rfl, NsAt.zero E0.out⟩
  case round =>
    obtain ⟨j, mb, hg, rfl, hN⟩ := hrel
    have bel : Below w.heap.size w wr := by
      have h1 := HB.out
      have h2 := HK.out.below (B := b) (by omega) (by have := HS.out; omega)
      have h3 := hN.out.but.below (B := b) (by omega) (by have := HK.out.size; have := HS.out; omega)
      rw [hb]
      exact (h1.trans h2).trans h3
    have c1r := (hN.out.but.cell (c := st) (i := 1) (World.block_lt_of_cell? _ _ HC.out) (by omega)).trans HC.out
    rcases Nat.lt_or_ge j sizes.length with hj | hj
    · obtain ⟨bs, os, rfl, _, hbs, hcell⟩ := IntsIs.get (IntsIs.stays HZ.out bel) j hj
      obtain ⟨q, hq⟩ : ∃ q : Nat, sizes[j] = (q : Int) := ⟨sizes[j].toNat, by have := hsz _ (List.getElem_mem hj); omega⟩
      have hq16 : q ≤ 16 := by have := hsz _ (List.getElem_mem hj); omega
      rw [hq] at hcell
      have MK := make_int q (by omega)
      obtain ⟨w', MU, hN'⟩ := hN.out.more (by omega) (by have := HK.out.size; have := HS.out; omega) q (by rw [List.getD_eq_getElem?_getD, List.getElem?_eq_getElem hj]; exact hq) (wr.alloc (.cells (madeCells #[.int .i64 0] q) 3)).drew rfl
      have hstl := World.block_lt_of_cell? _ _ c1r
      have c1a : (wr.alloc (.cells (madeCells #[.int .i64 0] q) 3)).drew.cell? ⟨st, 1, none⟩ = some (.map (some mp)) := (World.cell?_of_block (a := ⟨st, 1, none⟩) ((((Below.refl wr.heap.size wr).alloc (Nat.le_refl _) _).drew).block st hstl)).trans c1r
      have HN := hideP hN'
      have hjl : (j : Int) < (sizes.length : Nat) := by omega
      have hle4 := hideP hs4
      have HGK := hideP hg
      have HM := hideP (lt_some (HG.out))
      clear hN' bel hg hN hs4 hsz hle hq
      go_upto_region 6 with fail
      go_region
      all_goals (try go_wp2_with fail)
      all_goals
        go_roundg (sizes.length - (j + 1))
        case measure => have := HGK.out; omega
        case rel => exact ⟨j + 1, _, by omega, (by have e : wrap64 ((j : Int) + 1) = ((j + 1 : Nat) : Int) := (by unfold wrap64; have := hle4.out; omega); rw [e]), HN.out⟩
    · have hjl : ¬ (j : Int) < (sizes.length : Nat) := by omega
      have ej : j = sizes.length := by omega
      have X1 := (hN.out.but.block st (by have := HK.out.size; have := HS.out; omega) (by omega)).trans ((HK.out.block st (by have := HS.out; omega) (by omega)).trans HG.out)
      have X0 := (hN.out.but.block b (by have := HK.out.size; have := HS.out; omega) (by omega)).trans ((HK.out.block b (by have := HS.out; omega) (by omega)).trans HF.out)
      have c0 := (cells_of X1).1 0
      have c1 := (cells_of X1).1 1
      have c2 := (cells_of X1).1 2
      have c3 := (cells_of X1).1 3
      have c4 := (cells_of X1).1 4
      have z0 := (cells_of X0).1 0
      have z1 := (cells_of X0).1 1
      have z2 := (cells_of X0).1 2
      have z3 := (cells_of X0).1 3
      have z4 := (cells_of X0).1 4
      have zf := (cells_of X0).2
      simp at c0 c1 c2 c3 c4 z0 z1 z2 z3 z4
      have HX0 := hideP X0
      have HBE := hideP bel
      have HGK := hideP hg
      have HEJ := hideP ej
      clear X0 X1 bel hg ej c1r
      go_wp2_with fail
      have P5 := put5P HX0.out (.slice (some ⟨v, 0, none⟩) n n) (.map (some mp)) (.slice ui ni ci) (.int .i64 f) (.slice (some ⟨ob, 0, none⟩) 0 0)
      refine bodyPost_ret (results_cell_row rfl _ _ b 59 _ (0, 0) _ rfl P5 Tryd.underlying59 rfl (by kernel_rfl)) rfl ?_
      obtain ⟨wf, hwf⟩ : ∃ wf, (((((wr.setCell ⟨b, 0, none⟩ (.slice (some ⟨v, 0, none⟩) n n)).setCell ⟨b, 1, none⟩ (.map (some mp))).setCell ⟨b, 2, none⟩ (.slice ui ni ci)).setCell ⟨b, 3, none⟩ (.int .i64 f)).setCell ⟨b, 4, none⟩ (.slice (some ⟨ob, 0, none⟩) 0 0)) = wf := ⟨_, rfl⟩
      have kz : But b wr wf := by
        rw [← hwf]
        exact ((((((But.refl b wr).set 0 _).set 1 _).set 2 _).set 3 _).set 4 _)
      rw [hwf]
      clear hwf P5
      have N := hN.out
      have ej := HEJ.out
      subst ej
      have s1 := HK.out.size
      have s2 := HS.out
      have s3 := N.but.size
      have r0 := HR.out
      have r1 := r0.keep (N.but.block v r0.lt (by omega))
      have o1 := (HK.out.block ob (by omega) (by omega)).trans HO.out
      have o2 := (N.but.block ob (by omega) (by omega)).trans o1
      have q1 := r1.keep (kz.block _ r1.lt (by omega))
      have q2 := N.map.blk (kz.block _ N.map.lt (by omega))
      have q3 := HBE.out.trans (kz.below (B := w.heap.size) (by omega) (by omega))
      refine ⟨v, mp, ob, rfl, mb, q3, q1, q2, fun i hi => ?_, N.inj, (kz.block ob (by omega) (by omega)).trans o2, by omega, by omega, by omega⟩
      have l1 := N.lo i hi
      have l2 := N.rows i hi
      exact ⟨l2.keep (kz.block _ l2.lt (by omega)), by omega⟩
end
end Go.Proofs.YtpkfbabgcinhhaaDoor

/- What an image's run begins with, and what it comes to. -/
namespace Go.Proofs.YtpkfbabgcinhhaaDoor
open Go.ChangeShapes Go.WideShapes Go.ChangeAt Go.RowKit
/-- Before the first word. -/
def mch0 (m : Img) (args input : List Int) (f : Int) : Mch :=
  { mem := m.sizes.map (fun z => List.replicate z.toNat 0), vars := args ++ List.replicate (m.slots - (args.length : Nat)).toNat 0, input := input, fuel := f, code := 0, over := false, val := 0, out := [] }
/-- It can be run with what is given. -/
def runOk (m : Img) (args input : List Int) (f : Int) : Bool := imgOk m && decide (((args.length : Nat) : Int) = m.params ∧ input.length ≤ 100 ∧ 0 ≤ f ∧ f ≤ 100000)
def execM (m : Img) (args input : List Int) (f : Int) : Mch := runM m.code f.toNat (mch0 m args input f, List.replicate 16 0, 0)
theorem mcOk_start {m : Img} {args input : List Int} {f : Int} (h : runOk m args input f = true) : McOk m (mch0 m args input f, List.replicate 16 0, 0) := by
  unfold runOk at h
  simp only [Bool.and_eq_true, decide_eq_true_eq] at h
  obtain ⟨hm, h1, h2, h3, h4⟩ := h
  have hc := imgOk_few hm
  have hz : ∀ z ∈ m.sizes, szOk z = true := by
    unfold imgOk regOk at hm
    simp only [Bool.and_eq_true, decide_eq_true_eq, List.all_eq_true] at hm
    exact hm.1.1.1.1.1.2
  have hp : m.params ≤ m.slots := by
    unfold imgOk parOk at hm
    simp only [Bool.and_eq_true, decide_eq_true_eq] at hm
    omega
  refine ⟨by simp, ?_, by simp [mch0], ?_, ⟨h3, h4⟩, ?_, fun _ _ => ⟨Int.le_refl 0, ?_⟩⟩
  · simp [mch0]; omega
  · intro l hl
    simp only [mch0, List.mem_map] at hl
    obtain ⟨z, hz1, rfl⟩ := hl
    rw [List.length_replicate]
    have := hz z hz1
    unfold szOk at this
    simp only [decide_eq_true_eq] at this
    omega
  · simp [mch0]; exact h4
  · simp only; omega
theorem burn_fuel {s : Mch} (h : 0 ≤ s.fuel ∧ s.fuel ≤ 100000) : 0 ≤ (burnM s).2.fuel ∧ (burnM s).2.fuel ≤ 100000 := by
  unfold burnM
  split
  · exact h
  · split
    · exact h
    · exact ⟨by show 0 ≤ s.fuel - 1; omega, by show s.fuel - 1 ≤ 100000; omega⟩
theorem runM_fuel {m : Img} (hm : imgOk m = true) : ∀ (f : Nat) (s : Mch) (g : List Int) (k : Int), McOk m (s, g, k) → 0 ≤ (runM m.code f (s, g, k)).fuel ∧ (runM m.code f (s, g, k)).fuel ≤ 100000
  | 0, s, g, k, h => burn_fuel h.fuel
  | f + 1, s, g, k, h => by
    show 0 ≤ (if (burnM s).1 = true then runM m.code f (wordM (m.code.getD k.toNat default) k (burnM s).2 g) else (burnM s).2).fuel ∧ (if (burnM s).1 = true then runM m.code f (wordM (m.code.getD k.toNat default) k (burnM s).2 g) else (burnM s).2).fuel ≤ 100000
    by_cases hb : (burnM s).1 = true
    · rw [if_pos hb]
      have h2 := (h.word hm hb).1
      generalize wordM (m.code.getD k.toNat default) k (burnM s).2 g = t at h2 ⊢
      obtain ⟨s2, g2, k2⟩ := t
      exact runM_fuel hm f s2 g2 k2 h2
    · rw [if_neg hb]
      exact burn_fuel h.fuel
theorem execM_fuel {m : Img} {args input : List Int} {f : Int} (h : runOk m args input f = true) : 0 ≤ (execM m args input f).fuel ∧ (execM m args input f).fuel ≤ 100000 := by
  have him : imgOk m = true := by
    unfold runOk at h
    simp only [Bool.and_eq_true] at h
    exact h.1
  exact runM_fuel him _ _ _ _ (mcOk_start h)
end Go.Proofs.YtpkfbabgcinhhaaDoor

/- A machine that is made, before its first word. -/
namespace Go.Proofs.YtpkfbabgcinhhaaDoor
open Go.ChangeShapes Go.WideShapes Go.ChangeAt Go.RowKit
def newL (b v n mp : Nat) (mb : Nat → Nat) (sizes : List Int) (uw : Option Addr) (cw : Nat) : PLay :=
  { b := b, v := v, cv := n, mp := mp, mb := mb, mc := fun i => (sizes.getD i 0).toNat, uw := uw, cw := cw, hs := fun _ => False, ho := fun _ => .cells #[] 0 }
theorem PAt.made {w0 wn w1 w2 : World} {m : Img} {args input : List Int} {f : Int} (hok : runOk m args input f = true) (n : Nat) (hn : m.slots = (n : Int)) {v mp ob : Nat} {mb : Nat → Nat} (B0 : Below w0.heap.size w0 wn) (N : NsRes wn n args m.sizes v mp ob mb w1) {b : Nat} (B2 : Below w1.heap.size w1 w2) (hb : w1.heap.size ≤ b)
    {uw : Option Addr} {cw : Nat} {ui : Option Addr} {ci : Nat} (hx : w2.heap[b]? = some (.cells (mcC b v n n mp ui input.length ci f (some ⟨ob, 0, none⟩) 0 0 uw m.code.length cw) 64 (0, 0)))
    (code : SlIs WrdIs 5 w0 0 uw m.code) (inp : IntsIs w0 0 ui input) (icap : input.length ≤ ci ∧ ci ≤ maxLen) (alu : ∀ q, q < 6 → w0.cell? ⟨1, q, none⟩ = some (.string ⟨(aluS q).toArray⟩)) :
    PAt w0 (newL b v n mp mb m.sizes uw cw) m.code ui ci (.slice (some ⟨ob, 0, none⟩) 0 0) w2 (mch0 m args input f) (List.replicate 16 0) 0 := by
  obtain ⟨n1, n2, n3, n4, n5, n6, n7, n8, n9⟩ := N
  have k0 := B0.size
  have k1 := n1.size
  have k2 := B2.size
  have hp : (args.length : Int) = m.params ∧ m.params ≤ m.slots := by
    unfold runOk imgOk parOk at hok
    simp only [Bool.and_eq_true, decide_eq_true_eq] at hok
    omega
  have ev : (mch0 m args input f).vars = args ++ List.replicate (n - args.length) 0 := by
    have e : (m.slots - (args.length : Nat)).toNat = n - args.length := by omega
    show args ++ List.replicate (m.slots - (args.length : Nat)).toNat 0 = _
    rw [e]
  have el : (mch0 m args input f).vars.length = n := by rw [ev]; simp; omega
  have em : (mch0 m args input f).mem.length = m.sizes.length := by simp [mch0]
  have er : ∀ i (h : i < (mch0 m args input f).mem.length), (mch0 m args input f).mem[i] = List.replicate (m.sizes.getD i 0).toNat 0 := fun i h => by
    have hi : i < m.sizes.length := by rw [← em]; exact h
    have e1 : m.sizes.getD i 0 = m.sizes[i] := by rw [List.getD_eq_getElem?_getD, List.getElem?_eq_getElem hi]; rfl
    rw [e1]
    simp [mch0]
  have no : ob < w1.heap.size := lt_some n6
  have nv : v < w1.heap.size := n2.lt
  refine { box := ?_, g16 := by simp, vars := ?_, rows := fun i hi => ?_, map := ⟨m.sizes.length, ?_⟩, bel := (B0.trans (n1.mono k0)).trans (B2.mono (by omega)), code := code, inp := inp, icap := icap, alu := alu, out := ?_, lowB := ?_, lowV := ?_, lowP := ?_, lowI := fun i hi => ?_, ri := fun i hi => ?_, ij := fun i j hi hj e => ?_, oo := fun o e => ?_, hold := fun q hq => False.elim hq }
  · have h2 : w2.heap[(newL b v n mp mb m.sizes uw cw).b]? = some (.cells (mcC (newL b v n mp mb m.sizes uw cw).b (newL b v n mp mb m.sizes uw cw).v (mch0 m args input f).vars.length (newL b v n mp mb m.sizes uw cw).cv (newL b v n mp mb m.sizes uw cw).mp ui (mch0 m args input f).input.length ci (mch0 m args input f).fuel (some ⟨ob, 0, none⟩) 0 0 (newL b v n mp mb m.sizes uw cw).uw m.code.length (newL b v n mp mb m.sizes uw cw).cw) 64 (0, 0)) := by rw [el]; exact hx
    exact BoxIs.made h2
  · rw [ev]; exact n2.keep (B2.block _ n2.lt)
  · rw [er i hi]
    have r := (n4 i (by omega)).1
    exact r.keep (B2.block _ r.lt)
  · have h3 := n3.blk (B2.block _ n3.lt)
    refine (congrArg (EmAt w2 mp m.sizes.length) (funext fun z => ?_)).mp h3
    unfold regE
    rw [em]
    by_cases hz : 0 ≤ z ∧ z < ((m.sizes.length : Nat) : Int)
    · rw [if_pos hz, if_pos hz]
      have hzl : z.toNat < (mch0 m args input f).mem.length := by omega
      have e1 : (mch0 m args input f).mem.getD z.toNat [] = List.replicate (m.sizes.getD z.toNat 0).toNat 0 := by rw [List.getD_eq_getElem?_getD, List.getElem?_eq_getElem hzl]; exact er _ hzl
      rw [e1, List.length_replicate]
      rfl
    · rw [if_neg hz, if_neg hz]
  · have h6 := (B2.block _ no).trans n6
    have hf : (mch0 m args input f).out = [] := rfl
    rw [hf]
    refine ⟨rfl, Or.inr ⟨ob, 0, #[], rfl, by omega, h6, ?_, ?_, ?_, ?_⟩⟩
    · exact Nat.le_refl _
    · unfold maxLen; omega
    · rfl
    · rfl
  · show w0.heap.size ≤ b; omega
  · show w0.heap.size ≤ v; omega
  · show w0.heap.size ≤ mp; omega
  · show w0.heap.size ≤ mb i
    have := (n4 i (by omega)).2; omega
  · show mb i ≠ v
    have := (n4 i (by omega)).2; omega
  · exact n5 i j (by omega) (by omega) e
  · have e2 : ob = o := Option.some.inj e
    subst e2
    refine ⟨?_, fun i hi => ?_⟩
    · show ob ≠ v; omega
    · show ob ≠ mb i
      have := (n4 i (by omega)).2; omega
end Go.Proofs.YtpkfbabgcinhhaaDoor
