/- What the machine's methods do with a word: reckon; and a number put out. -/
import Derived.Test.YtpkfbabgcinhhaaDoorCkF
import Derived.Test.YtpkfbabgcinhhaaDoorCkG
import Derived.Conc.WalkWords
namespace Go.Proofs.YtpkfbabgcinhhaaDoor
open Go.ChangeShapes Go.WideShapes Go.ChangeAt Go.RowKit
section
variable {w0 : World} {L : PLay} {ui : Option Addr} {ci : Nat} {vo : Value} {w w' : World} {s : Mch} {g : List Int} {k : Int} {code : List Wrd}
/-- One number more is put out: the list has grown, and its slice is laid in the box. -/
theorem PAt.setOut (h : PAt w0 L code ui ci vo w s g k) {v' : Value} {l' : List Int} (gr : w.grownBy w' vo.ownBlock) (o : OwnN IntE w' w0.heap.size v' l') (loc : v'.ownBlock = vo.ownBlock ∨ v'.ownBlock = some w.heap.size) :
    PAt w0 L code ui ci v' (w'.setCell ⟨L.b, 4, none⟩ v') { s with out := l' } g k ∧ w'.cell? ⟨L.b, 4, none⟩ = some vo ∧ w'.frozen? ⟨L.b, 4, none⟩ = false := by
  obtain ⟨cs, hx, hsz⟩ := h.box.blk
  obtain ⟨n, hn⟩ := h.map
  have blk : ∀ {c : Nat}, c < w.heap.size → vo.ownBlock ≠ some c → w'.heap[c]? = w.heap[c]? := fun hl hne => gr.block _ hl (fun e => hne e.symm)
  have nB : vo.ownBlock ≠ some L.b := fun e => by
    obtain ⟨cur, h2⟩ := h.out.block e
    exact typ_ne2 h2 hx (by decide) rfl
  have nP : vo.ownBlock ≠ some L.mp := fun e => by
    obtain ⟨cur, h2⟩ := h.out.block e
    obtain ⟨es, cl, h1⟩ := hn.isMap
    rw [h2] at h1; cases h1
  have bx := h.box.keep (blk h.box.lt nB)
  obtain ⟨cs1, hx1, _⟩ := bx.blk
  have v1 := h.vars.keep (blk h.vars.lt (fun e => (h.oo _ e).1 rfl))
  have q1 := fun i hi => (h.rows i hi).keep (blk (h.rows i hi).lt (fun e => (h.oo _ e).2 i hi rfl))
  have m1 := hn.blk (blk hn.lt nP)
  have kb := (But.refl L.b w').set 4 v'
  have nm : L.mp ≠ L.b := fun e => by obtain ⟨es, cl, h1⟩ := m1.isMap; rw [e, hx1] at h1; cases h1
  have on : v'.ownBlock ≠ some L.b := fun e => by
    obtain ⟨cur, h2⟩ := o.block e
    exact typ_ne2 h2 hx1 (by decide) rfl
  have bel1 : Below w0.heap.size w0 w' := h.bel.trans (grown_below gr (fun b e => (h.out.low b e).1) h.low)
  have fx := (cells_of hx1).1 4
  obtain ⟨cs2, hx2, _, _, _, _, _, c4, _⟩ := bx
  rw [hx1] at hx2
  have ec : cs1 = cs2 := by simpa using hx2
  subst ec
  refine ⟨?_, fx.trans c4, (cells_of hx1).2 4⟩
  exact
    { box := (h.box.keep (blk h.box.lt nB)).out h.g16 v' l', g16 := h.g16
      vars := v1.keep (kb.block _ v1.lt (v1.ne hx1 (by decide)))
      rows := fun i hi => (q1 i hi).keep (kb.block _ (q1 i hi).lt ((q1 i hi).ne hx1 (by decide)))
      map := ⟨n, m1.blk (kb.block _ m1.lt nm)⟩
      bel := bel1.trans (kb.below h.lowB bel1.size), code := h.code, inp := h.inp, icap := h.icap, alu := h.alu
      out := o.butB kb on
      lowB := h.lowB, lowV := h.lowV, lowP := h.lowP, lowI := h.lowI, ri := h.ri, ij := h.ij
      oo := fun b e => by
        rcases loc with l | l
        · exact h.oo b (l ▸ e)
        · rw [l] at e
          have e2 : w.heap.size = b := Option.some.inj e
          subst e2
          exact ⟨fun e3 => by have := h.vars.lt; omega, fun i hi e3 => by have := (h.rows i hi).lt; omega⟩
      hold := fun q hq => by
        obtain ⟨a1, a2, a3, a4, a5⟩ := h.hold q hq
        have l1 := lt_some a1
        have b1 := (blk l1 a4).trans a1
        refine ⟨(kb.block _ (lt_some b1) a2).trans b1, a2, a3, fun e => ?_, a5⟩
        rcases loc with l | l
        · exact a4 (l ▸ e)
        · rw [l] at e
          have e2 : w.heap.size = q := Option.some.inj e
          omega }
def SR (wh r a b n : Nat) (T : ByteArray) (W : World) : Prop := W.cell? ⟨wh, 1, none⟩ = some (.int .i64 (r : Int)) ∧ W.cell? ⟨wh, 2, none⟩ = some (.int .i64 (a : Int)) ∧ W.cell? ⟨wh, 3, none⟩ = some (.int .i64 (b : Int)) ∧ W.cell? ⟨wh, 4, none⟩ = some (.int .i64 (n : Int)) ∧ W.cell? ⟨1, n, none⟩ = some (.string T)
theorem sr_but {wh r a b n c : Nat} {T : ByteArray} (h : SR wh r a b n T w) (k : But c w w') (h1 : wh < w.heap.size) (h2 : 1 < w.heap.size) (n1 : wh ≠ c) (n2 : 1 ≠ c) : SR wh r a b n T w' :=
  ⟨(k.cell h1 n1).trans h.1, (k.cell h1 n1).trans h.2.1, (k.cell h1 n1).trans h.2.2.1, (k.cell h1 n1).trans h.2.2.2.1, (k.cell h2 n2).trans h.2.2.2.2⟩
def SO (wh r : Nat) (W : World) : Prop := W.cell? ⟨wh, 1, none⟩ = some (.int .i64 (r : Int)) ∧ True
theorem so_keep {wh r : Nat} (h : SO wh r w) (g6 : w.grownBy w' vo.ownBlock) (nw : wh < w.heap.size ∧ vo.ownBlock ≠ some wh) : SO wh r w' :=
  ⟨(World.cell?_of_block (a := ⟨wh, 1, none⟩) (g6.block wh nw.1 (fun e => nw.2 e.symm))).trans h.1, trivial⟩
theorem so_set {wh r lb : Nat} (h : SO wh r w) (h1 : wh ≠ lb) (l1 : wh < w.heap.size) (v : Value) : SO wh r (w.setCell ⟨lb, 4, none⟩ v) := ⟨(((But.refl lb w).set 4 v).cell l1 h1).trans h.1, trivial⟩
set_option maxHeartbeats 8000000 in
set_option maxRecDepth 100000 in
theorem reckon_any (h : PAt w0 L code ui ci vo w s g k) (op : Int) (r a b n : Nat) (hr : r < 16) (ha : a < 16) (hb : b < 16) (hn : n < 6) :
    Calls Tryd.prog 57 #[.pointer (some ⟨L.b, 0, none⟩), .agg #[.int .i64 op, .int .i64 r, .int .i64 a, .int .i64 b, .int .i64 n]] w fun en w' => en = .returned .nilIface ∧ PAt w0 L code ui ci vo w' s (g.set r (binL (aluS n) (g.getD a 0) (g.getD b 0))) k := by
  have AL : Hid (∀ (x : World) o, Below x.heap.size x (x.alloc o)) := fun x o => (Below.refl _ _).alloc (Nat.le_refl _) o
  have H := hideP (h.stays (AL.out _ (WBox op r a b n)))
  have hb0 := h.lt
  have hr2 : (r : Int) < 16 := by omega
  have ha2 : (a : Int) < 16 := by omega
  have hb2 : (b : Int) < 16 := by omega
  have hn2 : (n : Int) < 6 := by omega
  have BI : Hid (∀ (x y : Int) W, Calls Tryd.prog 69 #[.string ⟨(aluS n).toArray⟩, .int .i64 x, .int .i64 y] W fun e w' => e = .returned (.int .i64 (binL (aluS n) x y)) ∧ w' = W) := fun x y W => by
    have := implBin_any ⟨(aluS n).toArray⟩ x y W
    rwa [Lib.toList_data] at this
  have d1 := H.out.rg a ha
  have d2 := H.out.rg b hb
  have d3 := H.out.rg r hr
  have f0 := H.out.fz (6 + r)
  have t0 := h.alu n hn
  have tl : 1 < w0.heap.size := by
    rcases Nat.lt_or_ge 1 w0.heap.size with h' | h'
    · exact h'
    · simp [World.cell?, Array.getElem?_eq_none h'] at t0
  have d4 := (H.out.bel.cell (p := ⟨1, n, none⟩) tl).trans t0
  have B0 : Hid ((w.alloc (WBox op r a b n)).heap[w.heap.size]? = some (WBox op r a b n)) := by show (w.heap.push _)[w.heap.size]? = _; exact Array.getElem?_push_size
  obtain ⟨x, hx⟩ : ∃ x, g.getD a 0 = x := ⟨_, rfl⟩
  obtain ⟨y, hy⟩ : ∃ y, g.getD b 0 = y := ⟨_, rfl⟩
  rw [hx] at d1 ⊢
  rw [hy] at d2 ⊢
  obtain ⟨T, hT⟩ : ∃ T : ByteArray, ⟨(aluS n).toArray⟩ = T := ⟨_, rfl⟩
  rw [hT] at d4 BI
  obtain ⟨Z, hZ⟩ : ∃ Z, binL (aluS n) x y = Z := ⟨_, rfl⟩
  have BX := hideP (BI.out x y)
  rw [hZ] at BX ⊢
  have lB0 : w.heap.size < (w.alloc (WBox op r a b n)).heap.size := by simp
  unfold WBox at *
  clear h hx hy hT hZ AL BI t0
  go_enter Tryd.func57, Tryd.ntmps57
  go_upto_region 1 with fail
  obtain ⟨W, hW⟩ : ∃ W, w.alloc (.cells #[.int .i64 op, .int .i64 r, .int .i64 a, .int .i64 b, .int .i64 n] 73) = W := ⟨_, rfl⟩
  rw [hW] at H B0 d1 d2 d3 d4 f0 lB0 ⊢
  clear hW
  have e1 := (cells_of B0.out).1 1
  have e2 := (cells_of B0.out).1 2
  have e3 := (cells_of B0.out).1 3
  have e4 := (cells_of B0.out).1 4
  simp at e1 e2 e3 e4
  clear B0
  have lB : w.heap.size < W.heap.size := lB0
  have SD : Hid (SR w.heap.size r a b n T W.drew) := ⟨e1, e2, e3, e4, d4⟩
  have tlW : 1 < W.drew.heap.size := Nat.lt_of_lt_of_le tl H.out.bel.size
  have KZ := hideP ((H.out.stays (Below.refl _ _).drew).reg r hr Z)
  have SZ := hideP (sr_but SD.out ((But.refl L.b W.drew).set (6 + r) (.int .i64 Z)) lB tlW (by omega) (by have := H.out.lowB; omega))
  clear e1 e2 e3 e4 d4
  refine wp_region_held_drew (S := SR w.heap.size r a b n T) (by kernel_rfl) SD.out (fun hHeld => ?_)
  refine wpAnyH_take (i := 0) (v := (.pointer (some ⟨L.b, 0, none⟩))) rfl (by kernel_rfl) (by kernel_rfl) (by kernel_rfl) (fun _ _ _ h => h) (Or.inl ⟨by rfl, ?_⟩) hHeld ?_
  · (intro w hSw; obtain ⟨q1, q2, q3, q4, q5⟩ := hSw; go_simp)
  walk_nrm
  refine wpAnyH_take (i := 1) (v := (.pointer (some ⟨w.heap.size, 1, none⟩))) rfl (by kernel_rfl) (by kernel_rfl) (by kernel_rfl) (fun _ _ _ h => h) (Or.inl ⟨by rfl, ?_⟩) hHeld ?_
  · (intro w hSw; obtain ⟨q1, q2, q3, q4, q5⟩ := hSw; go_simp)
  walk_nrm
  refine wpAnyH_take (i := 2) (v := (.int .i64 (r : Int))) rfl (by kernel_rfl) (by kernel_rfl) (by kernel_rfl) (fun _ _ _ h => h) (Or.inl ⟨by rfl, ?_⟩) hHeld ?_
  · (intro w hSw; obtain ⟨q1, q2, q3, q4, q5⟩ := hSw; go_simp)
  walk_nrm
  refine wpAnyH_take (i := 3) (v := (.pointer (some ⟨w.heap.size, 4, none⟩))) rfl (by kernel_rfl) (by kernel_rfl) (by kernel_rfl) (fun _ _ _ h => h) (Or.inl ⟨by rfl, ?_⟩) hHeld ?_
  · (intro w hSw; obtain ⟨q1, q2, q3, q4, q5⟩ := hSw; go_simp)
  walk_nrm
  refine wpAnyH_take (i := 4) (v := (.int .i64 (n : Int))) rfl (by kernel_rfl) (by kernel_rfl) (by kernel_rfl) (fun _ _ _ h => h) (Or.inl ⟨by rfl, ?_⟩) hHeld ?_
  · (intro w hSw; obtain ⟨q1, q2, q3, q4, q5⟩ := hSw; go_simp)
  walk_nrm
  refine wpAnyH_take (i := 5) (v := (.pointer (some ⟨1, n, none⟩))) rfl (by kernel_rfl) (by kernel_rfl) (by kernel_rfl) (fun _ _ _ h => h) (Or.inl ⟨by rfl, ?_⟩) hHeld ?_
  · (intro w hSw; obtain ⟨q1, q2, q3, q4, q5⟩ := hSw; go_simp)
  walk_nrm
  refine wpAnyH_take (i := 6) (v := (.string T)) rfl (by kernel_rfl) (by kernel_rfl) (by kernel_rfl) (fun _ _ _ h => h) (Or.inl ⟨by rfl, ?_⟩) hHeld ?_
  · (intro w hSw; obtain ⟨q1, q2, q3, q4, q5⟩ := hSw; go_simp)
  walk_nrm
  refine wpAnyH_take (i := 7) (v := (.pointer (some ⟨L.b, 0, none⟩))) rfl (by kernel_rfl) (by kernel_rfl) (by kernel_rfl) (fun _ _ _ h => h) (Or.inl ⟨by rfl, ?_⟩) hHeld ?_
  · (intro w hSw; obtain ⟨q1, q2, q3, q4, q5⟩ := hSw; go_simp)
  walk_nrm
  refine wpAnyH_take (i := 8) (v := (.pointer (some ⟨w.heap.size, 2, none⟩))) rfl (by kernel_rfl) (by kernel_rfl) (by kernel_rfl) (fun _ _ _ h => h) (Or.inl ⟨by rfl, ?_⟩) hHeld ?_
  · (intro w hSw; obtain ⟨q1, q2, q3, q4, q5⟩ := hSw; go_simp)
  walk_nrm
  refine wpAnyH_take (i := 9) (v := (.int .i64 (a : Int))) rfl (by kernel_rfl) (by kernel_rfl) (by kernel_rfl) (fun _ _ _ h => h) (Or.inl ⟨by rfl, ?_⟩) hHeld ?_
  · (intro w hSw; obtain ⟨q1, q2, q3, q4, q5⟩ := hSw; go_simp)
  walk_nrm
  refine wpAnyH_take (i := 10) (v := (.pointer (some ⟨L.b, 0, none⟩))) rfl (by kernel_rfl) (by kernel_rfl) (by kernel_rfl) (fun _ _ _ h => h) (Or.inl ⟨by rfl, ?_⟩) hHeld ?_
  · (intro w hSw; obtain ⟨q1, q2, q3, q4, q5⟩ := hSw; go_simp)
  walk_nrm
  refine wpAnyH_take (i := 11) (v := (.pointer (some ⟨L.b, 6, none⟩))) rfl (by kernel_rfl) (by kernel_rfl) (by kernel_rfl) (fun _ _ _ h => h) (Or.inl ⟨by rfl, ?_⟩) hHeld ?_
  · (intro w hSw; obtain ⟨q1, q2, q3, q4, q5⟩ := hSw; go_simp)
  walk_nrm
  refine wpAnyH_take (i := 12) (v := (.pointer (some ⟨L.b, 6 + a, none⟩))) rfl (by kernel_rfl) (by kernel_rfl) (by kernel_rfl) (fun _ _ _ h => h) (Or.inl ⟨by rfl, ?_⟩) hHeld ?_
  · (intro w hSw; obtain ⟨q1, q2, q3, q4, q5⟩ := hSw; go_simp)
  walk_nrm
  refine wpAnyH_take (i := 14) (v := (.pointer (some ⟨L.b, 0, none⟩))) rfl (by kernel_rfl) (by kernel_rfl) (by kernel_rfl) (fun _ _ _ h => h) (Or.inl ⟨by rfl, ?_⟩) hHeld ?_
  · (intro w hSw; obtain ⟨q1, q2, q3, q4, q5⟩ := hSw; go_simp)
  walk_nrm
  refine wpAnyH_take (i := 15) (v := (.pointer (some ⟨w.heap.size, 3, none⟩))) rfl (by kernel_rfl) (by kernel_rfl) (by kernel_rfl) (fun _ _ _ h => h) (Or.inl ⟨by rfl, ?_⟩) hHeld ?_
  · (intro w hSw; obtain ⟨q1, q2, q3, q4, q5⟩ := hSw; go_simp)
  walk_nrm
  refine wpAnyH_take (i := 16) (v := (.int .i64 (b : Int))) rfl (by kernel_rfl) (by kernel_rfl) (by kernel_rfl) (fun _ _ _ h => h) (Or.inl ⟨by rfl, ?_⟩) hHeld ?_
  · (intro w hSw; obtain ⟨q1, q2, q3, q4, q5⟩ := hSw; go_simp)
  walk_nrm
  refine wpAnyH_take (i := 17) (v := (.pointer (some ⟨L.b, 0, none⟩))) rfl (by kernel_rfl) (by kernel_rfl) (by kernel_rfl) (fun _ _ _ h => h) (Or.inl ⟨by rfl, ?_⟩) hHeld ?_
  · (intro w hSw; obtain ⟨q1, q2, q3, q4, q5⟩ := hSw; go_simp)
  walk_nrm
  refine wpAnyH_take (i := 18) (v := (.pointer (some ⟨L.b, 6, none⟩))) rfl (by kernel_rfl) (by kernel_rfl) (by kernel_rfl) (fun _ _ _ h => h) (Or.inl ⟨by rfl, ?_⟩) hHeld ?_
  · (intro w hSw; obtain ⟨q1, q2, q3, q4, q5⟩ := hSw; go_simp)
  walk_nrm
  refine wpAnyH_take (i := 19) (v := (.pointer (some ⟨L.b, 6 + b, none⟩))) rfl (by kernel_rfl) (by kernel_rfl) (by kernel_rfl) (fun _ _ _ h => h) (Or.inl ⟨by rfl, ?_⟩) hHeld ?_
  · (intro w hSw; obtain ⟨q1, q2, q3, q4, q5⟩ := hSw; go_simp)
  walk_nrm
  refine wpAnyH_take (i := 22) (v := (.pointer (some ⟨L.b, 0, none⟩))) rfl (by kernel_rfl) (by kernel_rfl) (by kernel_rfl) (fun _ _ _ h => h) (Or.inl ⟨by rfl, ?_⟩) hHeld ?_
  · (intro w hSw; obtain ⟨q1, q2, q3, q4, q5⟩ := hSw; go_simp)
  walk_nrm
  refine wpAnyH_take (i := 23) (v := (.pointer (some ⟨L.b, 6, none⟩))) rfl (by kernel_rfl) (by kernel_rfl) (by kernel_rfl) (fun _ _ _ h => h) (Or.inl ⟨by rfl, ?_⟩) hHeld ?_
  · (intro w hSw; obtain ⟨q1, q2, q3, q4, q5⟩ := hSw; go_simp)
  walk_nrm
  refine wpAnyH_ready (rs := [13, 20]) (by kernel_rfl) (by simp) ?_
  refine AllReadyH.cons rfl (fun K hK => ?_) (AllReadyH.cons rfl (fun K hK => ?_) (AllReadyH.nil))
  · go_simp
    first | refine hK.out _ _ SD.out (fun hHeld => ?_)
    clear hK K
    refine wpAnyH_ready (rs := [20]) (by kernel_rfl) (by simp) ?_
    refine AllReadyH.cons rfl (fun K hK => ?_) (AllReadyH.nil)
    go_simp
    first | refine hK.out _ _ SD.out (fun hHeld => ?_)
    clear hK K
    refine wpAnyH_ready (rs := [21]) (by kernel_rfl) (by simp) ?_
    refine AllReadyH.cons rfl (fun K hK => ?_) (AllReadyH.nil)
    go_simp
    go_at_call 69
    refine (BX.out _).mono ?_
    rintro ea wa ⟨rfl, hwa⟩
    have hwb := hwa.symm
    subst hwb
    go_wp2_with fail
    first | refine hK.out _ _ SD.out (fun hHeld => ?_)
    clear hK K
    refine wpAnyH_take (i := 24) (v := (.pointer (some ⟨L.b, 6 + r, none⟩))) rfl (by kernel_rfl) (by kernel_rfl) (by kernel_rfl) (fun _ _ _ h => h) (Or.inl ⟨by rfl, ?_⟩) hHeld ?_
    · (intro w hSw; obtain ⟨q1, q2, q3, q4, q5⟩ := hSw; go_simp)
    walk_nrm
    refine wpAnyH_ready (rs := [25]) (by kernel_rfl) (by simp) ?_
    refine AllReadyH.cons rfl (fun K hK => ?_) (AllReadyH.nil)
    go_simp
    first | refine hK.out _ _ SZ.out (fun hHeld => ?_)
    clear hK K
    refine wpAnyH_done (by kernel_rfl) ?_ _
    clear hHeld
    go_wp2
    go_ret
    exact ⟨rfl, KZ.out⟩
  · go_simp
    first | refine hK.out _ _ SD.out (fun hHeld => ?_)
    clear hK K
    refine wpAnyH_ready (rs := [13]) (by kernel_rfl) (by simp) ?_
    refine AllReadyH.cons rfl (fun K hK => ?_) (AllReadyH.nil)
    go_simp
    first | refine hK.out _ _ SD.out (fun hHeld => ?_)
    clear hK K
    refine wpAnyH_ready (rs := [21]) (by kernel_rfl) (by simp) ?_
    refine AllReadyH.cons rfl (fun K hK => ?_) (AllReadyH.nil)
    go_simp
    go_at_call 69
    refine (BX.out _).mono ?_
    rintro ea wa ⟨rfl, hwa⟩
    have hwb := hwa.symm
    subst hwb
    go_wp2_with fail
    first | refine hK.out _ _ SD.out (fun hHeld => ?_)
    clear hK K
    refine wpAnyH_take (i := 24) (v := (.pointer (some ⟨L.b, 6 + r, none⟩))) rfl (by kernel_rfl) (by kernel_rfl) (by kernel_rfl) (fun _ _ _ h => h) (Or.inl ⟨by rfl, ?_⟩) hHeld ?_
    · (intro w hSw; obtain ⟨q1, q2, q3, q4, q5⟩ := hSw; go_simp)
    walk_nrm
    refine wpAnyH_ready (rs := [25]) (by kernel_rfl) (by simp) ?_
    refine AllReadyH.cons rfl (fun K hK => ?_) (AllReadyH.nil)
    go_simp
    first | refine hK.out _ _ SZ.out (fun hHeld => ?_)
    clear hK K
    refine wpAnyH_done (by kernel_rfl) ?_ _
    clear hHeld
    go_wp2
    go_ret
    exact ⟨rfl, KZ.out⟩
set_option maxHeartbeats 8000000 in
set_option maxRecDepth 100000 in
theorem put_any (h : PAt w0 L code ui ci vo w s g k) (op a b n : Int) (r : Nat) (hr : r < 16) (hout : s.out.length ≤ 1000000) :
    Calls Tryd.prog 61 #[.pointer (some ⟨L.b, 0, none⟩), .agg #[.int .i64 op, .int .i64 r, .int .i64 a, .int .i64 b, .int .i64 n]] w fun en w' => en = .returned .nilIface ∧ ∃ vo', PAt w0 L code ui ci vo' w' { s with out := s.out ++ [g.getD r 0] } g k := by
  have AL : Hid (∀ (x : World) o, Below x.heap.size x (x.alloc o)) := fun x o => (Below.refl _ _).alloc (Nat.le_refl _) o
  have H := hideP (h.stays (AL.out _ (WBox op r a b n)))
  have hb0 := h.lt
  have hr2 : (r : Int) < 16 := by omega
  have B0 : Hid ((w.alloc (WBox op r a b n)).heap[w.heap.size]? = some (WBox op r a b n)) := by show (w.heap.push _)[w.heap.size]? = _; exact Array.getElem?_push_size
  have cr := H.out.rg r hr
  obtain ⟨z, hz⟩ : ∃ z, g.getD r 0 = z := ⟨_, rfl⟩
  rw [hz] at cr ⊢
  unfold WBox at *
  clear h hz
  go_enter Tryd.func61, Tryd.ntmps61
  go_upto_region 1 with fail
  obtain ⟨W, hW⟩ : ∃ W, w.alloc (.cells #[.int .i64 op, .int .i64 r, .int .i64 a, .int .i64 b, .int .i64 n] 73) = W := ⟨_, rfl⟩
  rw [hW] at H B0 cr ⊢
  clear hW
  have x1 := (cells_of B0.out).1 1
  simp at x1
  have lwx : w.heap.size < W.heap.size := (Array.getElem?_eq_some_iff.1 B0.out).1
  have al2 := (Below.refl W.heap.size W).drew.alloc (Nat.le_refl _) (.cells #[.int .i64 z] 3)
  have hN : (W.drew.alloc (.cells #[.int .i64 z] 3)).heap[W.heap.size]? = some (.cells #[.int .i64 z] 3 (0, 0)) := by show (W.drew.heap.push _)[W.drew.heap.size]? = _; exact Array.getElem?_push_size
  have H2o := hideP (H.out.stays al2)
  have H2 := hideP H2o.out.out
  have bx7 := H.out.cells.2.2.2.2.1
  have SD : Hid (SO w.heap.size r W.drew) := ⟨x1, trivial⟩
  have SA : Hid (SO w.heap.size r (W.drew.alloc (.cells #[.int .i64 z] 3))) := ⟨(al2.cell (p := ⟨w.heap.size, 1, none⟩) lwx).trans x1, trivial⟩
  have lwA : w.heap.size < (W.drew.alloc (.cells #[.int .i64 z] 3)).heap.size := Nat.lt_of_lt_of_le lwx al2.size
  have XA := (al2.block _ lwx).trans B0.out
  obtain ⟨WA, hWA⟩ : ∃ Y, W.drew.alloc (.cells #[.int .i64 z] 3) = Y := ⟨_, rfl⟩
  rw [hWA] at H2 H2o SA hN lwA XA
  have cN := ((cells_of hN).1 0).trans rfl
  have nwb2 : w.heap.size ≠ L.b := by omega
  have nwO : w.heap.size < WA.heap.size ∧ vo.ownBlock ≠ some w.heap.size := ⟨lwA, fun e => by obtain ⟨cur, h2⟩ := H2.out.block e; exact typ_ne2 h2 XA (by decide) rfl⟩
  have bx7A := H2o.out.cells.2.2.2.2.1
  have ho : s.out.length + 1 ≤ 8000000 := by omega
  have hDA : w0.heap.size ≤ WA.heap.size := H2o.out.low
  have lbn : L.b < W.heap.size + 1 := by omega
  clear al2 hN XA AL B0 x1
  refine wp_region_held_drew (S := SO w.heap.size r) (by kernel_rfl) SD.out (fun hHeld => ?_)
  refine wpAnyH_take (i := 0) (v := (.pointer (some ⟨L.b, 0, none⟩))) rfl (by kernel_rfl) (by kernel_rfl) (by kernel_rfl) (fun _ _ _ h => h) (Or.inl ⟨by rfl, ?_⟩) hHeld ?_
  · (intro w hSw; obtain ⟨q1, q2⟩ := hSw; go_simp)
  walk_nrm
  refine wpAnyH_take (i := 1) (v := (.pointer (some ⟨L.b, 0, none⟩))) rfl (by kernel_rfl) (by kernel_rfl) (by kernel_rfl) (fun _ _ _ h => h) (Or.inl ⟨by rfl, ?_⟩) hHeld ?_
  · (intro w hSw; obtain ⟨q1, q2⟩ := hSw; go_simp)
  walk_nrm
  refine wpAnyH_take (i := 2) (v := (.pointer (some ⟨L.b, 0, none⟩))) rfl (by kernel_rfl) (by kernel_rfl) (by kernel_rfl) (fun _ _ _ h => h) (Or.inl ⟨by rfl, ?_⟩) hHeld ?_
  · (intro w hSw; obtain ⟨q1, q2⟩ := hSw; go_simp)
  walk_nrm
  refine wpAnyH_take (i := 3) (v := (.pointer (some ⟨L.b, 0, none⟩))) rfl (by kernel_rfl) (by kernel_rfl) (by kernel_rfl) (fun _ _ _ h => h) (Or.inl ⟨by rfl, ?_⟩) hHeld ?_
  · (intro w hSw; obtain ⟨q1, q2⟩ := hSw; go_simp)
  walk_nrm
  refine wpAnyH_take (i := 4) (v := (.pointer (some ⟨L.b, 4, none⟩))) rfl (by kernel_rfl) (by kernel_rfl) (by kernel_rfl) (fun _ _ _ h => h) (Or.inl ⟨by rfl, ?_⟩) hHeld ?_
  · (intro w hSw; obtain ⟨q1, q2⟩ := hSw; go_simp)
  walk_nrm
  refine wpAnyH_take (i := 6) (v := (.pointer (some ⟨L.b, 0, none⟩))) rfl (by kernel_rfl) (by kernel_rfl) (by kernel_rfl) (fun _ _ _ h => h) (Or.inl ⟨by rfl, ?_⟩) hHeld ?_
  · (intro w hSw; obtain ⟨q1, q2⟩ := hSw; go_simp)
  walk_nrm
  refine wpAnyH_take (i := 7) (v := (.pointer (some ⟨w.heap.size, 1, none⟩))) rfl (by kernel_rfl) (by kernel_rfl) (by kernel_rfl) (fun _ _ _ h => h) (Or.inl ⟨by rfl, ?_⟩) hHeld ?_
  · (intro w hSw; obtain ⟨q1, q2⟩ := hSw; go_simp)
  walk_nrm
  refine wpAnyH_take (i := 8) (v := (.int .i64 (r : Int))) rfl (by kernel_rfl) (by kernel_rfl) (by kernel_rfl) (fun _ _ _ h => h) (Or.inl ⟨by rfl, ?_⟩) hHeld ?_
  · (intro w hSw; obtain ⟨q1, q2⟩ := hSw; go_simp)
  walk_nrm
  refine wpAnyH_take (i := 9) (v := (.pointer (some ⟨L.b, 0, none⟩))) rfl (by kernel_rfl) (by kernel_rfl) (by kernel_rfl) (fun _ _ _ h => h) (Or.inl ⟨by rfl, ?_⟩) hHeld ?_
  · (intro w hSw; obtain ⟨q1, q2⟩ := hSw; go_simp)
  walk_nrm
  refine wpAnyH_take (i := 10) (v := (.pointer (some ⟨L.b, 6, none⟩))) rfl (by kernel_rfl) (by kernel_rfl) (by kernel_rfl) (fun _ _ _ h => h) (Or.inl ⟨by rfl, ?_⟩) hHeld ?_
  · (intro w hSw; obtain ⟨q1, q2⟩ := hSw; go_simp)
  walk_nrm
  refine wpAnyH_take (i := 11) (v := (.pointer (some ⟨L.b, 6 + r, none⟩))) rfl (by kernel_rfl) (by kernel_rfl) (by kernel_rfl) (fun _ _ _ h => h) (Or.inl ⟨by rfl, ?_⟩) hHeld ?_
  · (intro w hSw; obtain ⟨q1, q2⟩ := hSw; go_simp)
  walk_nrm
  refine wpAnyH_ready (rs := [5, 12]) (by kernel_rfl) (by simp) ?_
  refine AllReadyH.cons rfl (fun K hK => ?_) (AllReadyH.cons rfl (fun K hK => ?_) (AllReadyH.nil))
  · go_simp
    first | refine hK.out _ _ SD.out (fun hHeld => ?_) | refine hK.out _ _ SA.out (fun hHeld => ?_)
    clear hK K
    refine wpAnyH_ready (rs := [12]) (by kernel_rfl) (by simp) ?_
    refine AllReadyH.cons rfl (fun K hK => ?_) (AllReadyH.nil)
    go_simp
    first | refine hK.out _ _ SD.out (fun hHeld => ?_)
    clear hK K
    refine wpAnyH_ready (rs := [13]) (by kernel_rfl) (by simp) ?_
    refine AllReadyH.cons rfl (fun K hK => ?_) (AllReadyH.nil)
    go_simp
    first | refine hK.out _ _ SA.out (fun hHeld => ?_)
    clear hK K
    refine wpAnyH_ready (rs := [14]) (by kernel_rfl) (by simp) ?_
    refine AllReadyH.cons rfl (fun K hK => ?_) (AllReadyH.nil)
    refine step_appL _ rfl _ _ rfl w0.heap.size _ s.out z W.heap.size 0 1 rfl rfl H2.out cN ho hDA ?_
    intro v6 w6 o6 g6 l6
    obtain ⟨u6, n6, c6, rfl⟩ := o6.shape
    obtain ⟨K1, f7, f7z⟩ := H2o.out.setOut g6 o6 l6
    have K2 := hideP K1
    have S6 := hideP (so_keep SA.out g6 nwO)
    have SZ := hideP (so_set S6.out nwb2 (Nat.lt_of_lt_of_le lwA g6.size) (.slice u6 n6 c6))
    clear K1 o6 l6
    go_wp2_with fail
    first | refine hK.out _ _ S6.out (fun hHeld => ?_)
    clear hK K
    refine wpAnyH_take (i := 15) (v := (.pointer (some ⟨L.b, 0, none⟩))) rfl (by kernel_rfl) (by kernel_rfl) (by kernel_rfl) (fun _ _ _ h => h) (Or.inl ⟨by rfl, ?_⟩) hHeld ?_
    · (intro w hSw; obtain ⟨q1, q2⟩ := hSw; go_simp)
    walk_nrm
    refine wpAnyH_take (i := 16) (v := (.pointer (some ⟨L.b, 0, none⟩))) rfl (by kernel_rfl) (by kernel_rfl) (by kernel_rfl) (fun _ _ _ h => h) (Or.inl ⟨by rfl, ?_⟩) hHeld ?_
    · (intro w hSw; obtain ⟨q1, q2⟩ := hSw; go_simp)
    walk_nrm
    refine wpAnyH_take (i := 17) (v := (.pointer (some ⟨L.b, 4, none⟩))) rfl (by kernel_rfl) (by kernel_rfl) (by kernel_rfl) (fun _ _ _ h => h) (Or.inl ⟨by rfl, ?_⟩) hHeld ?_
    · (intro w hSw; obtain ⟨q1, q2⟩ := hSw; go_simp)
    walk_nrm
    refine wpAnyH_ready (rs := [18]) (by kernel_rfl) (by simp) ?_
    refine AllReadyH.cons rfl (fun K hK => ?_) (AllReadyH.nil)
    go_simp
    first | refine hK.out _ _ SZ.out (fun hHeld => ?_)
    clear hK K
    refine wpAnyH_done (by kernel_rfl) ?_ _
    clear hHeld
    go_wp2
    go_ret
    exact ⟨rfl, _, K2.out⟩
  · go_simp
    first | refine hK.out _ _ SD.out (fun hHeld => ?_)
    clear hK K
    refine wpAnyH_ready (rs := [5, 13]) (by kernel_rfl) (by simp) ?_
    refine AllReadyH.cons rfl (fun K hK => ?_) (AllReadyH.cons rfl (fun K hK => ?_) (AllReadyH.nil))
    · go_simp
      first | refine hK.out _ _ SD.out (fun hHeld => ?_) | refine hK.out _ _ SA.out (fun hHeld => ?_)
      clear hK K
      refine wpAnyH_ready (rs := [13]) (by kernel_rfl) (by simp) ?_
      refine AllReadyH.cons rfl (fun K hK => ?_) (AllReadyH.nil)
      go_simp
      first | refine hK.out _ _ SA.out (fun hHeld => ?_)
      clear hK K
      refine wpAnyH_ready (rs := [14]) (by kernel_rfl) (by simp) ?_
      refine AllReadyH.cons rfl (fun K hK => ?_) (AllReadyH.nil)
      refine step_appL _ rfl _ _ rfl w0.heap.size _ s.out z W.heap.size 0 1 rfl rfl H2.out cN ho hDA ?_
      intro v6 w6 o6 g6 l6
      obtain ⟨u6, n6, c6, rfl⟩ := o6.shape
      obtain ⟨K1, f7, f7z⟩ := H2o.out.setOut g6 o6 l6
      have K2 := hideP K1
      have S6 := hideP (so_keep SA.out g6 nwO)
      have SZ := hideP (so_set S6.out nwb2 (Nat.lt_of_lt_of_le lwA g6.size) (.slice u6 n6 c6))
      clear K1 o6 l6
      go_wp2_with fail
      first | refine hK.out _ _ S6.out (fun hHeld => ?_)
      clear hK K
      refine wpAnyH_take (i := 15) (v := (.pointer (some ⟨L.b, 0, none⟩))) rfl (by kernel_rfl) (by kernel_rfl) (by kernel_rfl) (fun _ _ _ h => h) (Or.inl ⟨by rfl, ?_⟩) hHeld ?_
      · (intro w hSw; obtain ⟨q1, q2⟩ := hSw; go_simp)
      walk_nrm
      refine wpAnyH_take (i := 16) (v := (.pointer (some ⟨L.b, 0, none⟩))) rfl (by kernel_rfl) (by kernel_rfl) (by kernel_rfl) (fun _ _ _ h => h) (Or.inl ⟨by rfl, ?_⟩) hHeld ?_
      · (intro w hSw; obtain ⟨q1, q2⟩ := hSw; go_simp)
      walk_nrm
      refine wpAnyH_take (i := 17) (v := (.pointer (some ⟨L.b, 4, none⟩))) rfl (by kernel_rfl) (by kernel_rfl) (by kernel_rfl) (fun _ _ _ h => h) (Or.inl ⟨by rfl, ?_⟩) hHeld ?_
      · (intro w hSw; obtain ⟨q1, q2⟩ := hSw; go_simp)
      walk_nrm
      refine wpAnyH_ready (rs := [18]) (by kernel_rfl) (by simp) ?_
      refine AllReadyH.cons rfl (fun K hK => ?_) (AllReadyH.nil)
      go_simp
      first | refine hK.out _ _ SZ.out (fun hHeld => ?_)
      clear hK K
      refine wpAnyH_done (by kernel_rfl) ?_ _
      clear hHeld
      go_wp2
      go_ret
      exact ⟨rfl, _, K2.out⟩
    · go_simp
      first | refine hK.out _ _ SA.out (fun hHeld => ?_)
      clear hK K
      refine wpAnyH_ready (rs := [5]) (by kernel_rfl) (by simp) ?_
      refine AllReadyH.cons rfl (fun K hK => ?_) (AllReadyH.nil)
      go_simp
      first | refine hK.out _ _ SD.out (fun hHeld => ?_) | refine hK.out _ _ SA.out (fun hHeld => ?_)
      clear hK K
      refine wpAnyH_ready (rs := [14]) (by kernel_rfl) (by simp) ?_
      refine AllReadyH.cons rfl (fun K hK => ?_) (AllReadyH.nil)
      refine step_appL _ rfl _ _ rfl w0.heap.size _ s.out z W.heap.size 0 1 rfl rfl H2.out cN ho hDA ?_
      intro v6 w6 o6 g6 l6
      obtain ⟨u6, n6, c6, rfl⟩ := o6.shape
      obtain ⟨K1, f7, f7z⟩ := H2o.out.setOut g6 o6 l6
      have K2 := hideP K1
      have S6 := hideP (so_keep SA.out g6 nwO)
      have SZ := hideP (so_set S6.out nwb2 (Nat.lt_of_lt_of_le lwA g6.size) (.slice u6 n6 c6))
      clear K1 o6 l6
      go_wp2_with fail
      first | refine hK.out _ _ S6.out (fun hHeld => ?_)
      clear hK K
      refine wpAnyH_take (i := 15) (v := (.pointer (some ⟨L.b, 0, none⟩))) rfl (by kernel_rfl) (by kernel_rfl) (by kernel_rfl) (fun _ _ _ h => h) (Or.inl ⟨by rfl, ?_⟩) hHeld ?_
      · (intro w hSw; obtain ⟨q1, q2⟩ := hSw; go_simp)
      walk_nrm
      refine wpAnyH_take (i := 16) (v := (.pointer (some ⟨L.b, 0, none⟩))) rfl (by kernel_rfl) (by kernel_rfl) (by kernel_rfl) (fun _ _ _ h => h) (Or.inl ⟨by rfl, ?_⟩) hHeld ?_
      · (intro w hSw; obtain ⟨q1, q2⟩ := hSw; go_simp)
      walk_nrm
      refine wpAnyH_take (i := 17) (v := (.pointer (some ⟨L.b, 4, none⟩))) rfl (by kernel_rfl) (by kernel_rfl) (by kernel_rfl) (fun _ _ _ h => h) (Or.inl ⟨by rfl, ?_⟩) hHeld ?_
      · (intro w hSw; obtain ⟨q1, q2⟩ := hSw; go_simp)
      walk_nrm
      refine wpAnyH_ready (rs := [18]) (by kernel_rfl) (by simp) ?_
      refine AllReadyH.cons rfl (fun K hK => ?_) (AllReadyH.nil)
      go_simp
      first | refine hK.out _ _ SZ.out (fun hHeld => ?_)
      clear hK K
      refine wpAnyH_done (by kernel_rfl) ?_ _
      clear hHeld
      go_wp2
      go_ret
      exact ⟨rfl, _, K2.out⟩
end
end Go.Proofs.YtpkfbabgcinhhaaDoor
