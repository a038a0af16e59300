/- The laws' marks on a row of blocks are found again. -/
import Derived.Test.YtobpcfelgobedabMksC
import Derived.Test.YtobpcfelgobedabGraphD
namespace Go.Proofs.Ytobpcfelgobedab
open Go.ChangeShapes Go.WideShapes Go.ChangeAt Go.RowKit
/-- The cells of L hold the marks from k on. -/
def HereIs (w : World) (L : List Cel) (k : Nat) : Prop := ∀ i (h : i < L.length), w.cell? ⟨L[i].1, L[i].2.1, none⟩ = some (mkV (k + i) L[i].2.2)
theorem HereIs.left {w : World} {A B : List Cel} {k : Nat} (h : HereIs w (A ++ B) k) : HereIs w A k := fun i hi => by
  have := h i (by rw [List.length_append]; omega)
  rwa [List.getElem_append_left hi] at this
theorem HereIs.right {w : World} {A B : List Cel} {k : Nat} (h : HereIs w (A ++ B) k) : HereIs w B (k + A.length) := fun i hi => by
  have := h (A.length + i) (by rw [List.length_append]; omega)
  rw [List.getElem_append_right (by omega)] at this
  simp only [Nat.add_sub_cancel_left] at this
  rw [Nat.add_assoc]; exact this
theorem HereIs.stays {w w' : World} {L : List Cel} {k : Nat} (h : HereIs w L k) (bel : Below w.heap.size w w') : HereIs w' L k := fun i hi =>
  (bel.cell (p := ⟨L[i].1, L[i].2.1, none⟩) (World.block_lt_of_cell? w _ (h i hi))).trans (h i hi)
theorem celL_len (b : Nat) : ∀ (p : Nat) (ts : List Bool), (celL b p ts).length = ts.length
  | _, [] => rfl
  | p, _ :: ts => by rw [celL, List.length_cons, celL_len b (p + 1) ts, List.length_cons]
theorem celL_get (b : Nat) : ∀ (p : Nat) (ts : List Bool) (r : Nat) (h : r < ts.length) (h' : r < (celL b p ts).length), (celL b p ts)[r] = (b, p + r, ts[r])
  | p, t :: ts, 0, _, _ => rfl
  | p, t :: ts, r + 1, h, h' => by
    have := celL_get b (p + 1) ts r (by simpa using h) (by simpa [celL] using h')
    show (celL b (p + 1) ts)[r]'(by simpa [celL] using h') = _
    rw [this]
    simp; omega
theorem HereIs.cel {w : World} {b p k : Nat} {ts : List Bool} (h : HereIs w (celL b p ts) k) (r : Nat) (hr : r < ts.length) : w.cell? ⟨b, p + r, none⟩ = some (mkV (k + r) ts[r]) := by
  have hl : r < (celL b p ts).length := by rw [celL_len]; exact hr
  have := h r hl
  rw [celL_get b p ts r hr hl] at this
  exact this
theorem HereIs.ins {w : World} {b o k : Nat} : ∀ {n : Nat}, HereIs w (insL b o n) k → ∀ i, i < n → HereIs w (ins1 b (o + i * 7)) (k + i * 7)
  | 0, _, i, hi => absurd hi (Nat.not_lt_zero _)
  | n + 1, h, i, hi => by
    rw [insL_succ] at h
    by_cases e : i = n
    · subst e
      have := h.right
      rwa [insL_len] at this
    · exact HereIs.ins h.left i (by omega)
theorem heldInstrS_here (n : Nat) (w : World) (k b o cap : Nat) (hb : b < w.heap.size) (h : HereIs w (insL b o n) k) (hk0 : 0 < k) (hk : k + n * 7 ≤ 100000000) :
    Calls Try.prog 44 #[.slice (some ⟨b, o, none⟩) n cap, .int .i64 k] w fun en w' => en = .returned (.int .i64 ((k + n * 7 : Nat) : Int)) ∧ Below w.heap.size w w' := by
  refine heldInstrS_mks n w k b o cap hb (fun i r hi hr => ?_) (fun i hi => ?_) hk0 hk
  · have h1 := (h.ins i hi).left.cel r (by simpa using hr)
    rw [h1]
    have : ∀ (ts : List Bool), (∀ t ∈ ts, t = false) → ∀ (hr' : r < ts.length), ts[r] = false := fun ts ht hr' => ht _ (List.getElem_mem hr')
    rw [this _ (by simp), mkV_int]
  · have h1 := (h.ins i hi).right 0 (by simp)
    rw [celL_len] at h1
    exact h1
theorem heldCode (w : World) (b o i k : Nat) (cs : List CRow) (h : CodesIs w b o cs) (hi : i < cs.length) (hk0 : 0 < k) (hk : k + cs[i].n * 7 ≤ 100000000) {w1 : World} (bel : Below w.heap.size w w1) (hm : HereIs w1 (insL cs[i].b cs[i].o cs[i].n) k) {ad : Option Addr} {cap : Nat} (had : cs[i].n = 0 ∨ ad = some ⟨cs[i].b, cs[i].o, none⟩) :
    Calls Try.prog 44 #[.slice ad cs[i].n cap, .int .i64 k] w1 fun en w' => en = .returned (.int .i64 ((k + cs[i].n * 7 : Nat) : Int)) ∧ Below w1.heap.size w1 w' := by
  by_cases hn : cs[i].n = 0
  · rw [hn]
    refine (heldInstrS_zero w1 ad cap k).mono ?_
    rintro e w' ⟨rfl, rfl⟩
    exact ⟨by simp, Below.refl _ _⟩
  · have e := had.resolve_left hn
    subst e
    obtain ⟨c, T, hh, hs⟩ := h.row i hi (by omega)
    have := (Array.getElem?_eq_some_iff.1 hh).1
    exact heldInstrS_here cs[i].n w1 k cs[i].b cs[i].o cap (by have := bel.size; omega) hm hk0 hk
theorem HereIs.blk {w : World} {b o k : Nat} {cs : List CRow} (h : HereIs w (blksL b o cs) k) (j : Nat) (hj : j < cs.length) : HereIs w (insL cs[j].b cs[j].o cs[j].n) (k + (blksL b o (cs.take j)).length) ∧ HereIs w (celL b (o + j * 5 + 1) [false, false, false, false]) (k + (blksL b o (cs.take j)).length + cs[j].n * 7) := by
  have hpre : ∃ R, blksL b o cs = blksL b o (cs.take (j + 1)) ++ R := by
    have : ∀ (p : Nat) (A B : List CRow), ∃ R, blksL b p (A ++ B) = blksL b p A ++ R := fun p A B => by
      induction A generalizing p with
      | nil => exact ⟨blksL b p B, rfl⟩
      | cons a A ih =>
        obtain ⟨R, hR⟩ := ih (p + 5)
        exact ⟨R, by rw [List.cons_append, blksL, hR, blksL, List.append_assoc]⟩
    obtain ⟨R, hR⟩ := this o (cs.take (j + 1)) (cs.drop (j + 1))
    rw [List.take_append_drop] at hR
    exact ⟨R, hR⟩
  obtain ⟨R, hR⟩ := hpre
  rw [hR] at h
  have h1 := h.left
  rw [blksL_take hj] at h1
  refine ⟨h1.left.right, ?_⟩
  have h2 := h1.right
  rw [List.length_append, insL_len, ← Nat.add_assoc] at h2
  exact h2
set_option maxHeartbeats 4000000 in
theorem heldBlockS_mks (cs : List CRow) (w : World) (k b o cap : Nat) (hb : b < w.heap.size) (h : CodesIs w b o cs) (here : HereIs w (blksL b o cs) k) (hk0 : 0 < k) (hk : k + (blksL b o cs).length ≤ 100000000) :
    Calls Try.prog 28 #[.slice (some ⟨b, o, none⟩) cs.length cap, .int .i64 k] w fun en w' => en = .returned (.int .i64 ((k + (blksL b o cs).length : Nat) : Int)) ∧ Below w.heap.size w w' := by
  have HC := hideP h
  have HE := hideP here
  clear h here
  obtain ⟨N, hN⟩ : ∃ N, cs.length = N := ⟨_, rfl⟩
  rw [hN]
  have hNb : N ≤ 100000000 := by have := blksL_ge b o cs; omega
  have HN := hideP hN
  have HK := hideP hk
  clear hN hk
  go_enter Try.func28, Try.ntmps28
  go_wp2
  go_loopg [1, 5] N (fun gk q i wr => ∃ j m : Nat, gk + j = N ∧ i = .int .i64 j ∧ q = .int .i64 m ∧ Hid (m = k + (blksL b o (cs.take j)).length) ∧ Hid (Below w.heap.size w wr))
  case atStart => exact ⟨0, k, by simp, rfl, rfl, show _ = _ by simp [blksL], Below.refl _ _⟩
  case round =>
    obtain ⟨j, m, hgk, rfl, rfl, hmk, hbr⟩ := hrel
    by_cases hlt : j < N
    · have hjc : j < cs.length := by rw [HN.out]; exact hlt
      obtain ⟨ad, cp, hc, had⟩ := HC.out.cell j hjc
      have e0 := (hbr.out.cell (p := ⟨b, _, none⟩) hb).trans hc
      obtain ⟨hi1, hi2⟩ := HE.out.blk j hjc
      have hle := blksL_take_le b o cs (j + 1)
      rw [blksL_take hjc, List.length_append, List.length_append, insL_len] at hle
      have hle2 : (celL b (o + j * 5 + 1) [false, false, false, false]).length = 4 := rfl
      have hkk := HK.out
      have hmk' := hmk.out
      rw [← hmk'] at hi1 hi2
      have MC := hideP (heldCode w b o j m cs HC.out hjc (by omega) (by omega) hbr.out (hi1.stays hbr.out) (cap := cp) had)
      obtain ⟨m2, hm2⟩ : ∃ m2, m + cs[j].n * 7 = m2 := ⟨_, rfl⟩
      have hm2b : m2 + 4 ≤ 100000000 := by omega
      have HM3 : Hid (m2 + 4 = k + (blksL b o (cs.take (j + 1))).length) := by
        show _ = _
        rw [blksL_take hjc, List.length_append, List.length_append, insL_len, hle2]; omega
      rw [hm2] at MC hi2
      have d1 := hi2.cel 0 (by simp)
      have d2 := hi2.cel 1 (by simp)
      have d3 := hi2.cel 2 (by simp)
      have d4 := hi2.cel 3 (by simp)
      obtain ⟨nj, hnj⟩ : ∃ nj, cs[j].n = nj := ⟨_, rfl⟩
      simp only [hnj] at e0 MC
      clear hle hle2 hkk hmk' hm2 hc hi1 hi2 hnj
      go_wp2_with fail
      refine MC.out.mono ?_
      rintro y1 w1 ⟨rfl, bel1⟩
      have B1 := hideP (below_trans hbr.out bel1)
      replace d1 := (B1.out.cell (p := ⟨b, _, none⟩) hb).trans d1
      replace d2 := (B1.out.cell (p := ⟨b, _, none⟩) hb).trans d2
      replace d3 := (B1.out.cell (p := ⟨b, _, none⟩) hb).trans d3
      replace d4 := (B1.out.cell (p := ⟨b, _, none⟩) hb).trans d4
      have g1 : w1.cell? ⟨b, o + j * 5 + 1, none⟩ = some (.int .i64 (m2 : Int)) := by simpa [mkV] using d1
      have g2 : w1.cell? ⟨b, o + j * 5 + 2, none⟩ = some (.int .i64 ((m2 : Int) + 1)) := by simpa [mkV, Nat.add_assoc] using d2
      have g3 : w1.cell? ⟨b, o + j * 5 + 3, none⟩ = some (.int .i64 ((m2 : Int) + 1 + 1)) := by have := d3; simp [mkV, Nat.add_assoc] at this; rw [← Nat.add_assoc] at this; rw [this]; congr 2
      have g4 : w1.cell? ⟨b, o + j * 5 + 4, none⟩ = some (.int .i64 ((m2 : Int) + 1 + 1 + 1)) := by have := d4; simp [mkV, Nat.add_assoc] at this; rw [← Nat.add_assoc] at this; rw [this]; congr 2
      clear d1 d2 d3 d4 bel1 e0
      go_wp2
      go_roundg (N - (j + 1))
      case rel => exact ⟨j + 1, m2 + 4, by omega, by go_num, by go_num, HM3.out, B1.out⟩
      case measure => omega
    · have hjn : j = N := by omega
      subst hjn
      go_wp2
      go_ret
      have e1 : cs.take j = cs := by rw [← HN.out]; exact List.take_length
      exact ⟨ret_int (by rw [hmk.out, e1]), hbr.out⟩
end Go.Proofs.Ytobpcfelgobedab

/- The laws' marks on a graph that a call owns: what markGraph writes, and that heldGraph finds it again. -/
namespace Go.Proofs.Ytobpcfelgobedab
open Go.ChangeShapes Go.WideShapes Go.ChangeAt Go.RowKit
/-- How a graph of one's own lies: its sizes, its blocks and the code of each in blocks of their own. -/
structure GOwn (w : World) (v : Array Value) (S : CRow) (b o : Nat) (cs : List CRow) : Prop where
  val : ∃ ads caps p q r adb capb, v = #[.slice ads S.n caps, .int .i64 p, .int .i64 q, .int .i64 r, .slice adb cs.length capb] ∧ (S.n = 0 ∨ ads = some ⟨S.b, S.o, none⟩) ∧ (cs = [] ∨ adb = some ⟨b, o, none⟩)
  srow : 0 < S.n → ∃ c T, w.heap[S.b]? = some (.cells c T (0, 0)) ∧ S.o + S.n ≤ c.size
  brow : cs ≠ [] → ∃ c T, w.heap[b]? = some (.cells c T (0, 0)) ∧ o + cs.length * 5 ≤ c.size
  codes : CodesIs w b o cs
  sb : 0 < S.n → cs ≠ [] → S.b ≠ b
  sc : 0 < S.n → ∀ i (h : i < cs.length), 0 < cs[i].n → S.b ≠ cs[i].b
/-- Its cells that are marked. -/
def grL (S : CRow) (b o : Nat) (cs : List CRow) : List Cel := intL S.b S.o S.n ++ blksL b o cs
theorem markIntS_zero (w : World) (ad : Option Addr) (cap k : Nat) :
    Calls Try.prog 25 #[.slice ad 0 cap, .int .i64 k] w fun en w' => en = .returned (.int .i64 (k : Int)) ∧ w' = w := by
  go_enter Try.func25, Try.ntmps25
  go_wp2
  go_loop [1, 5] (fun q i => i = .int .i64 0 ∧ q = .int .i64 (k : Int)) (fun _ _ => 0)
  case atStart => exact ⟨rfl, rfl⟩
  case round =>
    obtain ⟨rfl, rfl⟩ := hrel
    go_wp2
    go_ret
    exact ⟨rfl, rfl⟩
theorem heldIntS_zero (w : World) (ad : Option Addr) (cap k : Nat) :
    Calls Try.prog 27 #[.slice ad 0 cap, .int .i64 k] w fun en w' => en = .returned (.int .i64 (k : Int)) ∧ w' = w := by
  go_enter Try.func27, Try.ntmps27
  go_wp2
  go_loop [1, 5] (fun q i => i = .int .i64 0 ∧ q = .int .i64 (k : Int)) (fun _ _ => 0)
  case atStart => exact ⟨rfl, rfl⟩
  case round =>
    obtain ⟨rfl, rfl⟩ := hrel
    go_wp2
    go_ret
    exact ⟨rfl, rfl⟩
theorem markBlockS_zero (w : World) (ad : Option Addr) (cap k : Nat) :
    Calls Try.prog 26 #[.slice ad 0 cap, .int .i64 k] w fun en w' => en = .returned (.int .i64 (k : Int)) ∧ w' = w := by
  go_enter Try.func26, Try.ntmps26
  go_wp2
  go_loop [1, 5] (fun q i => i = .int .i64 0 ∧ q = .int .i64 (k : Int)) (fun _ _ => 0)
  case atStart => exact ⟨rfl, rfl⟩
  case round =>
    obtain ⟨rfl, rfl⟩ := hrel
    go_wp2
    go_ret
    exact ⟨rfl, rfl⟩
theorem heldBlockS_zero (w : World) (ad : Option Addr) (cap k : Nat) :
    Calls Try.prog 28 #[.slice ad 0 cap, .int .i64 k] w fun en w' => en = .returned (.int .i64 (k : Int)) ∧ w' = w := by
  go_enter Try.func28, Try.ntmps28
  go_wp2
  go_loop [1, 5] (fun q i => i = .int .i64 0 ∧ q = .int .i64 (k : Int)) (fun _ _ => 0)
  case atStart => exact ⟨rfl, rfl⟩
  case round =>
    obtain ⟨rfl, rfl⟩ := hrel
    go_wp2
    go_ret
    exact ⟨rfl, rfl⟩
theorem CodesIs.keep {w w' : World} {b o : Nat} {cs : List CRow} (h : CodesIs w b o cs) (hc : ∀ i, i < cs.length → w'.cell? ⟨b, o + i * 5, none⟩ = w.cell? ⟨b, o + i * 5, none⟩) (hp : ∀ (b : Nat) (c : Array Value) (T : TypeId), w.heap[b]? = some (.cells c T (0, 0)) → ∃ c' : Array Value, w'.heap[b]? = some (.cells c' T (0, 0)) ∧ c'.size = c.size) : CodesIs w' b o cs where
  cell := fun i hi => by obtain ⟨ad, cap, h1, h2⟩ := h.cell i hi; exact ⟨ad, cap, (hc i hi).trans h1, h2⟩
  row := fun i hi hn => by
    obtain ⟨c, T, h1, h2⟩ := h.row i hi hn
    obtain ⟨c', h3, h4⟩ := hp _ c T h1
    exact ⟨c', T, h3, by omega⟩
  own := h.own
  dis := h.dis
theorem CodesIs.blk_lt {w : World} {b o : Nat} {cs : List CRow} (h : CodesIs w b o cs) (hne : cs ≠ []) : b < w.heap.size := by
  have hl : 0 < cs.length := List.length_pos_iff.2 hne
  obtain ⟨ad, cap, h1, _⟩ := h.cell 0 hl
  exact World.block_lt_of_cell? w _ h1
set_option maxHeartbeats 4000000 in
theorem markGraph_mks (w : World) (k : Nat) (v : Array Value) (S : CRow) (b o : Nat) (cs : List CRow) (h : GOwn w v S b o cs) (hk0 : 0 < k) (hk : k + (grL S b o cs).length ≤ 100000000) :
    Calls Try.prog 9 #[.agg v, .int .i64 k] w fun en w' => en = .returned (.int .i64 ((k + (grL S b o cs).length : Nat) : Int)) ∧ Mks w w' (grL S b o cs) k := by
  obtain ⟨⟨ads, caps, p, q, r, adb, capb, rfl, hs, hb⟩, srow, brow, codes, hsb, hsc⟩ := h
  rw [grL, List.length_append, intL_len] at hk
  have hlen : (grL S b o cs).length = S.n + (blksL b o cs).length := by rw [grL, List.length_append, intL_len]
  have MS : Hid (∀ W, Below w.heap.size w W → Calls Try.prog 25 #[.slice ads S.n caps, .int .i64 k] W fun en w' => en = .returned (.int .i64 ((k + S.n : Nat) : Int)) ∧ Mks W w' (intL S.b S.o S.n) k) := fun W hW => by
    by_cases hn : S.n = 0
    · rw [hn]
      refine (markIntS_zero W ads caps k).mono ?_
      rintro e w' ⟨rfl, rfl⟩
      exact ⟨by simp, by simpa [intL] using Mks.nil _ k⟩
    · have e := hs.resolve_left hn
      subst e
      obtain ⟨c, T, hh, hz⟩ := srow (by omega)
      exact markIntS_mks S.n W k S.b S.o caps c T ((hW.block _ (Array.getElem?_eq_some_iff.1 hh).1).trans hh) (by omega) (by omega)
  have hLs : ∀ c ∈ intL S.b S.o S.n, c.1 < w.heap.size := fun c hc => by
    obtain ⟨b', o', t⟩ := c
    have h1 := intL_mem hc
    obtain ⟨c, T, hh, _⟩ := srow (by omega)
    simp only [h1.1]; exact (Array.getElem?_eq_some_iff.1 hh).1
  have MB : Hid (∀ W, Mks w W (intL S.b S.o S.n) k → Calls Try.prog 26 #[.slice adb cs.length capb, .int .i64 ((k + S.n : Nat) : Int)] W fun en w' => en = .returned (.int .i64 ((k + S.n + (blksL b o cs).length : Nat) : Int)) ∧ Mks W w' (blksL b o cs) (k + S.n)) := fun W hW => by
    by_cases hn : cs = []
    · subst hn
      refine (markBlockS_zero W adb capb (k + S.n)).mono ?_
      rintro e w' ⟨rfl, rfl⟩
      exact ⟨by simp [blksL], by simpa [blksL] using Mks.nil _ _⟩
    · have e := hb.resolve_left hn
      subst e
      obtain ⟨c, T, hh, hz⟩ := brow hn
      obtain ⟨c1, h1, s1⟩ := hW.plain b c T hh
      refine markBlockS_mks cs W (k + S.n) b o capb c1 T h1 (by omega) (codes.keep (fun i hi => hW.off b _ (Array.getElem?_eq_some_iff.1 hh).1 (fun t ht => ?_)) hW.plain) (by omega) (by omega)
      have h2 := intL_mem ht
      exact hsb (by omega) hn h2.1.symm
  have DIS : Hid (∀ b' o' t t', (b', o', t) ∈ intL S.b S.o S.n → (b', o', t') ∉ blksL b o cs) := fun b' o' t t' h1 h2 => by
    have h3 := intL_mem h1
    rcases blksL_mem h2 with ⟨i, hi, h4, h5⟩ | ⟨h4, i, hi, _⟩
    · exact hsc (by omega) i hi h5 (h3.1.symm.trans h4)
    · exact hsb (by omega) (fun e => by rw [e] at hi; simp at hi) (h3.1.symm.trans h4)
  have HLS := hideP hLs
  have HLN := hideP hlen
  obtain ⟨m1, hm1⟩ : ∃ m1, k + S.n = m1 := ⟨_, rfl⟩
  obtain ⟨m2, hm2⟩ : ∃ m2, m1 + (blksL b o cs).length = m2 := ⟨_, rfl⟩
  rw [hm1] at MS MB
  rw [hm2] at MB
  have FIN : Hid (k + (grL S b o cs).length = m2) := by show _ = _; rw [hlen]; omega
  have HM1 := hideP hm1
  obtain ⟨N, hN⟩ : ∃ N, cs.length = N := ⟨_, rfl⟩
  obtain ⟨sn, hsn⟩ : ∃ sn, S.n = sn := ⟨_, rfl⟩
  rw [hN] at MB ⊢
  rw [FIN.out]
  simp only [hsn] at MS ⊢
  clear hlen hLs hs hb srow brow codes hsb hsc hm1 hm2 hk hN
  go_enter Try.func9, Try.ntmps9
  go_wp2_with fail
  refine (MS.out _ ((Below.refl _ _).alloc (Nat.le_refl _) _)).mono ?_
  rintro y1 w1 ⟨rfl, mk1⟩
  have al := (Below.refl w.heap.size w).alloc (Nat.le_refl _) (.cells #[.slice ads sn caps, .int .i64 p, .int .i64 q, .int .i64 r, .slice adb N capb] 29)
  have M1 := ((Mks.nil w k).on al).append mk1 (by simp) (by simp)
  rw [List.nil_append] at M1
  have nb : (w.alloc (.cells #[.slice ads sn caps, .int .i64 p, .int .i64 q, .int .i64 r, .slice adb N capb] 29)).heap[w.heap.size]? = some (.cells #[.slice ads sn caps, .int .i64 p, .int .i64 q, .int .i64 r, .slice adb N capb] 29) := by show (w.heap.push _)[w.heap.size]? = _; exact Array.getElem?_push_size
  have hz : w.heap.size < (w.alloc (.cells #[.slice ads sn caps, .int .i64 p, .int .i64 q, .int .i64 r, .slice adb N capb] 29)).heap.size := by simp
  have p4 : w1.cell? ⟨w.heap.size, 4, none⟩ = some (.slice adb N capb) := by
    rw [mk1.off w.heap.size 4 hz (fun t ht => by
      have h1 := HLS.out (w.heap.size, 4, t) (by rw [hsn]; exact ht)
      exact Nat.lt_irrefl _ h1), (cells_of nb).1]
    rfl
  have HM := hideP M1
  clear mk1 M1 nb hz al
  rw [hsn] at HLS
  go_wp2_with fail
  refine (MB.out _ (by rw [hsn]; exact HM.out)).mono ?_
  rintro y2 w2 ⟨rfl, mk2⟩
  have M2 := hideP (HM.out.append (by rw [intL_len, ← hsn, HM1.out]; exact mk2) HLS.out (by have := DIS.out; rwa [hsn] at this))
  clear mk2 p4
  go_wp2
  go_ret
  exact ⟨rfl, by rw [grL, hsn]; exact M2.out⟩
end Go.Proofs.Ytobpcfelgobedab

/- heldGraph finds again what markGraph has written. -/
namespace Go.Proofs.Ytobpcfelgobedab
open Go.ChangeShapes Go.WideShapes Go.ChangeAt Go.RowKit
theorem GOwn.marked {w w' : World} {v : Array Value} {S : CRow} {b o k : Nat} {cs : List CRow} (h : GOwn w v S b o cs) (hm : Mks w w' (grL S b o cs) k) : GOwn w' v S b o cs where
  val := h.val
  srow := fun hn => by
    obtain ⟨c, T, h1, h2⟩ := h.srow hn
    obtain ⟨c', h3, h4⟩ := hm.plain _ c T h1
    exact ⟨c', T, h3, by omega⟩
  brow := fun hn => by
    obtain ⟨c, T, h1, h2⟩ := h.brow hn
    obtain ⟨c', h3, h4⟩ := hm.plain _ c T h1
    exact ⟨c', T, h3, by omega⟩
  codes := h.codes.keep (fun i hi => hm.off b _ (h.codes.blk_lt (fun e => by rw [e] at hi; simp at hi)) (fun t ht => by
    have hne : cs ≠ [] := fun e => by rw [e] at hi; simp at hi
    rcases List.mem_append.1 ht with ht | ht
    · have h1 := intL_mem ht
      exact h.sb (by omega) hne h1.1.symm
    · rcases blksL_mem ht with ⟨j, hj, h1, h2⟩ | ⟨_, j, hj, h2, h3⟩
      · exact h.codes.own j hj h2 h1.symm
      · omega)) hm.plain
  sb := h.sb
  sc := h.sc
theorem GOwn.stays {w w' : World} {v : Array Value} {S : CRow} {b o : Nat} {cs : List CRow} (h : GOwn w v S b o cs) (bel : Below w.heap.size w w') : GOwn w' v S b o cs where
  val := h.val
  srow := fun hn => by
    obtain ⟨c, T, h1, h2⟩ := h.srow hn
    exact ⟨c, T, (bel.block _ (Array.getElem?_eq_some_iff.1 h1).1).trans h1, h2⟩
  brow := fun hn => by
    obtain ⟨c, T, h1, h2⟩ := h.brow hn
    exact ⟨c, T, (bel.block _ (Array.getElem?_eq_some_iff.1 h1).1).trans h1, h2⟩
  codes := h.codes.keep (fun i hi => bel.cell (p := ⟨b, _, none⟩) (h.codes.blk_lt (fun e => by rw [e] at hi; simp at hi))) (fun b' c T hh => ⟨c, (bel.block _ (Array.getElem?_eq_some_iff.1 hh).1).trans hh, rfl⟩)
  sb := h.sb
  sc := h.sc
theorem HereIs.int {w : World} {b o n k : Nat} (h : HereIs w (intL b o n) k) (i : Nat) (hi : i < n) : w.cell? ⟨b, o + i, none⟩ = some (.int .i64 ((k + i : Nat) : Int)) := by
  have hl : i < (intL b o n).length := by rw [intL_len]; exact hi
  have h1 := h i hl
  have e : (intL b o n)[i] = (b, o + i, false) := by simp [intL]
  rw [e] at h1
  exact h1
set_option maxHeartbeats 4000000 in
theorem heldGraph_mks (w : World) (k : Nat) (v : Array Value) (S : CRow) (b o : Nat) (cs : List CRow) (h : GOwn w v S b o cs) (here : HereIs w (grL S b o cs) k) (hk0 : 0 < k) (hk : k + (grL S b o cs).length ≤ 100000000) :
    Calls Try.prog 10 #[.agg v, .int .i64 k] w fun en w' => en = .returned (.int .i64 ((k + (grL S b o cs).length : Nat) : Int)) ∧ Below w.heap.size w w' := by
  have hown := h
  obtain ⟨⟨ads, caps, p, q, r, adb, capb, rfl, hs, hb⟩, srow, brow, codes, hsb, hsc⟩ := h
  rw [grL, List.length_append, intL_len] at hk
  have hlen : (grL S b o cs).length = S.n + (blksL b o cs).length := by rw [grL, List.length_append, intL_len]
  have he1 : HereIs w (intL S.b S.o S.n) k := HereIs.left here
  have he2 : HereIs w (blksL b o cs) (k + S.n) := by have := HereIs.right here; rwa [intL_len] at this
  have MS : Hid (∀ W, Below w.heap.size w W → Calls Try.prog 27 #[.slice ads S.n caps, .int .i64 k] W fun en w' => en = .returned (.int .i64 ((k + S.n : Nat) : Int)) ∧ w' = W) := fun W hW => by
    by_cases hn : S.n = 0
    · rw [hn]
      refine (heldIntS_zero W ads caps k).mono ?_
      rintro e w' ⟨rfl, rfl⟩
      exact ⟨by simp, rfl⟩
    · have e := hs.resolve_left hn
      subst e
      exact heldIntS_mks S.n W k S.b S.o caps (fun i hi => (he1.stays hW).int i hi) (by omega)
  have MB : Hid (∀ W, Below w.heap.size w W → Calls Try.prog 28 #[.slice adb cs.length capb, .int .i64 ((k + S.n : Nat) : Int)] W fun en w' => en = .returned (.int .i64 ((k + S.n + (blksL b o cs).length : Nat) : Int)) ∧ Below W.heap.size W w') := fun W hW => by
    by_cases hn : cs = []
    · subst hn
      refine (heldBlockS_zero W adb capb (k + S.n)).mono ?_
      rintro e w' ⟨rfl, rfl⟩
      exact ⟨by simp [blksL], Below.refl _ _⟩
    · have e := hb.resolve_left hn
      subst e
      exact heldBlockS_mks cs W (k + S.n) b o capb (Nat.lt_of_lt_of_le (codes.blk_lt hn) hW.size) (hown.stays hW).codes (he2.stays hW) (by omega) (by omega)
  obtain ⟨m1, hm1⟩ : ∃ m1, k + S.n = m1 := ⟨_, rfl⟩
  obtain ⟨m2, hm2⟩ : ∃ m2, m1 + (blksL b o cs).length = m2 := ⟨_, rfl⟩
  rw [hm1] at MS MB
  rw [hm2] at MB
  have FIN : Hid (k + (grL S b o cs).length = m2) := by show _ = _; rw [hlen]; omega
  obtain ⟨N, hN⟩ : ∃ N, cs.length = N := ⟨_, rfl⟩
  obtain ⟨sn, hsn⟩ : ∃ sn, S.n = sn := ⟨_, rfl⟩
  rw [hN] at MB ⊢
  rw [FIN.out]
  simp only [hsn] at MS ⊢
  have n1 : ¬ ((m1 : Nat) : Int) < 0 := by omega
  have n2 : ¬ ((m2 : Nat) : Int) < 0 := by omega
  have nb : (w.alloc (.cells #[.slice ads sn caps, .int .i64 p, .int .i64 q, .int .i64 r, .slice adb N capb] 29)).heap[w.heap.size]? = some (.cells #[.slice ads sn caps, .int .i64 p, .int .i64 q, .int .i64 r, .slice adb N capb] 29) := by show (w.heap.push _)[w.heap.size]? = _; exact Array.getElem?_push_size
  have p4 := (cells_of nb).1 4
  simp at p4
  clear hlen hs hb srow brow codes hsb hsc hm1 hm2 hk hN hown he1 he2 nb here
  go_enter Try.func10, Try.ntmps10
  go_wp2_with fail
  refine (MS.out _ ((Below.refl _ _).alloc (Nat.le_refl _) _)).mono ?_
  rintro y1 w1 ⟨rfl, hw⟩
  have hw1 := hw.symm
  subst hw1
  clear hw
  go_wp2_with fail
  refine (MB.out _ ((Below.refl _ _).alloc (Nat.le_refl _) _)).mono ?_
  rintro y2 w2 ⟨rfl, bel2⟩
  have HB := hideP (below_new bel2)
  clear bel2 p4
  go_wp2
  go_ret
  exact ⟨rfl, HB.out⟩
end Go.Proofs.Ytobpcfelgobedab

/- A graph that lies in blocks from B on outlives what happens below. -/
namespace Go.Proofs.Ytobpcfelgobedab
open Go.ChangeShapes Go.WideShapes Go.ChangeAt Go.RowKit
theorem RowAt.above {w w' : World} {B : Nat} {a : Option Addr} {n sz : Nat} {vs : Nat → Array Value} (h : RowAt w B a n sz vs) (hz : w.heap.size ≤ w'.heap.size) (hk : ∀ k, B ≤ k → k < w.heap.size → w'.heap[k]? = w.heap[k]?) : RowAt w' B a n sz vs := by
  rcases h with h | ⟨b, o, ha, hB, hb, hp, hc⟩
  · exact Or.inl h
  · exact Or.inr ⟨b, o, ha, hB, Nat.lt_of_lt_of_le hb hz, fun h0 => let ⟨cs, T, h⟩ := hp h0; ⟨cs, T, (hk b hB hb).trans h⟩, fun i hi => ⟨(hc i hi).1, fun j hj => (World.cell?_of_block (a := ⟨b, o + i * sz + j, none⟩) (hk b hB hb)).trans ((hc i hi).2 j hj)⟩⟩
theorem IntsIs.above {w w' : World} {B : Nat} {a : Option Addr} {zs : List Int} (h : IntsIs w B a zs) (hz : w.heap.size ≤ w'.heap.size) (hk : ∀ k, B ≤ k → k < w.heap.size → w'.heap[k]? = w.heap[k]?) : IntsIs w' B a zs := by
  obtain ⟨hl, h | ⟨b, o, ha, hB, hb, hp, hc⟩⟩ := h
  · exact ⟨hl, Or.inl h⟩
  · exact ⟨hl, Or.inr ⟨b, o, ha, hB, Nat.lt_of_lt_of_le hb hz, fun h0 => let ⟨cs, T, h⟩ := hp h0; ⟨cs, T, (hk b hB hb).trans h⟩, fun i hi => (World.cell?_of_block (a := ⟨b, o + i, none⟩) (hk b hB hb)).trans (hc i hi)⟩⟩
theorem BlkIs.above {w w' : World} {B : Nat} {v : Array Value} {x : Blk} (h : BlkIs w B v x) (hz : w.heap.size ≤ w'.heap.size) (hk : ∀ k, B ≤ k → k < w.heap.size → w'.heap[k]? = w.heap[k]?) : BlkIs w' B v x := by
  obtain ⟨u, c, e, ok, hl, vs, hr, hx⟩ := h
  exact ⟨u, c, e, ok, hl, vs, hr.above hz hk, hx⟩
theorem GrIs.above {w w' : World} {B : Nat} {v : Array Value} {x : Gr} (h : GrIs w B v x) (hz : w.heap.size ≤ w'.heap.size) (hk : ∀ k, B ≤ k → k < w.heap.size → w'.heap[k]? = w.heap[k]?) : GrIs w' B v x := by
  obtain ⟨u, c, ub, cb, e, ok, hs, hl, vs, hr, hx⟩ := h
  exact ⟨u, c, ub, cb, e, ok, hs.above hz hk, hl, vs, hr.above hz hk, fun i hi => (hx i hi).above hz hk⟩
theorem GOwn.mem {w : World} {v : Array Value} {S : CRow} {b o : Nat} {cs : List CRow} (_h : GOwn w v S b o cs) : (0 < S.n → (S.b, S.o, false) ∈ grL S b o cs) ∧ (cs ≠ [] → ∃ p, (b, p, false) ∈ grL S b o cs) ∧ ∀ i (h : i < cs.length), 0 < cs[i].n → ∃ p t, (cs[i].b, p, t) ∈ grL S b o cs := by
  have hi : ∀ (p : Nat) (l : List CRow) i (h : i < l.length), (∃ q, (b, q, false) ∈ blksL b p l) ∧ (0 < l[i].n → ∃ q t, (l[i].b, q, t) ∈ blksL b p l) := fun p l => by
    induction l generalizing p with
    | nil => intro i h; simp at h
    | cons c l ih =>
      intro i h
      have h1 : (b, p + 1, false) ∈ blksL b p (c :: l) := List.mem_append_left _ (List.mem_append_right _ (by simp [celL]))
      refine ⟨⟨_, h1⟩, fun hn => ?_⟩
      cases i with
      | zero =>
        simp only [List.getElem_cons_zero] at hn ⊢
        refine ⟨c.o, false, List.mem_append_left _ (List.mem_append_left _ ?_)⟩
        rw [insL, List.mem_flatMap]
        exact ⟨0, by simpa using hn, by simp [ins1, celL]⟩
      | succ i =>
        simp only [List.getElem_cons_succ] at hn ⊢
        obtain ⟨q, t, hq⟩ := (ih (p + 5) i (by simpa using h)).2 hn
        exact ⟨q, t, List.mem_append_right _ hq⟩
  refine ⟨fun hn => List.mem_append_left _ ?_, fun hne => ?_, fun i h hn => ?_⟩
  · simp only [intL, List.mem_map, List.mem_range]
    exact ⟨0, hn, by simp⟩
  · obtain ⟨q, hq⟩ := (hi o cs 0 (List.length_pos_iff.2 hne)).1
    exact ⟨q, List.mem_append_right _ hq⟩
  · obtain ⟨q, t, hq⟩ := (hi o cs i h).2 hn
    exact ⟨q, t, List.mem_append_right _ hq⟩
theorem GOwn.above {w w' : World} {v : Array Value} {S : CRow} {b o B : Nat} {cs : List CRow} (h : GOwn w v S b o cs) (low : ∀ c ∈ grL S b o cs, B ≤ c.1) (hk : ∀ k, B ≤ k → k < w.heap.size → w'.heap[k]? = w.heap[k]?) : GOwn w' v S b o cs := by
  obtain ⟨m1, m2, m3⟩ := h.mem
  refine ⟨h.val, fun hn => ?_, fun hn => ?_, ⟨fun i hi => ?_, fun i hi hn => ?_, h.codes.own, h.codes.dis⟩, h.sb, h.sc⟩
  · obtain ⟨c, T, h1, h2⟩ := h.srow hn
    exact ⟨c, T, (hk _ (low _ (m1 hn)) (Array.getElem?_eq_some_iff.1 h1).1).trans h1, h2⟩
  · obtain ⟨c, T, h1, h2⟩ := h.brow hn
    obtain ⟨p, hp⟩ := m2 hn
    exact ⟨c, T, (hk _ (low _ hp) (Array.getElem?_eq_some_iff.1 h1).1).trans h1, h2⟩
  · obtain ⟨ad, cap, h1, h2⟩ := h.codes.cell i hi
    have hne : cs ≠ [] := fun e => by rw [e] at hi; simp at hi
    obtain ⟨p, hp⟩ := m2 hne
    exact ⟨ad, cap, (World.cell?_of_block (a := ⟨b, _, none⟩) (hk b (low _ hp) (h.codes.blk_lt hne))).trans h1, h2⟩
  · obtain ⟨c, T, h1, h2⟩ := h.codes.row i hi hn
    obtain ⟨p, t, hp⟩ := m3 i hi hn
    exact ⟨c, T, (hk _ (low _ hp) (Array.getElem?_eq_some_iff.1 h1).1).trans h1, h2⟩
end Go.Proofs.Ytobpcfelgobedab
