/- The marks on a graph of one's own whose codes may lie in one block, one behind another (written by wip/mkmksw.py). -/
import Derived.Test.YtjmclmbepnbeoaaMksAll
namespace Go.Proofs.Ytjmclmbepnbeoaa
open Go.ChangeShapes Go.WideShapes Go.ChangeAt Go.RowKit
/-- How the code rows lie: no two of them over each other, none in the row's of the blocks. -/
structure CodesW (w : World) (b o : Nat) (cs : List CRow) : Prop where
  cell : ∀ i (h : i < cs.length), ∃ ad cap, w.cell? ⟨b, o + i * 5, none⟩ = some (.slice ad cs[i].n cap) ∧ (cs[i].n = 0 ∨ ad = some ⟨cs[i].b, cs[i].o, none⟩)
  row : ∀ i (h : i < cs.length), 0 < cs[i].n → ∃ c T, w.heap[cs[i].b]? = some (.cells c T (0, 0)) ∧ cs[i].o + cs[i].n * 7 ≤ c.size
  own : ∀ i (h : i < cs.length), 0 < cs[i].n → cs[i].b ≠ b
  dis : ∀ i j (hi : i < cs.length) (hj : j < cs.length), i ≠ j → 0 < cs[i].n → 0 < cs[j].n → cs[i].b ≠ cs[j].b ∨ cs[i].o + cs[i].n * 7 ≤ cs[j].o ∨ cs[j].o + cs[j].n * 7 ≤ cs[i].o
theorem CodesIs.weak {w : World} {b o : Nat} {cs : List CRow} (h : CodesIs w b o cs) : CodesW w b o cs := ⟨h.cell, h.row, h.own, fun i j hi hj hne h1 h2 => Or.inl (h.dis i j hi hj hne h1 h2)⟩
/-- The marks on one code, whatever its slice is. -/
theorem markCodeW (w : World) (b o i k : Nat) (cs : List CRow) (h : CodesW w b o cs) (hi : i < cs.length) (hk0 : 0 < k) (hk : k + cs[i].n * 7 ≤ 100000000) {w1 : World} {L : List Cel} {k0 : Nat} (hm : Mks w w1 L k0) {ad : Option Addr} {cap : Nat} (had : cs[i].n = 0 ∨ ad = some ⟨cs[i].b, cs[i].o, none⟩) :
    Calls Try.prog 68 #[.slice ad cs[i].n cap, .int .i64 k] w1 fun en w' => en = .returned (.int .i64 ((k + cs[i].n * 7 : Nat) : Int)) ∧ Mks w1 w' (insL cs[i].b cs[i].o cs[i].n) k := by
  by_cases hn : cs[i].n = 0
  · rw [hn]
    refine (markInstrS_zero w1 ad cap k).mono ?_
    rintro e w' ⟨rfl, rfl⟩
    exact ⟨by simp, by simpa [insL] using Mks.nil _ k⟩
  · have e := had.resolve_left hn
    subst e
    obtain ⟨c, T, hh, hs⟩ := h.row i hi (by omega)
    obtain ⟨c1, h1, s1⟩ := hm.plain _ c T hh
    exact markInstrS_mks cs[i].n w1 k cs[i].b cs[i].o cap c1 T h1 (by omega) hk0 hk
theorem blksL_memO {b b' o' : Nat} {t : Bool} : ∀ {p : Nat} {cs : List CRow}, (b', o', t) ∈ blksL b p cs → (∃ i, ∃ h : i < cs.length, b' = cs[i].b ∧ 0 < cs[i].n ∧ cs[i].o ≤ o' ∧ o' < cs[i].o + cs[i].n * 7) ∨ (b' = b ∧ ∃ i, i < cs.length ∧ p + i * 5 < o' ∧ o' < p + i * 5 + 5)
  | _, [], h => by simp [blksL] at h
  | p, c :: cs, h => by
    rcases List.mem_append.1 h with h | h
    · rcases List.mem_append.1 h with h | h
      · have := insL_mem h
        exact Or.inl ⟨0, by simp, by simp only [List.getElem_cons_zero]; omega⟩
      · have := celL_mem h
        simp at this
        exact Or.inr ⟨by omega, 0, by simp, by omega, by omega⟩
    · rcases blksL_memO h with ⟨i, hi, h⟩ | ⟨h, i, hi, h2, h3⟩
      · exact Or.inl ⟨i + 1, by simpa using hi, by simpa using h⟩
      · exact Or.inr ⟨h, i + 1, by simpa using hi, by omega, by omega⟩
theorem codes_memW {b o j b' o' : Nat} {t : Bool} {cs : List CRow} (h : (b', o', t) ∈ blksL b o (cs.take j)) : (∃ i, ∃ hi : i < cs.length, i < j ∧ b' = cs[i].b ∧ 0 < cs[i].n ∧ cs[i].o ≤ o' ∧ o' < cs[i].o + cs[i].n * 7) ∨ (b' = b ∧ ∃ i, i < j ∧ o + i * 5 < o' ∧ o' < o + i * 5 + 5) := by
  rcases blksL_memO h with ⟨i, hi, h1, h2⟩ | ⟨h1, i, hi, h2, h3⟩
  · rw [List.length_take] at hi
    simp only [List.getElem_take] at h1 h2
    exact Or.inl ⟨i, by omega, by omega, h1, h2⟩
  · rw [List.length_take] at hi
    exact Or.inr ⟨h1, i, by omega, h2, h3⟩
set_option maxHeartbeats 4000000 in
theorem markBlockS_mksW (cs : List CRow) (w : World) (k b o cap : Nat) (c : Array Value) (T : TypeId) (hh : w.heap[b]? = some (.cells c T (0, 0))) (hs : o + cs.length * 5 ≤ c.size) (h : CodesW w b o cs) (hk0 : 0 < k) (hk : k + (blksL b o cs).length ≤ 100000000) :
    Calls Try.prog 37 #[.slice (some ⟨b, o, none⟩) cs.length cap, .int .i64 k] w fun en w' => en = .returned (.int .i64 ((k + (blksL b o cs).length : Nat) : Int)) ∧ Mks w w' (blksL b o cs) k := by
  have hb : b < w.heap.size := (Array.getElem?_eq_some_iff.1 hh).1
  have HH := hideP hh
  have HC := hideP h
  clear hh h
  obtain ⟨N, hN⟩ : ∃ N, cs.length = N := ⟨_, rfl⟩
  rw [hN] at hs ⊢
  have hNb : N ≤ 100000000 := by have := blksL_ge b o cs; omega
  have HN := hideP hN
  have HK := hideP hk
  clear hN hk
  go_enter Try.func37, Try.ntmps37
  go_wp2
  go_loopg [1, 5] N (fun gk q i wr => ∃ j m : Nat, gk + j = N ∧ i = .int .i64 j ∧ q = .int .i64 m ∧ Hid (m = k + (blksL b o (cs.take j)).length) ∧ Hid (Mks w wr (blksL b o (cs.take j)) k))
  case atStart => exact ⟨0, k, by simp, rfl, rfl, show _ = _ by simp [blksL], by show Mks _ _ _ _; simpa [blksL] using Mks.nil w k⟩
  case round =>
    obtain ⟨j, m, hgk, rfl, rfl, hmk, hm⟩ := hrel
    by_cases hlt : j < N
    · have hjc : j < cs.length := by rw [HN.out]; exact hlt
      obtain ⟨ad, cp, hc, had⟩ := HC.out.cell j hjc
      have hnot : ∀ t, (b, o + j * 5, t) ∉ blksL b o (cs.take j) := fun t ht => by
        rcases codes_memW ht with ⟨i, hi, _, h1, h2, _⟩ | ⟨_, i, hi, h2, h3⟩
        · exact HC.out.own i hi h2 h1.symm
        · omega
      have e0 := (hm.out.off b (o + j * 5) hb hnot).trans hc
      have hle := blksL_take_le b o cs (j + 1)
      rw [blksL_take hjc, List.length_append, List.length_append, insL_len] at hle
      have hle2 : (celL b (o + j * 5 + 1) [false, false, false, false]).length = 4 := rfl
      have hkk := HK.out
      have hmk' := hmk.out
      have MC := hideP (markCodeW w b o j m cs HC.out hjc (by omega) (by omega) hm.out (cap := cp) had)
      obtain ⟨m2, hm2⟩ : ∃ m2, m + cs[j].n * 7 = m2 := ⟨_, rfl⟩
      have hm2b : m2 + 4 ≤ 100000000 := by omega
      obtain ⟨nj, hnj⟩ : ∃ nj, cs[j].n = nj := ⟨_, rfl⟩
      rw [hm2] at MC
      have LU := hideP (blksL_take (b := b) (o := o) hjc)
      have HM2 := hideP hm2
      clear hle hle2 hkk hmk' hm2 hc hnot
      have HNJ := hideP hnj
      rw [hnj] at LU HM2
      simp only [hnj] at e0 MC
      clear hnj
      go_wp2_with fail
      refine MC.out.mono ?_
      rintro y1 w1 ⟨rfl, mk1⟩
      have hL0 : ∀ c ∈ blksL b o (cs.take j) ++ insL cs[j].b cs[j].o nj, c.1 < w.heap.size := fun c hc => by
        obtain ⟨b', o', t⟩ := c
        rcases List.mem_append.1 hc with hc | hc
        · rcases codes_memW hc with ⟨i, hi, _, h1, h2, _⟩ | ⟨h1, _⟩
          · obtain ⟨c, T, hr, _⟩ := HC.out.row i hi h2
            simp only [h1]; exact (Array.getElem?_eq_some_iff.1 hr).1
          · simp only [h1]; exact hb
        · have h1 := insL_mem hc
          obtain ⟨c, T, hr, _⟩ := HC.out.row j hjc (by rw [HNJ.out]; omega)
          simp only [h1.1]; exact (Array.getElem?_eq_some_iff.1 hr).1
      have M1 : Mks w w1 (blksL b o (cs.take j) ++ insL cs[j].b cs[j].o nj) k := hm.out.append (by rw [← hmk.out]; exact mk1) (fun c hc => hL0 c (List.mem_append_left _ hc)) (fun b' o' t t' h1 h2 => by
        have h3 := insL_mem h2
        have hpos : 0 < cs[j].n := by rw [HNJ.out]; omega
        rcases codes_memW h1 with ⟨i, hi, hij, h4, h5, h6⟩ | ⟨h4, _⟩
        · have h7 := HC.out.dis i j hi hjc (by omega) h5 hpos
          have h8 := HNJ.out
          rcases h7 with h7 | h7 | h7
          · exact h7 (h4.symm.trans h3.1)
          · omega
          · omega
        · exact HC.out.own j hjc hpos (h3.1.symm.trans h4))
      have hn0 : ∀ r t', r < 4 → (b, o + j * 5 + 1 + r, t') ∉ blksL b o (cs.take j) ++ insL cs[j].b cs[j].o nj := fun r t' hr ht => by
        rcases List.mem_append.1 ht with ht | ht
        · rcases codes_memW ht with ⟨i, hi, _, h1, h2, _⟩ | ⟨_, i, hi, h2, h3⟩
          · exact HC.out.own i hi h2 h1.symm
          · omega
        · have h1 := insL_mem ht
          exact HC.out.own j hjc (by rw [HNJ.out]; omega) h1.1.symm
      have hlen : (blksL b o (cs.take j) ++ insL cs[j].b cs[j].o nj).length + k = m2 := by
        have h1 := hmk.out
        have h2 := HM2.out
        rw [List.length_append, insL_len]; omega
      obtain ⟨c1, h1, s1⟩ := M1.plain b c T HH.out
      have cc : ∀ r, r < 4 → ∃ u, w1.cell? ⟨b, o + j * 5 + (r + 1), none⟩ = some u := fun r hr => ⟨c1[o + j * 5 + (r + 1)]'(by omega), by rw [(cells_of h1).1]; exact Array.getElem?_eq_getElem (by omega)⟩
      obtain ⟨u1, e1⟩ := cc 0 (by omega)
      obtain ⟨u2, e2⟩ := cc 1 (by omega)
      obtain ⟨u3, e3⟩ := cc 2 (by omega)
      obtain ⟨u4, e4⟩ := cc 3 (by omega)
      have f0 := (cells_of h1).2
      have M5 := hideP (Mks.sets HH.out [false, false, false, false] [.int .i64 (m2 : Int), .int .i64 ((m2 : Int) + 1), .int .i64 ((m2 : Int) + 1 + 1), .int .i64 ((m2 : Int) + 1 + 1 + 1)] _ w1 (o + j * 5 + 1) M1 hL0 rfl (fun r h h' => by
        rw [show ∀ x, k + (blksL b o (cs.take j) ++ insL cs[j].b cs[j].o nj).length + x = m2 + x from fun x => by omega]
        match r, h with
        | 0, _ => rfl
        | 1, _ => rfl
        | 2, _ => rfl
        | 3, _ => rfl) (fun r t' hr => hn0 r t' hr) (by simp; omega))
      rw [← LU.out] at M5
      have HM3 : Hid (m2 + 4 = k + (blksL b o (cs.take (j + 1))).length) := by
        show _ = _
        rw [LU.out, List.length_append, show (celL b (o + j * 5 + 1) [false, false, false, false]).length = 4 from rfl]; omega
      clear h1 cc M1 mk1 hlen hn0 hL0 e0
      go_wp2
      go_roundg (N - (j + 1))
      case rel => exact ⟨j + 1, m2 + 4, by omega, by go_num, by go_num, HM3.out, M5⟩
      case measure => omega
    · have hjn : j = N := by omega
      subst hjn
      go_wp2
      go_ret
      have e1 : cs.take j = cs := by rw [← HN.out]; exact List.take_length
      exact ⟨ret_int (by rw [hmk.out, e1]), by have := hm.out; rwa [e1] at this⟩
theorem heldCodeW (w : World) (b o i k : Nat) (cs : List CRow) (h : CodesW w b o cs) (hi : i < cs.length) (hk0 : 0 < k) (hk : k + cs[i].n * 7 ≤ 100000000) {w1 : World} (bel : Below w.heap.size w w1) (hm : HereIs w1 (insL cs[i].b cs[i].o cs[i].n) k) {ad : Option Addr} {cap : Nat} (had : cs[i].n = 0 ∨ ad = some ⟨cs[i].b, cs[i].o, none⟩) :
    Calls Try.prog 69 #[.slice ad cs[i].n cap, .int .i64 k] w1 fun en w' => en = .returned (.int .i64 ((k + cs[i].n * 7 : Nat) : Int)) ∧ Below w1.heap.size w1 w' := by
  by_cases hn : cs[i].n = 0
  · rw [hn]
    refine (heldInstrS_zero w1 ad cap k).mono ?_
    rintro e w' ⟨rfl, rfl⟩
    exact ⟨by simp, Below.refl _ _⟩
  · have e := had.resolve_left hn
    subst e
    obtain ⟨c, T, hh, hs⟩ := h.row i hi (by omega)
    have := (Array.getElem?_eq_some_iff.1 hh).1
    exact heldInstrS_here cs[i].n w1 k cs[i].b cs[i].o cap (by have := bel.size; omega) hm hk0 hk
set_option maxHeartbeats 4000000 in
theorem heldBlockS_mksW (cs : List CRow) (w : World) (k b o cap : Nat) (hb : b < w.heap.size) (h : CodesW w b o cs) (here : HereIs w (blksL b o cs) k) (hk0 : 0 < k) (hk : k + (blksL b o cs).length ≤ 100000000) :
    Calls Try.prog 39 #[.slice (some ⟨b, o, none⟩) cs.length cap, .int .i64 k] w fun en w' => en = .returned (.int .i64 ((k + (blksL b o cs).length : Nat) : Int)) ∧ Below w.heap.size w w' := by
  have HC := hideP h
  have HE := hideP here
  clear h here
  obtain ⟨N, hN⟩ : ∃ N, cs.length = N := ⟨_, rfl⟩
  rw [hN]
  have hNb : N ≤ 100000000 := by have := blksL_ge b o cs; omega
  have HN := hideP hN
  have HK := hideP hk
  clear hN hk
  go_enter Try.func39, Try.ntmps39
  go_wp2
  go_loopg [1, 5] N (fun gk q i wr => ∃ j m : Nat, gk + j = N ∧ i = .int .i64 j ∧ q = .int .i64 m ∧ Hid (m = k + (blksL b o (cs.take j)).length) ∧ Hid (Below w.heap.size w wr))
  case atStart => exact ⟨0, k, by simp, rfl, rfl, show _ = _ by simp [blksL], Below.refl _ _⟩
  case round =>
    obtain ⟨j, m, hgk, rfl, rfl, hmk, hbr⟩ := hrel
    by_cases hlt : j < N
    · have hjc : j < cs.length := by rw [HN.out]; exact hlt
      obtain ⟨ad, cp, hc, had⟩ := HC.out.cell j hjc
      have e0 := (hbr.out.cell (p := ⟨b, _, none⟩) hb).trans hc
      obtain ⟨hi1, hi2⟩ := HE.out.blk j hjc
      have hle := blksL_take_le b o cs (j + 1)
      rw [blksL_take hjc, List.length_append, List.length_append, insL_len] at hle
      have hle2 : (celL b (o + j * 5 + 1) [false, false, false, false]).length = 4 := rfl
      have hkk := HK.out
      have hmk' := hmk.out
      rw [← hmk'] at hi1 hi2
      have MC := hideP (heldCodeW w b o j m cs HC.out hjc (by omega) (by omega) hbr.out (hi1.stays hbr.out) (cap := cp) had)
      obtain ⟨m2, hm2⟩ : ∃ m2, m + cs[j].n * 7 = m2 := ⟨_, rfl⟩
      have hm2b : m2 + 4 ≤ 100000000 := by omega
      have HM3 : Hid (m2 + 4 = k + (blksL b o (cs.take (j + 1))).length) := by
        show _ = _
        rw [blksL_take hjc, List.length_append, List.length_append, insL_len, hle2]; omega
      rw [hm2] at MC hi2
      have d1 := hi2.cel 0 (by simp)
      have d2 := hi2.cel 1 (by simp)
      have d3 := hi2.cel 2 (by simp)
      have d4 := hi2.cel 3 (by simp)
      obtain ⟨nj, hnj⟩ : ∃ nj, cs[j].n = nj := ⟨_, rfl⟩
      simp only [hnj] at e0 MC
      clear hle hle2 hkk hmk' hm2 hc hi1 hi2 hnj
      go_wp2_with fail
      refine MC.out.mono ?_
      rintro y1 w1 ⟨rfl, bel1⟩
      have B1 := hideP (below_trans hbr.out bel1)
      replace d1 := (B1.out.cell (p := ⟨b, _, none⟩) hb).trans d1
      replace d2 := (B1.out.cell (p := ⟨b, _, none⟩) hb).trans d2
      replace d3 := (B1.out.cell (p := ⟨b, _, none⟩) hb).trans d3
      replace d4 := (B1.out.cell (p := ⟨b, _, none⟩) hb).trans d4
      have g1 : w1.cell? ⟨b, o + j * 5 + 1, none⟩ = some (.int .i64 (m2 : Int)) := by simpa [mkV] using d1
      have g2 : w1.cell? ⟨b, o + j * 5 + 2, none⟩ = some (.int .i64 ((m2 : Int) + 1)) := by simpa [mkV, Nat.add_assoc] using d2
      have g3 : w1.cell? ⟨b, o + j * 5 + 3, none⟩ = some (.int .i64 ((m2 : Int) + 1 + 1)) := by have := d3; simp [mkV, Nat.add_assoc] at this; rw [← Nat.add_assoc] at this; rw [this]; congr 2
      have g4 : w1.cell? ⟨b, o + j * 5 + 4, none⟩ = some (.int .i64 ((m2 : Int) + 1 + 1 + 1)) := by have := d4; simp [mkV, Nat.add_assoc] at this; rw [← Nat.add_assoc] at this; rw [this]; congr 2
      clear d1 d2 d3 d4 bel1 e0
      go_wp2
      go_roundg (N - (j + 1))
      case rel => exact ⟨j + 1, m2 + 4, by omega, by go_num, by go_num, HM3.out, B1.out⟩
      case measure => omega
    · have hjn : j = N := by omega
      subst hjn
      go_wp2
      go_ret
      have e1 : cs.take j = cs := by rw [← HN.out]; exact List.take_length
      exact ⟨ret_int (by rw [hmk.out, e1]), hbr.out⟩
/-- How a graph of one's own lies: its sizes, its blocks and the code of each in blocks of their own. -/
structure GOwnW (w : World) (v : Array Value) (S : CRow) (b o : Nat) (cs : List CRow) : Prop where
  val : ∃ ads caps p q r adb capb, v = #[.slice ads S.n caps, .int .i64 p, .int .i64 q, .int .i64 r, .slice adb cs.length capb] ∧ (S.n = 0 ∨ ads = some ⟨S.b, S.o, none⟩) ∧ (cs = [] ∨ adb = some ⟨b, o, none⟩)
  srow : 0 < S.n → ∃ c T, w.heap[S.b]? = some (.cells c T (0, 0)) ∧ S.o + S.n ≤ c.size
  brow : cs ≠ [] → ∃ c T, w.heap[b]? = some (.cells c T (0, 0)) ∧ o + cs.length * 5 ≤ c.size
  codes : CodesW w b o cs
  sb : 0 < S.n → cs ≠ [] → S.b ≠ b
  sc : 0 < S.n → ∀ i (h : i < cs.length), 0 < cs[i].n → S.b ≠ cs[i].b
theorem CodesW.keep {w w' : World} {b o : Nat} {cs : List CRow} (h : CodesW w b o cs) (hc : ∀ i, i < cs.length → w'.cell? ⟨b, o + i * 5, none⟩ = w.cell? ⟨b, o + i * 5, none⟩) (hp : ∀ (b : Nat) (c : Array Value) (T : TypeId), w.heap[b]? = some (.cells c T (0, 0)) → ∃ c' : Array Value, w'.heap[b]? = some (.cells c' T (0, 0)) ∧ c'.size = c.size) : CodesW w' b o cs where
  cell := fun i hi => by obtain ⟨ad, cap, h1, h2⟩ := h.cell i hi; exact ⟨ad, cap, (hc i hi).trans h1, h2⟩
  row := fun i hi hn => by
    obtain ⟨c, T, h1, h2⟩ := h.row i hi hn
    obtain ⟨c', h3, h4⟩ := hp _ c T h1
    exact ⟨c', T, h3, by omega⟩
  own := h.own
  dis := h.dis
theorem CodesW.blk_lt {w : World} {b o : Nat} {cs : List CRow} (h : CodesW w b o cs) (hne : cs ≠ []) : b < w.heap.size := by
  have hl : 0 < cs.length := List.length_pos_iff.2 hne
  obtain ⟨ad, cap, h1, _⟩ := h.cell 0 hl
  exact World.block_lt_of_cell? w _ h1
set_option maxHeartbeats 4000000 in
theorem markGraph_mksW (w : World) (k : Nat) (v : Array Value) (S : CRow) (b o : Nat) (cs : List CRow) (h : GOwnW w v S b o cs) (hk0 : 0 < k) (hk : k + (grL S b o cs).length ≤ 100000000) :
    Calls Try.prog 12 #[.agg v, .int .i64 k] w fun en w' => en = .returned (.int .i64 ((k + (grL S b o cs).length : Nat) : Int)) ∧ Mks w w' (grL S b o cs) k := by
  obtain ⟨⟨ads, caps, p, q, r, adb, capb, rfl, hs, hb⟩, srow, brow, codes, hsb, hsc⟩ := h
  rw [grL, List.length_append, intL_len] at hk
  have hlen : (grL S b o cs).length = S.n + (blksL b o cs).length := by rw [grL, List.length_append, intL_len]
  have MS : Hid (∀ W, Below w.heap.size w W → Calls Try.prog 36 #[.slice ads S.n caps, .int .i64 k] W fun en w' => en = .returned (.int .i64 ((k + S.n : Nat) : Int)) ∧ Mks W w' (intL S.b S.o S.n) k) := fun W hW => by
    by_cases hn : S.n = 0
    · rw [hn]
      refine (markIntS_zero W ads caps k).mono ?_
      rintro e w' ⟨rfl, rfl⟩
      exact ⟨by simp, by simpa [intL] using Mks.nil _ k⟩
    · have e := hs.resolve_left hn
      subst e
      obtain ⟨c, T, hh, hz⟩ := srow (by omega)
      exact markIntS_mks S.n W k S.b S.o caps c T ((hW.block _ (Array.getElem?_eq_some_iff.1 hh).1).trans hh) (by omega) (by omega)
  have hLs : ∀ c ∈ intL S.b S.o S.n, c.1 < w.heap.size := fun c hc => by
    obtain ⟨b', o', t⟩ := c
    have h1 := intL_mem hc
    obtain ⟨c, T, hh, _⟩ := srow (by omega)
    simp only [h1.1]; exact (Array.getElem?_eq_some_iff.1 hh).1
  have MB : Hid (∀ W, Mks w W (intL S.b S.o S.n) k → Calls Try.prog 37 #[.slice adb cs.length capb, .int .i64 ((k + S.n : Nat) : Int)] W fun en w' => en = .returned (.int .i64 ((k + S.n + (blksL b o cs).length : Nat) : Int)) ∧ Mks W w' (blksL b o cs) (k + S.n)) := fun W hW => by
    by_cases hn : cs = []
    · subst hn
      refine (markBlockS_zero W adb capb (k + S.n)).mono ?_
      rintro e w' ⟨rfl, rfl⟩
      exact ⟨by simp [blksL], by simpa [blksL] using Mks.nil _ _⟩
    · have e := hb.resolve_left hn
      subst e
      obtain ⟨c, T, hh, hz⟩ := brow hn
      obtain ⟨c1, h1, s1⟩ := hW.plain b c T hh
      refine markBlockS_mksW cs W (k + S.n) b o capb c1 T h1 (by omega) (codes.keep (fun i hi => hW.off b _ (Array.getElem?_eq_some_iff.1 hh).1 (fun t ht => ?_)) hW.plain) (by omega) (by omega)
      have h2 := intL_mem ht
      exact hsb (by omega) hn h2.1.symm
  have DIS : Hid (∀ b' o' t t', (b', o', t) ∈ intL S.b S.o S.n → (b', o', t') ∉ blksL b o cs) := fun b' o' t t' h1 h2 => by
    have h3 := intL_mem h1
    rcases blksL_mem h2 with ⟨i, hi, h4, h5⟩ | ⟨h4, i, hi, _⟩
    · exact hsc (by omega) i hi h5 (h3.1.symm.trans h4)
    · exact hsb (by omega) (fun e => by rw [e] at hi; simp at hi) (h3.1.symm.trans h4)
  have HLS := hideP hLs
  have HLN := hideP hlen
  obtain ⟨m1, hm1⟩ : ∃ m1, k + S.n = m1 := ⟨_, rfl⟩
  obtain ⟨m2, hm2⟩ : ∃ m2, m1 + (blksL b o cs).length = m2 := ⟨_, rfl⟩
  rw [hm1] at MS MB
  rw [hm2] at MB
  have FIN : Hid (k + (grL S b o cs).length = m2) := by show _ = _; rw [hlen]; omega
  have HM1 := hideP hm1
  obtain ⟨N, hN⟩ : ∃ N, cs.length = N := ⟨_, rfl⟩
  obtain ⟨sn, hsn⟩ : ∃ sn, S.n = sn := ⟨_, rfl⟩
  rw [hN] at MB ⊢
  rw [FIN.out]
  simp only [hsn] at MS ⊢
  clear hlen hLs hs hb srow brow codes hsb hsc hm1 hm2 hk hN
  go_enter Try.func12, Try.ntmps12
  go_wp2_with fail
  refine (MS.out _ ((Below.refl _ _).alloc (Nat.le_refl _) _)).mono ?_
  rintro y1 w1 ⟨rfl, mk1⟩
  have al := (Below.refl w.heap.size w).alloc (Nat.le_refl _) (.cells #[.slice ads sn caps, .int .i64 p, .int .i64 q, .int .i64 r, .slice adb N capb] 29)
  have M1 := ((Mks.nil w k).on al).append mk1 (by simp) (by simp)
  rw [List.nil_append] at M1
  have nb : (w.alloc (.cells #[.slice ads sn caps, .int .i64 p, .int .i64 q, .int .i64 r, .slice adb N capb] 29)).heap[w.heap.size]? = some (.cells #[.slice ads sn caps, .int .i64 p, .int .i64 q, .int .i64 r, .slice adb N capb] 29) := by show (w.heap.push _)[w.heap.size]? = _; exact Array.getElem?_push_size
  have hz : w.heap.size < (w.alloc (.cells #[.slice ads sn caps, .int .i64 p, .int .i64 q, .int .i64 r, .slice adb N capb] 29)).heap.size := by simp
  have p4 : w1.cell? ⟨w.heap.size, 4, none⟩ = some (.slice adb N capb) := by
    rw [mk1.off w.heap.size 4 hz (fun t ht => by
      have h1 := HLS.out (w.heap.size, 4, t) (by rw [hsn]; exact ht)
      exact Nat.lt_irrefl _ h1), (cells_of nb).1]
    rfl
  have HM := hideP M1
  clear mk1 M1 nb hz al
  rw [hsn] at HLS
  go_wp2_with fail
  refine (MB.out _ (by rw [hsn]; exact HM.out)).mono ?_
  rintro y2 w2 ⟨rfl, mk2⟩
  have M2 := hideP (HM.out.append (by rw [intL_len, ← hsn, HM1.out]; exact mk2) HLS.out (by have := DIS.out; rwa [hsn] at this))
  clear mk2 p4
  go_wp2
  go_ret
  exact ⟨rfl, by rw [grL, hsn]; exact M2.out⟩
theorem GOwnW.marked {w w' : World} {v : Array Value} {S : CRow} {b o k : Nat} {cs : List CRow} (h : GOwnW w v S b o cs) (hm : Mks w w' (grL S b o cs) k) : GOwnW w' v S b o cs where
  val := h.val
  srow := fun hn => by
    obtain ⟨c, T, h1, h2⟩ := h.srow hn
    obtain ⟨c', h3, h4⟩ := hm.plain _ c T h1
    exact ⟨c', T, h3, by omega⟩
  brow := fun hn => by
    obtain ⟨c, T, h1, h2⟩ := h.brow hn
    obtain ⟨c', h3, h4⟩ := hm.plain _ c T h1
    exact ⟨c', T, h3, by omega⟩
  codes := h.codes.keep (fun i hi => hm.off b _ (h.codes.blk_lt (fun e => by rw [e] at hi; simp at hi)) (fun t ht => by
    have hne : cs ≠ [] := fun e => by rw [e] at hi; simp at hi
    rcases List.mem_append.1 ht with ht | ht
    · have h1 := intL_mem ht
      exact h.sb (by omega) hne h1.1.symm
    · rcases blksL_mem ht with ⟨j, hj, h1, h2⟩ | ⟨_, j, hj, h2, h3⟩
      · exact h.codes.own j hj h2 h1.symm
      · omega)) hm.plain
  sb := h.sb
  sc := h.sc
theorem GOwnW.stays {w w' : World} {v : Array Value} {S : CRow} {b o : Nat} {cs : List CRow} (h : GOwnW w v S b o cs) (bel : Below w.heap.size w w') : GOwnW w' v S b o cs where
  val := h.val
  srow := fun hn => by
    obtain ⟨c, T, h1, h2⟩ := h.srow hn
    exact ⟨c, T, (bel.block _ (Array.getElem?_eq_some_iff.1 h1).1).trans h1, h2⟩
  brow := fun hn => by
    obtain ⟨c, T, h1, h2⟩ := h.brow hn
    exact ⟨c, T, (bel.block _ (Array.getElem?_eq_some_iff.1 h1).1).trans h1, h2⟩
  codes := h.codes.keep (fun i hi => bel.cell (p := ⟨b, _, none⟩) (h.codes.blk_lt (fun e => by rw [e] at hi; simp at hi))) (fun b' c T hh => ⟨c, (bel.block _ (Array.getElem?_eq_some_iff.1 hh).1).trans hh, rfl⟩)
  sb := h.sb
  sc := h.sc
set_option maxHeartbeats 4000000 in
theorem heldGraph_mksW (w : World) (k : Nat) (v : Array Value) (S : CRow) (b o : Nat) (cs : List CRow) (h : GOwnW w v S b o cs) (here : HereIs w (grL S b o cs) k) (hk0 : 0 < k) (hk : k + (grL S b o cs).length ≤ 100000000) :
    Calls Try.prog 13 #[.agg v, .int .i64 k] w fun en w' => en = .returned (.int .i64 ((k + (grL S b o cs).length : Nat) : Int)) ∧ Below w.heap.size w w' := by
  have hown := h
  obtain ⟨⟨ads, caps, p, q, r, adb, capb, rfl, hs, hb⟩, srow, brow, codes, hsb, hsc⟩ := h
  rw [grL, List.length_append, intL_len] at hk
  have hlen : (grL S b o cs).length = S.n + (blksL b o cs).length := by rw [grL, List.length_append, intL_len]
  have he1 : HereIs w (intL S.b S.o S.n) k := HereIs.left here
  have he2 : HereIs w (blksL b o cs) (k + S.n) := by have := HereIs.right here; rwa [intL_len] at this
  have MS : Hid (∀ W, Below w.heap.size w W → Calls Try.prog 38 #[.slice ads S.n caps, .int .i64 k] W fun en w' => en = .returned (.int .i64 ((k + S.n : Nat) : Int)) ∧ w' = W) := fun W hW => by
    by_cases hn : S.n = 0
    · rw [hn]
      refine (heldIntS_zero W ads caps k).mono ?_
      rintro e w' ⟨rfl, rfl⟩
      exact ⟨by simp, rfl⟩
    · have e := hs.resolve_left hn
      subst e
      exact heldIntS_mks S.n W k S.b S.o caps (fun i hi => (he1.stays hW).int i hi) (by omega)
  have MB : Hid (∀ W, Below w.heap.size w W → Calls Try.prog 39 #[.slice adb cs.length capb, .int .i64 ((k + S.n : Nat) : Int)] W fun en w' => en = .returned (.int .i64 ((k + S.n + (blksL b o cs).length : Nat) : Int)) ∧ Below W.heap.size W w') := fun W hW => by
    by_cases hn : cs = []
    · subst hn
      refine (heldBlockS_zero W adb capb (k + S.n)).mono ?_
      rintro e w' ⟨rfl, rfl⟩
      exact ⟨by simp [blksL], Below.refl _ _⟩
    · have e := hb.resolve_left hn
      subst e
      exact heldBlockS_mksW cs W (k + S.n) b o capb (Nat.lt_of_lt_of_le (codes.blk_lt hn) hW.size) (hown.stays hW).codes (he2.stays hW) (by omega) (by omega)
  obtain ⟨m1, hm1⟩ : ∃ m1, k + S.n = m1 := ⟨_, rfl⟩
  obtain ⟨m2, hm2⟩ : ∃ m2, m1 + (blksL b o cs).length = m2 := ⟨_, rfl⟩
  rw [hm1] at MS MB
  rw [hm2] at MB
  have FIN : Hid (k + (grL S b o cs).length = m2) := by show _ = _; rw [hlen]; omega
  obtain ⟨N, hN⟩ : ∃ N, cs.length = N := ⟨_, rfl⟩
  obtain ⟨sn, hsn⟩ : ∃ sn, S.n = sn := ⟨_, rfl⟩
  rw [hN] at MB ⊢
  rw [FIN.out]
  simp only [hsn] at MS ⊢
  have n1 : ¬ ((m1 : Nat) : Int) < 0 := by omega
  have n2 : ¬ ((m2 : Nat) : Int) < 0 := by omega
  have nb : (w.alloc (.cells #[.slice ads sn caps, .int .i64 p, .int .i64 q, .int .i64 r, .slice adb N capb] 29)).heap[w.heap.size]? = some (.cells #[.slice ads sn caps, .int .i64 p, .int .i64 q, .int .i64 r, .slice adb N capb] 29) := by show (w.heap.push _)[w.heap.size]? = _; exact Array.getElem?_push_size
  have p4 := (cells_of nb).1 4
  simp at p4
  clear hlen hs hb srow brow codes hsb hsc hm1 hm2 hk hN hown he1 he2 nb here
  go_enter Try.func13, Try.ntmps13
  go_wp2_with fail
  refine (MS.out _ ((Below.refl _ _).alloc (Nat.le_refl _) _)).mono ?_
  rintro y1 w1 ⟨rfl, hw⟩
  have hw1 := hw.symm
  subst hw1
  clear hw
  go_wp2_with fail
  refine (MB.out _ ((Below.refl _ _).alloc (Nat.le_refl _) _)).mono ?_
  rintro y2 w2 ⟨rfl, bel2⟩
  have HB := hideP (below_new bel2)
  clear bel2 p4
  go_wp2
  go_ret
  exact ⟨rfl, HB.out⟩
theorem GOwnW.mem {w : World} {v : Array Value} {S : CRow} {b o : Nat} {cs : List CRow} (_h : GOwnW w v S b o cs) : (0 < S.n → (S.b, S.o, false) ∈ grL S b o cs) ∧ (cs ≠ [] → ∃ p, (b, p, false) ∈ grL S b o cs) ∧ ∀ i (h : i < cs.length), 0 < cs[i].n → ∃ p t, (cs[i].b, p, t) ∈ grL S b o cs := by
  have hi : ∀ (p : Nat) (l : List CRow) i (h : i < l.length), (∃ q, (b, q, false) ∈ blksL b p l) ∧ (0 < l[i].n → ∃ q t, (l[i].b, q, t) ∈ blksL b p l) := fun p l => by
    induction l generalizing p with
    | nil => intro i h; simp at h
    | cons c l ih =>
      intro i h
      have h1 : (b, p + 1, false) ∈ blksL b p (c :: l) := List.mem_append_left _ (List.mem_append_right _ (by simp [celL]))
      refine ⟨⟨_, h1⟩, fun hn => ?_⟩
      cases i with
      | zero =>
        simp only [List.getElem_cons_zero] at hn ⊢
        refine ⟨c.o, false, List.mem_append_left _ (List.mem_append_left _ ?_)⟩
        rw [insL, List.mem_flatMap]
        exact ⟨0, by simpa using hn, by simp [ins1, celL]⟩
      | succ i =>
        simp only [List.getElem_cons_succ] at hn ⊢
        obtain ⟨q, t, hq⟩ := (ih (p + 5) i (by simpa using h)).2 hn
        exact ⟨q, t, List.mem_append_right _ hq⟩
  refine ⟨fun hn => List.mem_append_left _ ?_, fun hne => ?_, fun i h hn => ?_⟩
  · simp only [intL, List.mem_map, List.mem_range]
    exact ⟨0, hn, by simp⟩
  · obtain ⟨q, hq⟩ := (hi o cs 0 (List.length_pos_iff.2 hne)).1
    exact ⟨q, List.mem_append_right _ hq⟩
  · obtain ⟨q, t, hq⟩ := (hi o cs i h).2 hn
    exact ⟨q, t, List.mem_append_right _ hq⟩
theorem GOwnW.above {w w' : World} {v : Array Value} {S : CRow} {b o B : Nat} {cs : List CRow} (h : GOwnW w v S b o cs) (low : ∀ c ∈ grL S b o cs, B ≤ c.1) (hk : ∀ k, B ≤ k → k < w.heap.size → w'.heap[k]? = w.heap[k]?) : GOwnW w' v S b o cs := by
  obtain ⟨m1, m2, m3⟩ := h.mem
  refine ⟨h.val, fun hn => ?_, fun hn => ?_, ⟨fun i hi => ?_, fun i hi hn => ?_, h.codes.own, h.codes.dis⟩, h.sb, h.sc⟩
  · obtain ⟨c, T, h1, h2⟩ := h.srow hn
    exact ⟨c, T, (hk _ (low _ (m1 hn)) (Array.getElem?_eq_some_iff.1 h1).1).trans h1, h2⟩
  · obtain ⟨c, T, h1, h2⟩ := h.brow hn
    obtain ⟨p, hp⟩ := m2 hn
    exact ⟨c, T, (hk _ (low _ hp) (Array.getElem?_eq_some_iff.1 h1).1).trans h1, h2⟩
  · obtain ⟨ad, cap, h1, h2⟩ := h.codes.cell i hi
    have hne : cs ≠ [] := fun e => by rw [e] at hi; simp at hi
    obtain ⟨p, hp⟩ := m2 hne
    exact ⟨ad, cap, (World.cell?_of_block (a := ⟨b, _, none⟩) (hk b (low _ hp) (h.codes.blk_lt hne))).trans h1, h2⟩
  · obtain ⟨c, T, h1, h2⟩ := h.codes.row i hi hn
    obtain ⟨p, t, hp⟩ := m3 i hi hn
    exact ⟨c, T, (hk _ (low _ hp) (Array.getElem?_eq_some_iff.1 h1).1).trans h1, h2⟩
theorem GOwn.weak {w : World} {v : Array Value} {S : CRow} {b o : Nat} {cs : List CRow} (h : GOwn w v S b o cs) : GOwnW w v S b o cs := ⟨h.val, h.srow, h.brow, h.codes.weak, h.sb, h.sc⟩
end Go.Proofs.Ytjmclmbepnbeoaa
