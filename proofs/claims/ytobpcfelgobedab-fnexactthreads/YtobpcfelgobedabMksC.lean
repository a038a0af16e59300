/- The laws' marks on a row of steps are found again. -/
import Derived.Test.YtobpcfelgobedabMksA
namespace Go.Proofs.Ytobpcfelgobedab
open Go.ChangeShapes Go.WideShapes Go.ChangeAt Go.RowKit
set_option maxHeartbeats 4000000 in
theorem heldInstrS_mks (n : Nat) (w : World) (k b o cap : Nat) (hb : b < w.heap.size) (hc : ∀ i r, i < n → r < 6 → w.cell? ⟨b, o + i * 7 + r, none⟩ = some (.int .i64 ((k + i * 7 + r : Nat) : Int))) (hd : ∀ i, i < n → w.cell? ⟨b, o + i * 7 + 6, none⟩ = some (.string (markS (k + i * 7 + 6)))) (hk0 : 0 < k) (hk : k + n * 7 ≤ 100000000) :
    Calls Try.prog 44 #[.slice (some ⟨b, o, none⟩) n cap, .int .i64 k] w fun en w' => en = .returned (.int .i64 ((k + n * 7 : Nat) : Int)) ∧ Below w.heap.size w w' := by
  have HC := hideP hc
  have HD := hideP hd
  clear hc hd
  go_enter Try.func44, Try.ntmps44
  go_wp2
  go_loopg [1, 5] n (fun gk q i wr => ∃ j m : Nat, gk + j = n ∧ i = .int .i64 j ∧ q = .int .i64 m ∧ Hid (m = k + j * 7) ∧ Hid (Below w.heap.size w wr))
  case atStart => exact ⟨0, k, by simp, rfl, rfl, show _ = _ by simp, Below.refl _ _⟩
  case round =>
    obtain ⟨j, m, hgk, rfl, rfl, hmk, hbr⟩ := hrel
    by_cases hlt : j < n
    · have hm0 : 0 < m := by have := hmk.out; omega
      have hm1 : m + 7 ≤ 100000000 := by have := hmk.out; omega
      have e0 : wr.cell? ⟨b, o + j * 7, none⟩ = some (.int .i64 (m : Int)) := by rw [(hbr.out.cell (p := ⟨b, _, none⟩) hb).trans (by simpa using HC.out j 0 hlt (by omega))]; congr 2; have := hmk.out; omega
      have e1 : wr.cell? ⟨b, o + j * 7 + 1, none⟩ = some (.int .i64 ((m : Int) + 1)) := by rw [(hbr.out.cell (p := ⟨b, _, none⟩) hb).trans (HC.out j 1 hlt (by omega))]; congr 2; have := hmk.out; omega
      have e2 : wr.cell? ⟨b, o + j * 7 + 2, none⟩ = some (.int .i64 ((m : Int) + 1 + 1)) := by rw [(hbr.out.cell (p := ⟨b, _, none⟩) hb).trans (HC.out j 2 hlt (by omega))]; congr 2; have := hmk.out; omega
      have e3 : wr.cell? ⟨b, o + j * 7 + 3, none⟩ = some (.int .i64 ((m : Int) + 1 + 1 + 1)) := by rw [(hbr.out.cell (p := ⟨b, _, none⟩) hb).trans (HC.out j 3 hlt (by omega))]; congr 2; have := hmk.out; omega
      have e4 : wr.cell? ⟨b, o + j * 7 + 4, none⟩ = some (.int .i64 ((m : Int) + 1 + 1 + 1 + 1)) := by rw [(hbr.out.cell (p := ⟨b, _, none⟩) hb).trans (HC.out j 4 hlt (by omega))]; congr 2; have := hmk.out; omega
      have e5 : wr.cell? ⟨b, o + j * 7 + 5, none⟩ = some (.int .i64 ((m : Int) + 1 + 1 + 1 + 1 + 1)) := by rw [(hbr.out.cell (p := ⟨b, _, none⟩) hb).trans (HC.out j 5 hlt (by omega))]; congr 2; have := hmk.out; omega
      have e6 : wr.cell? ⟨b, o + j * 7 + 6, none⟩ = some (.string (markS (m + 6))) := by rw [(hbr.out.cell (p := ⟨b, _, none⟩) hb).trans (HD.out j hlt), ← hmk.out]
      go_wp2_with fail
      have ekj : ((m : Int) + 1 + 1 + 1 + 1 + 1 + 1) = ((m + 6 : Nat) : Int) := by omega
      rw [ekj]
      clear ekj e0 e1 e2 e3 e4 e5
      have SK : Hid (∀ W', Below w.heap.size wr W' → W'.cell? ⟨b, o + j * 7 + 6, none⟩ = some (.string (markS (m + 6)))) := fun W' h => (h.cell (p := ⟨b, _, none⟩) hb).trans e6
      have hwb := hbr.out.size
      clear e6
      go_region_held3 (fun W' => W'.cell? ⟨b, o + j * 7 + 6, none⟩ = some (.string (markS (m + 6)))) (first | exact SK.out _ (Below.refl _ _).drew | exact SK.out _ H1.out) (first
        | (go_at_call 58; refine (markText_any (m + 6) _ (by omega) (by omega)).mono ?_; rintro e1 w1 ⟨rfl, bel1⟩; have H1 := hideP (((Below.refl wr.heap.size wr).drew.trans (bel1.mono (Nat.le_refl _))).mono hwb); clear bel1))
      all_goals (go_wp2; go_roundg (n - (j + 1)))
      case rel => exact ⟨j + 1, m + 7, by omega, by go_num, by go_num, show _ = _ by rw [hmk.out]; omega, hbr.out.trans H1.out⟩
      case measure => omega
    · have hjn : j = n := by omega
      subst hjn
      go_wp2
      go_ret
      exact ⟨ret_int (by rw [hmk.out]), hbr.out⟩
end Go.Proofs.Ytobpcfelgobedab

/- The laws' marks on a row of blocks that a call owns: which cells, one behind another. -/
namespace Go.Proofs.Ytobpcfelgobedab
open Go.ChangeShapes Go.WideShapes Go.ChangeAt Go.RowKit
/-- Where the code of a block lies: its block, where it begins there, how many steps. -/
structure CRow where
  b : Nat
  o : Nat
  n : Nat
def blk1 (b p : Nat) (c : CRow) : List Cel := insL c.b c.o c.n ++ celL b (p + 1) [false, false, false, false]
def blksL (b : Nat) : Nat → List CRow → List Cel
  | _, [] => []
  | p, c :: cs => blk1 b p c ++ blksL b (p + 5) cs
theorem blksL_snoc (b : Nat) (c : CRow) : ∀ (p : Nat) (cs : List CRow), blksL b p (cs ++ [c]) = blksL b p cs ++ blk1 b (p + cs.length * 5) c
  | p, [] => by simp [blksL]
  | p, d :: cs => by
    show blk1 b p d ++ blksL b (p + 5) (cs ++ [c]) = _
    rw [blksL_snoc b c (p + 5) cs, List.length_cons, show p + (cs.length + 1) * 5 = p + 5 + cs.length * 5 by omega]
    simp [blksL]
theorem blk1_len (b p : Nat) (c : CRow) : (blk1 b p c).length = c.n * 7 + 4 := by rw [blk1, List.length_append, insL_len]; rfl
theorem blk1_mem {b p : Nat} {c : CRow} {b' o' : Nat} {t : Bool} (h : (b', o', t) ∈ blk1 b p c) : (b' = c.b ∧ 0 < c.n) ∨ (b' = b ∧ p < o' ∧ o' < p + 5) := by
  rcases List.mem_append.1 h with h | h
  · left
    have := insL_mem h
    exact ⟨this.1, by omega⟩
  · right
    have := celL_mem h
    simp at this
    omega
theorem blksL_mem {b b' o' : Nat} {t : Bool} : ∀ {p : Nat} {cs : List CRow}, (b', o', t) ∈ blksL b p cs → (∃ i, ∃ h : i < cs.length, b' = cs[i].b ∧ 0 < cs[i].n) ∨ (b' = b ∧ ∃ i, i < cs.length ∧ p + i * 5 < o' ∧ o' < p + i * 5 + 5)
  | _, [], h => by simp [blksL] at h
  | p, c :: cs, h => by
    rcases List.mem_append.1 h with h | h
    · rcases blk1_mem h with h | h
      · exact Or.inl ⟨0, by simp, by simpa using h⟩
      · exact Or.inr ⟨h.1, 0, by simp, by omega, by omega⟩
    · rcases blksL_mem h with ⟨i, hi, h⟩ | ⟨h, i, hi, h2, h3⟩
      · exact Or.inl ⟨i + 1, by simpa using hi, by simpa using h⟩
      · exact Or.inr ⟨h, i + 1, by simpa using hi, by omega, by omega⟩
/-- How the code rows lie: each in a block of its own, which is not the row's of the blocks. -/
structure CodesIs (w : World) (b o : Nat) (cs : List CRow) : Prop where
  cell : ∀ i (h : i < cs.length), ∃ ad cap, w.cell? ⟨b, o + i * 5, none⟩ = some (.slice ad cs[i].n cap) ∧ (cs[i].n = 0 ∨ ad = some ⟨cs[i].b, cs[i].o, none⟩)
  row : ∀ i (h : i < cs.length), 0 < cs[i].n → ∃ c T, w.heap[cs[i].b]? = some (.cells c T (0, 0)) ∧ cs[i].o + cs[i].n * 7 ≤ c.size
  own : ∀ i (h : i < cs.length), 0 < cs[i].n → cs[i].b ≠ b
  dis : ∀ i j (hi : i < cs.length) (hj : j < cs.length), i ≠ j → 0 < cs[i].n → 0 < cs[j].n → cs[i].b ≠ cs[j].b
theorem markInstrS_zero (w : World) (ad : Option Addr) (cap k : Nat) :
    Calls Try.prog 43 #[.slice ad 0 cap, .int .i64 k] w fun en w' => en = .returned (.int .i64 (k : Int)) ∧ w' = w := by
  go_enter Try.func43, Try.ntmps43
  go_wp2
  go_loop [1, 5] (fun q i => i = .int .i64 0 ∧ q = .int .i64 (k : Int)) (fun _ _ => 0)
  case atStart => exact ⟨rfl, rfl⟩
  case round =>
    obtain ⟨rfl, rfl⟩ := hrel
    go_wp2
    go_ret
    exact ⟨rfl, rfl⟩
theorem heldInstrS_zero (w : World) (ad : Option Addr) (cap k : Nat) :
    Calls Try.prog 44 #[.slice ad 0 cap, .int .i64 k] w fun en w' => en = .returned (.int .i64 (k : Int)) ∧ w' = w := by
  go_enter Try.func44, Try.ntmps44
  go_wp2
  go_loop [1, 5] (fun q i => i = .int .i64 0 ∧ q = .int .i64 (k : Int)) (fun _ _ => 0)
  case atStart => exact ⟨rfl, rfl⟩
  case round =>
    obtain ⟨rfl, rfl⟩ := hrel
    go_wp2
    go_ret
    exact ⟨rfl, rfl⟩
/-- The marks on one code, whatever its slice is. -/
theorem markCode (w : World) (b o i k : Nat) (cs : List CRow) (h : CodesIs w b o cs) (hi : i < cs.length) (hk0 : 0 < k) (hk : k + cs[i].n * 7 ≤ 100000000) {w1 : World} {L : List Cel} {k0 : Nat} (hm : Mks w w1 L k0) {ad : Option Addr} {cap : Nat} (had : cs[i].n = 0 ∨ ad = some ⟨cs[i].b, cs[i].o, none⟩) :
    Calls Try.prog 43 #[.slice ad cs[i].n cap, .int .i64 k] w1 fun en w' => en = .returned (.int .i64 ((k + cs[i].n * 7 : Nat) : Int)) ∧ Mks w1 w' (insL cs[i].b cs[i].o cs[i].n) k := by
  by_cases hn : cs[i].n = 0
  · rw [hn]
    refine (markInstrS_zero w1 ad cap k).mono ?_
    rintro e w' ⟨rfl, rfl⟩
    exact ⟨by simp, by simpa [insL] using Mks.nil _ k⟩
  · have e := had.resolve_left hn
    subst e
    obtain ⟨c, T, hh, hs⟩ := h.row i hi (by omega)
    obtain ⟨c1, h1, s1⟩ := hm.plain _ c T hh
    exact markInstrS_mks cs[i].n w1 k cs[i].b cs[i].o cap c1 T h1 (by omega) hk0 hk
end Go.Proofs.Ytobpcfelgobedab

/- The laws' marks on a row of blocks that a call owns: what markBlockS writes. -/
namespace Go.Proofs.Ytobpcfelgobedab
open Go.ChangeShapes Go.WideShapes Go.ChangeAt Go.RowKit
theorem blksL_length (b : Nat) : ∀ (p : Nat) (cs : List CRow), (blksL b p cs).length = (cs.map fun c => c.n * 7 + 4).sum
  | _, [] => rfl
  | p, c :: cs => by rw [blksL, List.length_append, blk1_len, blksL_length b (p + 5) cs]; simp
theorem blksL_take_le (b p : Nat) (cs : List CRow) (j : Nat) : (blksL b p (cs.take j)).length ≤ (blksL b p cs).length := by
  rw [blksL_length, blksL_length]
  conv => rhs; rw [← List.take_append_drop j cs, List.map_append, List.sum_append]
  omega
theorem blksL_ge (b : Nat) : ∀ (p : Nat) (cs : List CRow), cs.length ≤ (blksL b p cs).length
  | _, [] => Nat.zero_le _
  | p, c :: cs => by have := blksL_ge b (p + 5) cs; rw [blksL, List.length_append, blk1_len, List.length_cons]; omega
theorem blksL_take {b o j : Nat} {cs : List CRow} (h : j < cs.length) : blksL b o (cs.take (j + 1)) = blksL b o (cs.take j) ++ insL cs[j].b cs[j].o cs[j].n ++ celL b (o + j * 5 + 1) [false, false, false, false] := by
  rw [List.take_succ_eq_append_getElem h, blksL_snoc, blk1, List.length_take, Nat.min_eq_left (Nat.le_of_lt h), List.append_assoc]
theorem codes_mem {b o j b' o' : Nat} {t : Bool} {cs : List CRow} (h : (b', o', t) ∈ blksL b o (cs.take j)) : (∃ i, ∃ hi : i < cs.length, i < j ∧ b' = cs[i].b ∧ 0 < cs[i].n) ∨ (b' = b ∧ ∃ i, i < j ∧ o + i * 5 < o' ∧ o' < o + i * 5 + 5) := by
  rcases blksL_mem h with ⟨i, hi, h1, h2⟩ | ⟨h1, i, hi, h2, h3⟩
  · rw [List.length_take] at hi
    rw [List.getElem_take] at h1 h2
    exact Or.inl ⟨i, by omega, by omega, h1, h2⟩
  · rw [List.length_take] at hi
    exact Or.inr ⟨h1, i, by omega, h2, h3⟩
set_option maxHeartbeats 4000000 in
theorem markBlockS_mks (cs : List CRow) (w : World) (k b o cap : Nat) (c : Array Value) (T : TypeId) (hh : w.heap[b]? = some (.cells c T (0, 0))) (hs : o + cs.length * 5 ≤ c.size) (h : CodesIs w b o cs) (hk0 : 0 < k) (hk : k + (blksL b o cs).length ≤ 100000000) :
    Calls Try.prog 26 #[.slice (some ⟨b, o, none⟩) cs.length cap, .int .i64 k] w fun en w' => en = .returned (.int .i64 ((k + (blksL b o cs).length : Nat) : Int)) ∧ Mks w w' (blksL b o cs) k := by
  have hb : b < w.heap.size := (Array.getElem?_eq_some_iff.1 hh).1
  have HH := hideP hh
  have HC := hideP h
  clear hh h
  obtain ⟨N, hN⟩ : ∃ N, cs.length = N := ⟨_, rfl⟩
  rw [hN] at hs ⊢
  have hNb : N ≤ 100000000 := by have := blksL_ge b o cs; omega
  have HN := hideP hN
  have HK := hideP hk
  clear hN hk
  go_enter Try.func26, Try.ntmps26
  go_wp2
  go_loopg [1, 5] N (fun gk q i wr => ∃ j m : Nat, gk + j = N ∧ i = .int .i64 j ∧ q = .int .i64 m ∧ Hid (m = k + (blksL b o (cs.take j)).length) ∧ Hid (Mks w wr (blksL b o (cs.take j)) k))
  case atStart => exact ⟨0, k, by simp, rfl, rfl, show _ = _ by simp [blksL], by show Mks _ _ _ _; simpa [blksL] using Mks.nil w k⟩
  case round =>
    obtain ⟨j, m, hgk, rfl, rfl, hmk, hm⟩ := hrel
    by_cases hlt : j < N
    · have hjc : j < cs.length := by rw [HN.out]; exact hlt
      obtain ⟨ad, cp, hc, had⟩ := HC.out.cell j hjc
      have hnot : ∀ t, (b, o + j * 5, t) ∉ blksL b o (cs.take j) := fun t ht => by
        rcases codes_mem ht with ⟨i, hi, _, h1, h2⟩ | ⟨_, i, hi, h2, h3⟩
        · exact HC.out.own i hi h2 h1.symm
        · omega
      have e0 := (hm.out.off b (o + j * 5) hb hnot).trans hc
      have hle := blksL_take_le b o cs (j + 1)
      rw [blksL_take hjc, List.length_append, List.length_append, insL_len] at hle
      have hle2 : (celL b (o + j * 5 + 1) [false, false, false, false]).length = 4 := rfl
      have hkk := HK.out
      have hmk' := hmk.out
      have MC := hideP (markCode w b o j m cs HC.out hjc (by omega) (by omega) hm.out (cap := cp) had)
      obtain ⟨m2, hm2⟩ : ∃ m2, m + cs[j].n * 7 = m2 := ⟨_, rfl⟩
      have hm2b : m2 + 4 ≤ 100000000 := by omega
      obtain ⟨nj, hnj⟩ : ∃ nj, cs[j].n = nj := ⟨_, rfl⟩
      rw [hm2] at MC
      have LU := hideP (blksL_take (b := b) (o := o) hjc)
      have HM2 := hideP hm2
      clear hle hle2 hkk hmk' hm2 hc hnot
      have HNJ := hideP hnj
      rw [hnj] at LU HM2
      simp only [hnj] at e0 MC
      clear hnj
      go_wp2_with fail
      refine MC.out.mono ?_
      rintro y1 w1 ⟨rfl, mk1⟩
      have hL0 : ∀ c ∈ blksL b o (cs.take j) ++ insL cs[j].b cs[j].o nj, c.1 < w.heap.size := fun c hc => by
        obtain ⟨b', o', t⟩ := c
        rcases List.mem_append.1 hc with hc | hc
        · rcases codes_mem hc with ⟨i, hi, _, h1, h2⟩ | ⟨h1, _⟩
          · obtain ⟨c, T, hr, _⟩ := HC.out.row i hi h2
            simp only [h1]; exact (Array.getElem?_eq_some_iff.1 hr).1
          · simp only [h1]; exact hb
        · have h1 := insL_mem hc
          obtain ⟨c, T, hr, _⟩ := HC.out.row j hjc (by rw [HNJ.out]; omega)
          simp only [h1.1]; exact (Array.getElem?_eq_some_iff.1 hr).1
      have M1 : Mks w w1 (blksL b o (cs.take j) ++ insL cs[j].b cs[j].o nj) k := hm.out.append (by rw [← hmk.out]; exact mk1) (fun c hc => hL0 c (List.mem_append_left _ hc)) (fun b' o' t t' h1 h2 => by
        have h3 := insL_mem h2
        have hpos : 0 < cs[j].n := by rw [HNJ.out]; omega
        rcases codes_mem h1 with ⟨i, hi, hij, h4, h5⟩ | ⟨h4, _⟩
        · exact HC.out.dis i j hi hjc (by omega) h5 hpos (h4.symm.trans h3.1)
        · exact HC.out.own j hjc hpos (h3.1.symm.trans h4))
      have hn0 : ∀ r t', r < 4 → (b, o + j * 5 + 1 + r, t') ∉ blksL b o (cs.take j) ++ insL cs[j].b cs[j].o nj := fun r t' hr ht => by
        rcases List.mem_append.1 ht with ht | ht
        · rcases codes_mem ht with ⟨i, hi, _, h1, h2⟩ | ⟨_, i, hi, h2, h3⟩
          · exact HC.out.own i hi h2 h1.symm
          · omega
        · have h1 := insL_mem ht
          exact HC.out.own j hjc (by rw [HNJ.out]; omega) h1.1.symm
      have hlen : (blksL b o (cs.take j) ++ insL cs[j].b cs[j].o nj).length + k = m2 := by
        have h1 := hmk.out
        have h2 := HM2.out
        rw [List.length_append, insL_len]; omega
      obtain ⟨c1, h1, s1⟩ := M1.plain b c T HH.out
      have cc : ∀ r, r < 4 → ∃ u, w1.cell? ⟨b, o + j * 5 + (r + 1), none⟩ = some u := fun r hr => ⟨c1[o + j * 5 + (r + 1)]'(by omega), by rw [(cells_of h1).1]; exact Array.getElem?_eq_getElem (by omega)⟩
      obtain ⟨u1, e1⟩ := cc 0 (by omega)
      obtain ⟨u2, e2⟩ := cc 1 (by omega)
      obtain ⟨u3, e3⟩ := cc 2 (by omega)
      obtain ⟨u4, e4⟩ := cc 3 (by omega)
      have f0 := (cells_of h1).2
      have M5 := hideP (Mks.sets HH.out [false, false, false, false] [.int .i64 (m2 : Int), .int .i64 ((m2 : Int) + 1), .int .i64 ((m2 : Int) + 1 + 1), .int .i64 ((m2 : Int) + 1 + 1 + 1)] _ w1 (o + j * 5 + 1) M1 hL0 rfl (fun r h h' => by
        rw [show ∀ x, k + (blksL b o (cs.take j) ++ insL cs[j].b cs[j].o nj).length + x = m2 + x from fun x => by omega]
        match r, h with
        | 0, _ => rfl
        | 1, _ => rfl
        | 2, _ => rfl
        | 3, _ => rfl) (fun r t' hr => hn0 r t' hr) (by simp; omega))
      rw [← LU.out] at M5
      have HM3 : Hid (m2 + 4 = k + (blksL b o (cs.take (j + 1))).length) := by
        show _ = _
        rw [LU.out, List.length_append, show (celL b (o + j * 5 + 1) [false, false, false, false]).length = 4 from rfl]; omega
      clear h1 cc M1 mk1 hlen hn0 hL0 e0
      go_wp2
      go_roundg (N - (j + 1))
      case rel => exact ⟨j + 1, m2 + 4, by omega, by go_num, by go_num, HM3.out, M5⟩
      case measure => omega
    · have hjn : j = N := by omega
      subst hjn
      go_wp2
      go_ret
      have e1 : cs.take j = cs := by rw [← HN.out]; exact List.take_length
      exact ⟨ret_int (by rw [hmk.out, e1]), by have := hm.out; rwa [e1] at this⟩
end Go.Proofs.Ytobpcfelgobedab
