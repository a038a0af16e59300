/- The walk of the law FnExactLex out of the contracts of its callees. -/
import Derived.Test.YtjojcdjbplbdaafDoorLexImpl
import Derived.Test.YtjojcdjbplbdaafDoorLexMarks
namespace Go.Proofs.YtjojcdjbplbdaafDoor
open Go.ChangeShapes Go.WideShapes Go.ChangeAt Go.RowKit
namespace LexLaw

theorem toks_get : ∀ (ts : List (Tk × Nat)) (i : Nat) (h : i < ts.length) (r : Nat), r < 4 → (toksCells ts)[i * 4 + r]? = (tokCells ts[i])[r]?
  | x :: ts, 0, _, r, hr => by
    simp only [toksCells, List.flatMap_cons, Nat.zero_mul, Nat.zero_add, List.getElem_cons_zero]
    rw [List.getElem?_append_left (by simp [tokCells]; omega)]
  | x :: ts, i + 1, h, r, hr => by
    have h' : i < ts.length := by simpa using h
    have ih := toks_get ts i h' r hr
    simp only [toksCells, List.flatMap_cons, List.getElem_cons_succ] at *
    rw [List.getElem?_append_right (by simp [tokCells]; omega), ← ih]
    congr 1
    simp [tokCells]; omega
/-- The list that Lex hands back lies somewhere. -/
theorem out_at {w : World} {B : Nat} {v : Value} {ts : List (Tk × Nat)} (h : LexOut B w v ts) :
    ∃ g cap cur, v = .slice (some ⟨g, 0, none⟩) ts.length cap ∧ B ≤ g ∧ g < w.heap.size ∧ w.heap[g]? = some (.cells cur 37 (0, 0)) ∧ ts.length * 4 ≤ cur.size ∧ ToksAt w g ts := by
  obtain ⟨⟨_, ⟨h0, _⟩ | ⟨g, cap, cur, rfl, hB, hh, hn, _, hs, ht⟩⟩, hne⟩ := h
  · exact absurd h0 hne
  · refine ⟨g, cap, cur, rfl, hB, (Array.getElem?_eq_some_iff.1 hh).1, hh, by omega, fun i hi => ?_⟩
    have key : ∀ r, r < 4 → w.cell? ⟨g, i * 4 + r, none⟩ = (tokCells ts[i])[r]? := fun r hr => by
      have h1 : (cur.toList.take (ts.length * 4))[i * 4 + r]? = (toksCells ts)[i * 4 + r]? := by rw [ht]
      rw [List.getElem?_take_of_lt (by omega), Array.getElem?_toList, toks_get ts i hi r hr] at h1
      simp only [World.cell?, hh]
      exact h1
    exact ⟨key 0 (by omega), key 1 (by omega), key 2 (by omega), key 3 (by omega)⟩
theorem ToksAt_below {w w' : World} {b : Nat} {ts : List (Tk × Nat)} (h : ToksAt w b ts) (hb : b < w.heap.size) (bel : Below w.heap.size w w') : ToksAt w' b ts := fun i hi => by
  obtain ⟨a, c, d, e⟩ := h i hi
  exact ⟨(bel.cell (p := ⟨b, _, none⟩) hb).trans a, (bel.cell (p := ⟨b, _, none⟩) hb).trans c, (bel.cell (p := ⟨b, _, none⟩) hb).trans d, (bel.cell (p := ⟨b, _, none⟩) hb).trans e⟩
theorem ToksAt_but {w w' : World} {b c : Nat} {ts : List (Tk × Nat)} (h : ToksAt w b ts) (hb : b < w.heap.size) (hne : b ≠ c) (but : But c w w') : ToksAt w' b ts := fun i hi => by
  obtain ⟨a, c, d, e⟩ := h i hi
  exact ⟨(but.cell hb hne).trans a, (but.cell hb hne).trans c, (but.cell hb hne).trans d, (but.cell hb hne).trans e⟩
theorem tmarked_cells {w : World} {b n k : Nat} {cur : Array Value} {e : TypeId} (h : w.heap[b]? = some (.cells cur e (0, 0))) (hm : TMarked cur k n) : ∀ i, i < n * 4 → w.cell? ⟨b, i, none⟩ = some (markV k i) := fun i hi => by
  simp only [World.cell?, h]; exact hm i hi
theorem lexF_len : ∀ (f : Nat) (l : List UInt8) (line : Nat) (acc : List (Tk × Nat)), (lexF f l line acc).1.length ≤ acc.length + f
  | 0, l, line, acc => by simp [lexF]
  | f + 1, [], line, acc => by simp [lexF]
  | f + 1, c :: r, line, acc => by
    rw [lexF]
    split
    · have := lexF_len f r line acc; omega
    · split
      · have := lexF_len f r (line + 1) acc; omega
      · split
        · simp
        · rename_i tk _
          have := lexF_len f ((c :: r).drop tk.len) line (acc ++ [(tk, line)])
          simp at this; simp; omega
theorem lexL_len (l : List UInt8) : (lexL l).1.length ≤ 3001 := by
  unfold lexL
  split
  · simp
  · have := lexF_len (l.length + 1) l 1 []
    simp at this; omega

set_option maxHeartbeats 1000000 in
theorem walk (s : ByteArray) (w : World) (fr1 fr2 : Nat × Nat) (t1 t2 : TypeId) (hsz : s.size ≤ maxLen) (hg0 : w.heap[0]? = some (.cells lensV t1 fr1)) (hg1 : w.heap[1]? = some (.cells signsV t2 fr2)) :
    Calls Tryd.prog 3 #[.string s] w fun e w' => e = .returned (.bool true) ∧ Below w.heap.size w w' := by
  unfold maxLen at hsz
  have hb0 : 0 < w.heap.size := (Array.getElem?_eq_some_iff.1 hg0).1
  have hb1 : 1 < w.heap.size := (Array.getElem?_eq_some_iff.1 hg1).1
  have HG0 := hideP hg0
  have HG1 := hideP hg1
  clear hg0 hg1
  by_cases hb : s.size ≤ 1048576
  · have hts := lexL_len s.data.toList
    obtain ⟨ts, hts1⟩ : ∃ ts, (lexL s.data.toList).1 = ts := ⟨_, rfl⟩
    obtain ⟨ln, hln1⟩ : ∃ ln, (lexL s.data.toList).2 = ln := ⟨_, rfl⟩
    have SP : Hid (∀ W, Calls Tryd.prog 7 #[.string s] W fun e w' => ∃ v, e = .returned (.tuple #[v, .int .i64 ln]) ∧ LexOut W.heap.size w' v ts ∧ Below W.heap.size W w') := fun W => by rw [← hts1, ← hln1]; exact spec_lex s W hb
    have IM : Hid (∀ W, W.heap[0]? = some (.cells lensV t1 fr1) → W.heap[1]? = some (.cells signsV t2 fr2) → Calls Tryd.prog 8 #[.string s] W fun e w' => ∃ v, e = .returned (.tuple #[v, .int .i64 ln]) ∧ LexOut W.heap.size w' v ts ∧ Below W.heap.size W w') := fun W a c => by rw [← hts1, ← hln1]; exact impl_lex s W fr1 fr2 t1 t2 hb a c
    rw [hts1] at hts
    clear hts1 hln1
    go_enter Tryd.func3, Tryd.ntmps3
    go_wp2_with fail
    refine (SP.out _).mono ?_
    rintro e w1 ⟨v0, rfl, hout0, bel1⟩
    obtain ⟨g, cap, cur0, rfl, hBg, hgs, _, _, hst⟩ := out_at hout0
    have HST := hideP hst
    have HB1 := hideP bel1
    have hs1 := bel1.size
    clear hout0 hst bel1
    go_wp2_with fail
    refine (IM.out _ ((HB1.out.block _ hb0).trans HG0.out) ((HB1.out.block _ hb1).trans HG1.out)).mono ?_
    rintro e w2 ⟨v1, rfl, hout1, bel2⟩
    obtain ⟨b1, cap1, cur, rfl, hb1g, hb1s, hh1, hcs, hst1⟩ := out_at hout1
    have HST1 := hideP hst1
    have HH1 := hideP hh1
    have HB2 := hideP bel2
    have hs2 := bel2.size
    clear hout1 hst1 bel2 hh1
    go_wp2_with fail
    refine (eqTokenS_same ts b1 g _ _ _ (by omega) hb1s (by omega) HST1.out (ToksAt_below HST.out hgs HB2.out)).mono ?_
    rintro e w3 ⟨rfl, bel3⟩
    have HB3 := hideP bel3
    have hs3 := bel3.size
    clear bel3
    go_wp2_with fail
    refine (markTokenS_any ts.length 1 b1 _ cur 37 _ (by decide) (by omega) hcs ((HB3.out.block b1 hb1s).trans HH1.out)).mono ?_
    rintro e w4 ⟨rfl, hbut, cur', hc4, hsz4, hmk⟩
    have HBUT := hideP hbut
    have hs4 : w3.heap.size ≤ w4.heap.size := hbut.size
    have HMK := hideP (tmarked_cells hc4 hmk)
    clear hbut hc4 hsz4 hmk
    go_wp2_with fail
    refine (heldTokenS_any ts.length 1 b1 _ _ (by decide) (by omega) (by omega) HMK.out).mono ?_
    rintro e w5 ⟨rfl, bel5⟩
    have HB5 := hideP bel5
    have hs5 := bel5.size
    clear bel5
    have old5 : ∀ x, x < w.heap.size → w5.heap[x]? = w.heap[x]? := fun x hx =>
      (HB5.out.block x (by omega)).trans ((HBUT.out.block x (by omega) (by omega)).trans ((HB3.out.block x (by omega)).trans ((HB2.out.block x (by omega)).trans (HB1.out.block x hx))))
    have OLD5 := hideP old5
    clear old5
    have hpos : ¬ ((1 + ts.length * 4 : Nat) : Int) < 0 := by omega
    go_wp2_with fail
    refine (IM.out _ ((OLD5.out _ hb0).trans HG0.out) ((OLD5.out _ hb1).trans HG1.out)).mono ?_
    rintro e w6 ⟨v2, rfl, hout2, bel6⟩
    obtain ⟨b2, cap2, cur2, rfl, hb2g, hb2s, _, _, hst2⟩ := out_at hout2
    have HST2 := hideP hst2
    have HB6 := hideP bel6
    have hs6 := bel6.size
    clear hout2 hst2 bel6
    have hst6 : ToksAt w6 g ts := ToksAt_below (ToksAt_below (ToksAt_but (ToksAt_below (ToksAt_below HST.out hgs HB2.out) (by omega) HB3.out) (by omega) (by omega) HBUT.out) (by omega) HB5.out) (by omega) HB6.out
    have HST6 := hideP hst6
    clear hst6
    go_wp2_with fail
    refine (eqTokenS_same ts b2 g _ _ _ (by omega) hb2s (by omega) HST2.out HST6.out).mono ?_
    rintro e w7 ⟨rfl, bel7⟩
    have HB7 := hideP bel7
    have hs7 := bel7.size
    clear bel7
    have hmk7 : ∀ i, i < ts.length * 4 → w7.cell? ⟨b1, i, none⟩ = some (markV 1 i) := fun i hi =>
      (HB7.out.cell (p := ⟨b1, i, none⟩) (show b1 < w6.heap.size by omega)).trans ((HB6.out.cell (p := ⟨b1, i, none⟩) (show b1 < w5.heap.size by omega)).trans ((HB5.out.cell (p := ⟨b1, i, none⟩) (show b1 < w4.heap.size by omega)).trans (HMK.out i hi)))
    have HMK7 := hideP hmk7
    clear hmk7
    go_wp2_with fail
    refine (heldTokenS_any ts.length 1 b1 _ _ (by decide) (by omega) (by omega) HMK7.out).mono ?_
    rintro e w8 ⟨rfl, bel8⟩
    go_wp2
    go_ret
    refine ⟨rfl, ?_⟩
    have c1 : Below w.heap.size w w3 := (HB1.out.trans (HB2.out.mono hs1)).trans (HB3.out.mono (by omega))
    have c2 : Below w.heap.size w w4 := c1.trans (HBUT.out.below (by omega) (by omega))
    have c3 : Below w.heap.size w w6 := (c2.trans (HB5.out.mono (by omega))).trans (HB6.out.mono (by omega))
    exact (c3.trans (HB7.out.mono (by omega))).trans (bel8.mono (by omega))
  · go_enter Tryd.func3, Tryd.ntmps3
    go_wp2_with fail
    go_ret
    exact ⟨rfl, Below.refl _ _⟩
end LexLaw
end Go.Proofs.YtjojcdjbplbdaafDoor
