/- The walk of the law FnLex out of the contracts of its callees. -/
import Derived.Test.YtjgiohhfhncepaaDoorLexImpl
import Derived.Test.YtjgiohhfhncepaaDoorLexApp
import Derived.Test.YtjgiohhfhncepaaDoorNumRd
import Derived.Test.YtjgiohhfhncepaaDoorWords
import Derived.Test.YtjgiohhfhncepaaDoorDraw2
namespace Go.Proofs.YtjgiohhfhncepaaDoor
open Go.ChangeShapes Go.WideShapes Go.ChangeAt Go.RowKit
namespace FnLexLaw

theorem big_no (a : Option Addr) (len cap : Nat) (w : World) (hl : len ≤ 1048576) :
    Calls Tryd.prog 4 #[.slice a len cap] w fun e w' => e = .returned (.bool false) ∧ w' = w := by
  go_enter Tryd.func4, Tryd.ntmps4
  go_wp2
  go_ret
  exact ⟨ret_bool (by simp; omega), rfl⟩
theorem big_yes (a : Option Addr) (len cap : Nat) (w : World) (hl : 1048576 < len) :
    Calls Tryd.prog 4 #[.slice a len cap] w fun e w' => e = .returned (.bool true) ∧ w' = w := by
  go_enter Tryd.func4, Tryd.ntmps4
  go_wp2
  go_ret
  exact ⟨ret_bool (by simp; omega), rfl⟩
set_option maxHeartbeats 400000 in
theorem sameTexts_same (ss : List ByteArray) (b1 b2 c1 c2 : Nat) (w : World) (hl : ss.length ≤ 10000000) (h1 : StrsAt w b1 ss) (h2 : StrsAt w b2 ss) :
    Calls Tryd.prog 21 #[.slice (some ⟨b1, 0, none⟩) ss.length c1, .slice (some ⟨b2, 0, none⟩) ss.length c2] w fun e w' => e = .returned (.bool true) ∧ ∃ n, w' = w.drewN n := by
  go_enter Tryd.func21, Tryd.ntmps21
  go_wp2
  go_loopw [5] (fun i wr => ∃ k : Nat, k ≤ ss.length ∧ i = .int .i64 k ∧ ∃ n, wr = w.drewN n) (fun i _ => ss.length - (intOf i).toNat)
  case atStart => exact ⟨0, Nat.zero_le _, rfl, 0, rfl⟩
  case round =>
    obtain ⟨k, hk, rfl, n, rfl⟩ := hrel
    by_cases hlt : k < ss.length
    · have hc1 := h1 k hlt
      have hc2 := h2 k hlt
      go_wp2
      go_quiet (fail)
      go_wp2
      go_roundw
      case rel => exact ⟨k + 1, by omega, by go_num, _, rfl⟩
      case measure => simp [intOf]; omega
    · go_wp2
      go_ret
      exact ⟨rfl, n, rfl⟩

/-- What the law leans on: the arrays of signs, the library's table, its two errors, its number, the bytes of the draw. -/
structure Ground (fr1 fr2 : Nat × Nat) (t1 t2 tp1 tp2 : TypeId) (p1 p2 : Value) (m : Int) (a : Option Addr) (len : Nat) (w : World) : Prop where
  g0 : w.heap[0]? = some (.cells lensV t1 fr1)
  g1 : w.heap[1]? = some (.cells signsV t2 fr2)
  tab : Lib.TabIs Tryd.prog w "internal/strconv.uint64pow10" .u64 Lib.pow10Tab
  es : w.var? Tryd.prog "strconv.ErrSyntax" = some #[.iface tp1 p1]
  er : w.var? Tryd.prog "strconv.ErrRange" = some #[.iface tp2 p2]
  ml : w.cell? ⟨5, 0, none⟩ = some (.int .i64 m)
  code : CodeIn w a len
theorem Ground.below {fr1 fr2 : Nat × Nat} {t1 t2 tp1 tp2 : TypeId} {p1 p2 : Value} {m : Int} {a : Option Addr} {len : Nat} {w w' : World} (h : Ground fr1 fr2 t1 t2 tp1 tp2 p1 p2 m a len w) (b : Below w.heap.size w w') : Ground fr1 fr2 t1 t2 tp1 tp2 p1 p2 m a len w' :=
  ⟨(b.block _ (Array.getElem?_eq_some_iff.1 h.g0).1).trans h.g0, (b.block _ (Array.getElem?_eq_some_iff.1 h.g1).1).trans h.g1, tab_below h.tab b, var_below h.es b, var_below h.er b,
    (b.cell (p := ⟨5, 0, none⟩) (World.block_lt_of_cell? _ _ h.ml)).trans h.ml, h.code.below b⟩

/-- The slice begins at the head of block b and holds the words ts. -/
def ToksAt (w : World) (b : Nat) (ts : List (Tk × Nat)) : Prop := ∀ (i : Nat) (h : i < ts.length), w.cell? ⟨b, i * 4, none⟩ = some (.int .i64 ts[i].1.k) ∧ w.cell? ⟨b, i * 4 + 1, none⟩ = some (.string ⟨ts[i].1.t.toArray⟩) ∧ w.cell? ⟨b, i * 4 + 2, none⟩ = some (.int .i64 ts[i].1.n) ∧ w.cell? ⟨b, i * 4 + 3, none⟩ = some (.int .i64 ts[i].2)
theorem toks_get : ∀ (ts : List (Tk × Nat)) (i : Nat) (h : i < ts.length) (r : Nat), r < 4 → (toksCells ts)[i * 4 + r]? = (tokCells ts[i])[r]?
  | x :: ts, 0, _, r, hr => by
    simp only [toksCells, List.flatMap_cons, Nat.zero_mul, Nat.zero_add, List.getElem_cons_zero]
    rw [List.getElem?_append_left (by simp [tokCells]; omega)]
  | x :: ts, i + 1, h, r, hr => by
    have h' : i < ts.length := by simpa using h
    have ih := toks_get ts i h' r hr
    simp only [toksCells, List.flatMap_cons, List.getElem_cons_succ] at *
    rw [List.getElem?_append_right (by simp [tokCells]; omega), ← ih]
    congr 1
    simp [tokCells]; omega
theorem out_at {w : World} {B : Nat} {v : Value} {ts : List (Tk × Nat)} (h : LexOut B w v ts) :
    ∃ g cap, v = .slice (some ⟨g, 0, none⟩) ts.length cap ∧ g < w.heap.size ∧ ToksAt w g ts := by
  obtain ⟨⟨_, ⟨h0, _⟩ | ⟨g, cap, cur, rfl, hB, hh, hn, _, hs, ht⟩⟩, hne⟩ := h
  · exact absurd h0 hne
  · refine ⟨g, cap, rfl, (Array.getElem?_eq_some_iff.1 hh).1, fun i hi => ?_⟩
    have key : ∀ r, r < 4 → w.cell? ⟨g, i * 4 + r, none⟩ = (tokCells ts[i])[r]? := fun r hr => by
      have h1 : (cur.toList.take (ts.length * 4))[i * 4 + r]? = (toksCells ts)[i * 4 + r]? := by rw [ht]
      rw [List.getElem?_take_of_lt (by omega), Array.getElem?_toList, toks_get ts i hi r hr] at h1
      simp only [World.cell?, hh]
      exact h1
    exact ⟨key 0 (by omega), key 1 (by omega), key 2 (by omega), key 3 (by omega)⟩
theorem ToksAt_below {w w' : World} {b : Nat} {ts : List (Tk × Nat)} (h : ToksAt w b ts) (hb : b < w.heap.size) (bel : Below w.heap.size w w') : ToksAt w' b ts := fun i hi => by
  obtain ⟨a, c, d, e⟩ := h i hi
  exact ⟨(bel.cell (p := ⟨b, _, none⟩) hb).trans a, (bel.cell (p := ⟨b, _, none⟩) hb).trans c, (bel.cell (p := ⟨b, _, none⟩) hb).trans d, (bel.cell (p := ⟨b, _, none⟩) hb).trans e⟩
/-- A list that is owned lies somewhere, where it has an element. -/
theorem own_at {w : World} {B : Nat} {e : TypeId} {v : Value} {ps : List ByteArray} (h : w.ownsRow B e 1 v ps.length (ps.map Value.string)) (hne : ps ≠ []) :
    ∃ g cap, v = .slice (some ⟨g, 0, none⟩) ps.length cap ∧ g < w.heap.size ∧ StrsAt w g ps := by
  obtain ⟨_, ⟨_, h0⟩ | ⟨g, cap, cur, rfl, hB, hh, hn, _, hs, ht⟩⟩ := h
  · exact absurd (List.length_eq_zero_iff.1 h0) hne
  · refine ⟨g, cap, rfl, (Array.getElem?_eq_some_iff.1 hh).1, fun i hi => ?_⟩
    have h1 : (cur.toList.take (ps.length * 1))[i]? = (ps.map Value.string)[i]? := by rw [ht]
    rw [List.getElem?_take_of_lt (by omega), List.getElem?_map, List.getElem?_eq_getElem hi, Array.getElem?_toList] at h1
    simp only [World.cell?, hh]
    exact h1
theorem strs_of_heap {w : World} {b : Nat} {ps : List ByteArray} {e : TypeId} (h : w.heap[b]? = some (.cells (ps.map Value.string).toArray e (0, 0))) : StrsAt w b ps := fun i hi => by
  simp [World.cell?, h, hi]

set_option maxRecDepth 100000 in
set_option maxHeartbeats 20000000 in
theorem walk (a : Option Addr) (len cap : Nat) (w : World) (fr1 fr2 : Nat × Nat) (t1 t2 tp1 tp2 : TypeId) (p1 p2 : Value) (m : Int) (hg : Ground fr1 fr2 t1 t2 tp1 tp2 p1 p2 m a len w) :
    Calls Tryd.prog 3 #[.slice a len cap] w fun e w' => e = .returned (.bool true) ∧ Below w.heap.size w w' := by
  have G0 := hideP hg
  clear hg
  by_cases hl : len ≤ 1048576
  · have HLE := hideP hl
    clear hl
    go_enter Tryd.func3, Tryd.ntmps3
    go_wp2_with fail
    refine (big_no a len cap _ HLE.out).mono ?_
    rintro e w0 ⟨rfl, rfl⟩
    go_wp2_with fail
    refine (drawLex_any a len cap HLE.out _ G0.out.code).mono ?_
    rintro e w1 ⟨s, rfl, hsz, b1⟩
    have G1 := hideP (G0.out.below b1)
    have B1 := hideP b1
    have hh1 := b1.size
    clear b1
    have hts := lexL_mono s.data.toList
    have hzr := lexL_zero s.data.toList
    have htl := lexL_len2 s.data.toList
    obtain ⟨ts, hts1⟩ : ∃ ts, (lexL s.data.toList).1 = ts := ⟨_, rfl⟩
    obtain ⟨ln, hln1⟩ : ∃ ln, (lexL s.data.toList).2 = ln := ⟨_, rfl⟩
    have HL : Hid (lexL s.data.toList = (ts, ln)) := by show _ = _; rw [← hts1, ← hln1]
    have SP : Hid (∀ W, Calls Tryd.prog 7 #[.string s] W fun e w' => ∃ v, e = .returned (.tuple #[v, .int .i64 ln]) ∧ LexOut W.heap.size w' v ts ∧ Below W.heap.size W w') := fun W => by rw [← hts1, ← hln1]; exact spec_lex s W (by omega)
    have IM : Hid (∀ W, Ground fr1 fr2 t1 t2 tp1 tp2 p1 p2 m a len W → Calls Tryd.prog 6 #[.string s] W fun e w' => ∃ v, e = .returned (.tuple #[v, .int .i64 ln]) ∧ LexOut W.heap.size w' v ts ∧ Below W.heap.size W w') := fun W h => by rw [← hts1, ← hln1]; exact impl_lex s W fr1 fr2 t1 t2 (by omega) h.g0 h.g1
    rw [hts1] at hts hzr htl
    rw [hln1] at hzr
    have MONO := hideP hts
    have ZERO := hideP hzr
    clear hts1 hln1 hts hzr
    go_wp2_with fail
    refine (IM.out _ G1.out).mono ?_
    rintro e w2 ⟨v1, rfl, hout1, b2⟩
    obtain ⟨lb, cap1, rfl, hlb2, hst1⟩ := out_at hout1
    have G2 := hideP (G1.out.below b2)
    have B2 := hideP (below_trans B1.out b2)
    clear hout1
    have T2 := hideP hst1
    have hh2 := b2.size
    clear hst1 b2
    clear G1 B1 hh1
    go_wp2_with fail
    refine (SP.out _).mono ?_
    rintro e w3 ⟨v2, rfl, hout2, b3⟩
    obtain ⟨wb, cap2, rfl, hwb3, hst2⟩ := out_at hout2
    have G3 := hideP (G2.out.below b3)
    have B3 := hideP (below_trans B2.out b3)
    have T3 := hideP (ToksAt_below T2.out hlb2 b3)
    have U3 := hideP hst2
    have hh3 := b3.size
    have hlb3 : lb < w3.heap.size := by omega
    clear hst2 b3 hout2
    clear G2 B2 T2 hh2 hh3 hlb2
    go_wp2_with fail
    refine (drawIsWord_any a len cap HLE.out _ G3.out.code).mono ?_
    rintro e w4 ⟨qs, rfl, hqs, b4⟩
    have G4 := hideP (G3.out.below b4)
    have B4 := hideP (below_trans B3.out b4)
    have T4 := hideP (ToksAt_below T3.out hlb3 b4)
    have U4 := hideP (ToksAt_below U3.out hwb3 b4)
    have hh4 := b4.size
    have hlb4 : lb < w4.heap.size := by omega
    have hwb4 : wb < w4.heap.size := by omega
    clear b4
    clear G3 B3 T3 U3 hh4 hlb3 hwb3
    go_wp2_with fail
    refine (drawNameOk_any a len cap HLE.out _ G4.out.code).mono ?_
    rintro e w5 ⟨nm, rfl, hnm, b5⟩
    have G5 := hideP (G4.out.below b5)
    have B5 := hideP (below_trans B4.out b5)
    have T5 := hideP (ToksAt_below T4.out hlb4 b5)
    have U5 := hideP (ToksAt_below U4.out hwb4 b5)
    have hh5 := b5.size
    have hlb5 : lb < w5.heap.size := by omega
    have hwb5 : wb < w5.heap.size := by omega
    clear b5
    clear G4 B4 T4 U4 hh5 hlb4 hwb4
    go_wp2_with fail
    refine (drawDecText_any a len cap HLE.out _ G5.out.code).mono ?_
    rintro e w6 ⟨dz, rfl, hdz, b6⟩
    have HDZ := hideP hdz
    have G6 := hideP (G5.out.below b6)
    have B6 := hideP (below_trans B5.out b6)
    have T6 := hideP (ToksAt_below T5.out hlb5 b6)
    have U6 := hideP (ToksAt_below U5.out hwb5 b6)
    have hh6 := b6.size
    have hlb6 : lb < w6.heap.size := by omega
    have hwb6 : wb < w6.heap.size := by omega
    clear b6 hdz
    clear G5 B5 T5 U5 hh6 hlb5 hwb5
    go_wp2_with fail
    refine (drawReadInt_any a len cap HLE.out _ G6.out.code).mono ?_
    rintro e w7 ⟨rr, rfl, hrr, b7⟩
    have G7 := hideP (G6.out.below b7)
    have B7 := hideP (below_trans B6.out b7)
    have T7 := hideP (ToksAt_below T6.out hlb6 b7)
    have U7 := hideP (ToksAt_below U6.out hwb6 b7)
    have hh7 := b7.size
    have hlb7 : lb < w7.heap.size := by omega
    have hwb7 : wb < w7.heap.size := by omega
    clear b7
    clear G6 B6 T6 U6 hh7 hlb6 hwb6
    go_wp2_with fail
    refine (drawWords_any a len cap HLE.out _ G7.out.code).mono ?_
    rintro e w8 ⟨xx, rfl, hxx, b8⟩
    have G8 := hideP (G7.out.below b8)
    have B8 := hideP (below_trans B7.out b8)
    have T8 := hideP (ToksAt_below T7.out hlb7 b8)
    have U8 := hideP (ToksAt_below U7.out hwb7 b8)
    have hh8 := b8.size
    have hlb8 : lb < w8.heap.size := by omega
    have hwb8 : wb < w8.heap.size := by omega
    clear b8
    clear G7 B7 T7 U7 hh8 hlb7 hwb7
    have rback := read_back rr.data.toList
    have rbd := readR_bd rr.data.toList
    obtain ⟨ra, hra⟩ : ∃ ra, (readR rr.data.toList).1 = ra := ⟨_, rfl⟩
    obtain ⟨rk, hrk⟩ : ∃ rk, (readR rr.data.toList).2 = rk := ⟨_, rfl⟩
    have IR : Hid (∀ W, Ground fr1 fr2 t1 t2 tp1 tp2 p1 p2 m a len W → Calls Tryd.prog 13 #[.string rr] W fun e w' => e = .returned (.tuple #[.int .i64 ra, .bool rk]) ∧ Below W.heap.size W w') := fun W h => by rw [← hra, ← hrk]; exact impl_read rr W (by omega) h.tab tp1 p1 h.es tp2 p2 h.er
    have SR : Hid (∀ W, Calls Tryd.prog 14 #[.string rr] W fun e w' => e = .returned (.tuple #[.int .i64 ra, .bool rk]) ∧ w' = W) := fun W => by rw [← hra, ← hrk]; exact spec_read rr W (by omega)
    rw [hra, hrk] at rback
    rw [hra] at rbd
    have RB := hideP rback
    clear hra hrk rback
    go_wp2_with fail
    refine (IR.out _ G8.out).mono ?_
    rintro e w9 ⟨rfl, b9⟩
    have G9 := hideP (G8.out.below b9)
    have B9 := hideP (below_trans B8.out b9)
    have T9 := hideP (ToksAt_below T8.out hlb8 b9)
    have U9 := hideP (ToksAt_below U8.out hwb8 b9)
    have hh9 := b9.size
    have hlb9 : lb < w9.heap.size := by omega
    have hwb9 : wb < w9.heap.size := by omega
    clear b9
    clear G8 B8 T8 U8 hh9 hlb8 hwb8
    go_wp2_with fail
    refine (SR.out _).mono ?_
    rintro e w9b ⟨rfl, hw9⟩
    subst hw9
    have hnms : nm.size ≤ maxLen := by unfold maxLen; omega
    have HNMS := hideP hnms
    clear hnms
    go_wp2_with fail
    refine (impl_isWord qs _).mono ?_
    rintro e w' ⟨rfl, hw'⟩
    subst hw'
    go_wp2_with fail
    refine (spec_isWord qs _).mono ?_
    rintro e w10 ⟨rfl, b10⟩
    have G10 := hideP (G9.out.below b10)
    have B10 := hideP (below_trans B9.out b10)
    have T10 := hideP (ToksAt_below T9.out hlb9 b10)
    have U10 := hideP (ToksAt_below U9.out hwb9 b10)
    have hh10 := b10.size
    have hlb10 : lb < w10.heap.size := by omega
    have hwb10 : wb < w10.heap.size := by omega
    clear G9 B9 T9 U9 hh10 hlb9 hwb9
    clear b10
    go_wp2_with fail
    refine (impl_nameOk nm _ HNMS.out).mono ?_
    rintro e w' ⟨rfl, hw'⟩
    subst hw'
    go_wp2_with fail
    refine (spec_nameOk nm _ HNMS.out).mono ?_
    rintro e w11 ⟨rfl, b11⟩
    have G11 := hideP (G10.out.below b11)
    have B11 := hideP (below_trans B10.out b11)
    have T11 := hideP (ToksAt_below T10.out hlb10 b11)
    have U11 := hideP (ToksAt_below U10.out hwb10 b11)
    have hh11 := b11.size
    have hlb11 : lb < w11.heap.size := by omega
    have hwb11 : wb < w11.heap.size := by omega
    clear G10 B10 T10 U10 hh11 hlb10 hwb10
    clear b11
    go_wp2_with fail
    refine (impl_dec dz _ HDZ.out.1 HDZ.out.2 G11.out.tab).mono ?_
    rintro e w12 ⟨rfl, b12⟩
    have G12 := hideP (G11.out.below b12)
    have B12 := hideP (below_trans B11.out b12)
    have T12 := hideP (ToksAt_below T11.out hlb11 b12)
    have U12 := hideP (ToksAt_below U11.out hwb11 b12)
    have hh12 := b12.size
    have hlb12 : lb < w12.heap.size := by omega
    have hwb12 : wb < w12.heap.size := by omega
    clear G11 B11 T11 U11 hh12 hlb11 hwb11
    clear b12
    go_wp2_with fail
    refine (spec_dec dz _ HDZ.out.1 HDZ.out.2).mono ?_
    rintro e w' ⟨rfl, hw'⟩
    subst hw'
    go_wp2_with fail
    refine (impl_words xx m _ (by omega) G12.out.ml).mono ?_
    rintro e w13 ⟨xb, ps, rfl, hxb, hps, hxh, b13⟩
    have G13 := hideP (G12.out.below b13)
    have B13 := hideP (below_trans B12.out b13)
    have T13 := hideP (ToksAt_below T12.out hlb12 b13)
    have U13 := hideP (ToksAt_below U12.out hwb12 b13)
    have hh13 := b13.size
    have hlb13 : lb < w13.heap.size := by omega
    have hwb13 : wb < w13.heap.size := by omega
    clear G12 B12 T12 U12 hh13 hlb12 hwb12
    have hxbs : xb < w13.heap.size := (Array.getElem?_eq_some_iff.1 hxh).1
    have X13 := hideP (strs_of_heap hxh)
    have hlen : ps.length ≤ 201 := by
      have h1 := congrArg List.length hps.out
      rw [List.length_map] at h1
      have h2 := wordsL_length xx.data.toList
      rw [dlen] at h2; omega
    have hne : ps ≠ [] := by
      intro e0; have h1 := hps.out; rw [e0] at h1; exact wordsL_ne _ h1.symm
    clear b13 hxh
    go_wp2_with fail
    refine (spec_words xx _ (by omega)).mono ?_
    rintro e w14 ⟨v3, ps2, rfl, hps2, hown, b14⟩
    obtain rfl : ps2 = ps := bytes_inj (hps2.out.trans hps.out.symm)
    have G14 := hideP (G13.out.below b14)
    have B14 := hideP (below_trans B13.out b14)
    have T14 := hideP (ToksAt_below T13.out hlb13 b14)
    have U14 := hideP (ToksAt_below U13.out hwb13 b14)
    have hh14 := b14.size
    have hlb14 : lb < w14.heap.size := by omega
    have hwb14 : wb < w14.heap.size := by omega
    clear G13 B13 T13 U13 hh14 hlb13 hwb13
    have X14 := hideP (X13.out.below hxbs b14)
    obtain ⟨yb, cap3, rfl, hybs, hyst⟩ := own_at hown hne
    have Y14 := hideP hyst
    clear b14 hown hyst hne
    go_wp2_with fail
    refine (sameTexts_same ps2 xb yb _ _ _ (by omega) X14.out Y14.out).mono ?_
    rintro e w15 ⟨rfl, nq, rfl⟩
    clear X13 X14 Y14 hps hps2 hlen hxb hxbs hybs hqs hrr hxx hnm SP IM IR SR HDZ hlb14 hwb14
    go_wp2
    go_loopw [17] (fun i wr => ∃ k : Nat, k ≤ ts.length ∧ i = .int .i64 k ∧ ∃ n, wr = w14.drewN n) (fun i _ => ts.length - (intOf i).toNat)
    case atStart => exact ⟨0, Nat.zero_le _, rfl, nq, rfl⟩
    case round =>
      obtain ⟨k, hk, rfl, n, rfl⟩ := hrel
      by_cases hlt : k < ts.length
      · obtain ⟨x, hx⟩ : ∃ x, ts[k] = x := ⟨_, rfl⟩
        have hp := T14.out k hlt
        have hq := U14.out k hlt
        rw [hx] at hp hq
        obtain ⟨⟨ka, tx, na, ll⟩, ln2⟩ := x
        obtain ⟨tb, htb⟩ : ∃ tb : ByteArray, (⟨tx.toArray⟩ : ByteArray) = tb := ⟨_, rfl⟩
        simp only [htb] at hp hq
        clear htb
        obtain ⟨e0, e1, e2, e3⟩ := hp
        obtain ⟨d0, d1, d2, d3⟩ := hq
        have HX := hideP hx
        clear hx
        by_cases hk0 : k = 0
        · subst hk0
          go_wp2
          go_quiet (fail)
          go_wp2
          go_roundw
          case rel => exact ⟨1, by omega, rfl, _, rfl⟩
          case measure => simp [intOf]; omega
        · obtain ⟨j, rfl⟩ : ∃ j, k = j + 1 := ⟨k - 1, by omega⟩
          have hpr := (T14.out j (by omega)).2.2.2
          have hmo := MONO.out j hlt
          rw [HX.out] at hmo
          obtain ⟨lp, hlp⟩ : ∃ lp, ts[j].2 = lp := ⟨_, rfl⟩
          rw [hlp] at hpr hmo
          clear hlp
          have hmo' : decide ((ln2 : Int) < (lp : Int)) = false := by simp; exact hmo
          go_wp2
          go_quiet (fail)
          go_wp2
          go_roundw
          case rel => exact ⟨j + 1 + 1, by omega, by go_num, _, rfl⟩
          case measure => simp [intOf]; omega
      · have B15 := hideP (B14.out.trans (below_drewN w0.heap.size w14 n))
        have G15 := hideP (G14.out.below (below_drewN w14.heap.size w14 n))
        clear T14 U14 G14 B14 MONO htl
        cases rk with
        | true =>
          have hrr2 : (Lib.itoa ra == rr.toList) = true := by rw [Lib.toList_data, RB.out rfl]; simp
          go_wp2_with fail
          refine (impl_dec ra _ (by omega) (by omega) G15.out.tab).mono ?_
          rintro e w16 ⟨rfl, b16⟩
          have B16 := hideP (below_trans B15.out b16)
          have G16 := hideP (G15.out.below b16)
          clear b16
          go_wp2_with fail
          refine (impl_isWord nm _).mono ?_
          rintro e w' ⟨rfl, hw'⟩
          subst hw'
          by_cases hq : isWordL nm.data.toList = true
          · have hnk := name_no_word nm.data.toList hq
            go_wp2_with fail
            refine (impl_nameOk nm _ HNMS.out).mono ?_
            rintro e w' ⟨rfl, hw'⟩
            subst hw'
            by_cases hz : ln = 0
            · subst hz
              by_cases h97 : decide (2997 < (s.size : Int)) = true
              · go_wp2
                go_ret
                exact ⟨rfl, B16.out⟩
              · have h97' : decide (2997 < (s.size : Int)) = false := by simpa using h97
                have hsn : s.size ≤ 2997 := by simp at h97'; omega
                clear h97
                go_wp2_with fail
                refine (impl_lex3 s _ fr1 fr2 t1 t2 hsn HL.out G16.out.g0 G16.out.g1).mono ?_
                rintro e w17 ⟨v4, rfl, hout4, b17⟩
                obtain ⟨mb, cap4, rfl, hmb, hst4⟩ := out_at hout4
                have B17 := hideP (below_trans B16.out b17)
                clear hout4 hst4 b17
                go_wp2
                go_ret
                exact ⟨rfl, B17.out⟩
            · have hz1 : ((ln : Int) != 0) = true := by simp; exact hz
              have hz2 : ((ln : Int) == 0) = false := by simp; exact hz
              have hts0 := ZERO.out hz
              subst hts0
              go_wp2
              go_ret
              exact ⟨rfl, B16.out⟩
          · have hq' : isWordL nm.data.toList = false := by simpa using hq
            clear hq
            by_cases hz : ln = 0
            · subst hz
              by_cases h97 : decide (2997 < (s.size : Int)) = true
              · go_wp2
                go_ret
                exact ⟨rfl, B16.out⟩
              · have h97' : decide (2997 < (s.size : Int)) = false := by simpa using h97
                have hsn : s.size ≤ 2997 := by simp at h97'; omega
                clear h97
                go_wp2_with fail
                refine (impl_lex3 s _ fr1 fr2 t1 t2 hsn HL.out G16.out.g0 G16.out.g1).mono ?_
                rintro e w17 ⟨v4, rfl, hout4, b17⟩
                obtain ⟨mb, cap4, rfl, hmb, hst4⟩ := out_at hout4
                have B17 := hideP (below_trans B16.out b17)
                clear hout4 hst4 b17
                go_wp2
                go_ret
                exact ⟨rfl, B17.out⟩
            · have hz1 : ((ln : Int) != 0) = true := by simp; exact hz
              have hz2 : ((ln : Int) == 0) = false := by simp; exact hz
              have hts0 := ZERO.out hz
              subst hts0
              go_wp2
              go_ret
              exact ⟨rfl, B16.out⟩
        | false =>
          go_wp2_with fail
          refine (impl_isWord nm _).mono ?_
          rintro e w' ⟨rfl, hw'⟩
          subst hw'
          by_cases hq : isWordL nm.data.toList = true
          · have hnk := name_no_word nm.data.toList hq
            go_wp2_with fail
            refine (impl_nameOk nm _ HNMS.out).mono ?_
            rintro e w' ⟨rfl, hw'⟩
            subst hw'
            by_cases hz : ln = 0
            · subst hz
              by_cases h97 : decide (2997 < (s.size : Int)) = true
              · go_wp2
                go_ret
                exact ⟨rfl, B15.out⟩
              · have h97' : decide (2997 < (s.size : Int)) = false := by simpa using h97
                have hsn : s.size ≤ 2997 := by simp at h97'; omega
                clear h97
                go_wp2_with fail
                refine (impl_lex3 s _ fr1 fr2 t1 t2 hsn HL.out G15.out.g0 G15.out.g1).mono ?_
                rintro e w17 ⟨v4, rfl, hout4, b17⟩
                obtain ⟨mb, cap4, rfl, hmb, hst4⟩ := out_at hout4
                have B17 := hideP (below_trans B15.out b17)
                clear hout4 hst4 b17
                go_wp2
                go_ret
                exact ⟨rfl, B17.out⟩
            · have hz1 : ((ln : Int) != 0) = true := by simp; exact hz
              have hz2 : ((ln : Int) == 0) = false := by simp; exact hz
              have hts0 := ZERO.out hz
              subst hts0
              go_wp2
              go_ret
              exact ⟨rfl, B15.out⟩
          · have hq' : isWordL nm.data.toList = false := by simpa using hq
            clear hq
            by_cases hz : ln = 0
            · subst hz
              by_cases h97 : decide (2997 < (s.size : Int)) = true
              · go_wp2
                go_ret
                exact ⟨rfl, B15.out⟩
              · have h97' : decide (2997 < (s.size : Int)) = false := by simpa using h97
                have hsn : s.size ≤ 2997 := by simp at h97'; omega
                clear h97
                go_wp2_with fail
                refine (impl_lex3 s _ fr1 fr2 t1 t2 hsn HL.out G15.out.g0 G15.out.g1).mono ?_
                rintro e w17 ⟨v4, rfl, hout4, b17⟩
                obtain ⟨mb, cap4, rfl, hmb, hst4⟩ := out_at hout4
                have B17 := hideP (below_trans B15.out b17)
                clear hout4 hst4 b17
                go_wp2
                go_ret
                exact ⟨rfl, B17.out⟩
            · have hz1 : ((ln : Int) != 0) = true := by simp; exact hz
              have hz2 : ((ln : Int) == 0) = false := by simp; exact hz
              have hts0 := ZERO.out hz
              subst hts0
              go_wp2
              go_ret
              exact ⟨rfl, B15.out⟩
  · have HLE : Hid (1048576 < len) := by show _ < _; omega
    clear hl
    go_enter Tryd.func3, Tryd.ntmps3
    go_wp2_with fail
    refine (big_yes a len cap _ HLE.out).mono ?_
    rintro e w0 ⟨rfl, rfl⟩
    go_wp2
    go_ret
    exact ⟨rfl, Below.refl _ _⟩
end FnLexLaw
end Go.Proofs.YtjgiohhfhncepaaDoor
