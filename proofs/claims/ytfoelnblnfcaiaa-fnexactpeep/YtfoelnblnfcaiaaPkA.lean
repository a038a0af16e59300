/- The contracts of impl.isThereAlready and impl.aim. -/
import Derived.Test.YtfoelnblnfcaiaaPeeP
import Derived.Test.YtfoelnblnfcaiaaCpA
import Derived.Test.YtfoelnblnfcaiaaSetH
namespace Go.Proofs.Ytfoelnblnfcaiaa
open Go.ChangeShapes Go.WideShapes Go.ChangeAt Go.RowKit
theorem ret_b {a b : Bool} (h : b = a) : Ending.returned (.bool a) = Ending.returned (.bool b) := by rw [h]
theorem but_of_below {g : Nat} {w w' : World} (h : Below w.heap.size w w') : But g w w' := ⟨h.os, h.tape, h.output, h.size, fun k hk _ => h.block k hk⟩
theorem alr_any (op r a b n op2 r2 a2 b2 n2 : Int) (w : World) :
    Calls Try.prog 41 #[.agg #[.int .i64 op, .int .i64 r, .int .i64 a, .int .i64 b, .int .i64 n], .agg #[.int .i64 op2, .int .i64 r2, .int .i64 a2, .int .i64 b2, .int .i64 n2]] w fun e w' => e = .returned (.bool (alrW ⟨op, r, a, b, n⟩ ⟨op2, r2, a2, b2, n2⟩)) ∧ Below w.heap.size w w' := by
  have AL := hideP (below2 w (.cells #[.int .i64 op, .int .i64 r, .int .i64 a, .int .i64 b, .int .i64 n] 44) (.cells #[.int .i64 op2, .int .i64 r2, .int .i64 a2, .int .i64 b2, .int .i64 n2] 44))
  have E : Hid (alrW ⟨op, r, a, b, n⟩ ⟨op2, r2, a2, b2, n2⟩ = (decide (op = 2) && (decide (op2 = 1) && (decide (r = r2) && decide (n = n2))))) := by
    show _ = _
    unfold alrW
    rw [Bool.eq_iff_iff]
    simp
  by_cases h1 : op = 2
  · by_cases h2 : op2 = 1
    · by_cases h3 : r = r2
      · subst h1 h2 h3
        go_enter Try.func41, Try.ntmps41
        go_wp2
        go_ret
        exact ⟨ret_b (by rw [E.out, Bool.eq_iff_iff]; simp), AL.out⟩
      · subst h1 h2
        have h3' : (r == r2) = false := by simpa using h3
        go_enter Try.func41, Try.ntmps41
        go_wp2
        go_ret
        exact ⟨ret_b (by rw [E.out]; simp [h3]), AL.out⟩
    · subst h1
      have h2' : (op2 == 1) = false := by simpa using h2
      go_enter Try.func41, Try.ntmps41
      go_wp2
      go_ret
      exact ⟨ret_b (by rw [E.out]; simp [h2]), AL.out⟩
  · have h1' : (op == 2) = false := by simpa using h1
    go_enter Try.func41, Try.ntmps41
    go_wp2
    go_ret
    exact ⟨ret_b (by rw [E.out]; simp [h1]), AL.out⟩
set_option maxHeartbeats 8000000 in
set_option maxRecDepth 100000 in
theorem aim_any (l : List Wrd) (num : List Int) (w : World) (B B2 g n cap g2 n2 cap2 : Nat) (h : OwnE WrE w B (.slice (some ⟨g, 0, none⟩) n cap) l) (h2 : OwnI w B2 (.slice (some ⟨g2, 0, none⟩) n2 cap2) num) (hl : l.length ≤ 6000)
    (hg : ∀ x ∈ l, goesW x = true → 0 ≤ x.n ∧ x.n < (num.length : Int)) :
    Calls Try.prog 42 #[.slice (some ⟨g, 0, none⟩) n cap, .slice (some ⟨g2, 0, none⟩) n2 cap2] w fun e w' => e = .returned (.tuple #[]) ∧ OwnE WrE w' B (.slice (some ⟨g, 0, none⟩) n cap) (l.map (aimX num)) ∧ But g w w' := by
  have hne := h.ne_int h2
  have hn : n = l.length := by obtain ⟨g', cap', cur, hv, _⟩ := h.parts WrOk; cases hv; rfl
  have hn2 : n2 = num.length := by obtain ⟨g', cap', cur, hv, _⟩ := h2.parts; cases hv; rfl
  subst hn hn2
  have hm := maxLen_lt
  have HL := hideP h
  have HN := hideP h2
  have HG := hideP hg
  have A0 : Hid (amL num l 0 = l) := amL_zero _ _
  clear h h2 hg
  go_enter Try.func42, Try.ntmps42
  go_wp2
  go_loopg [8] l.length (fun gk i wr => ∃ j : Nat, gk + j = l.length ∧ i = .int .i64 j ∧ Hid (OwnE WrE wr B (.slice (some ⟨g, 0, none⟩) l.length cap) (amL num l j)) ∧ Hid (But g w wr))
  case atStart => exact ⟨0, by simp, rfl, by rw [A0.out]; exact HL.out, But.refl _ _⟩
  case round =>
    obtain ⟨j, hj, rfl, ho, hbw⟩ := hrel
    by_cases hlt : j < l.length
    · have hjl : j < (amL num l j).length := by rw [amL_len]; exact hlt
      obtain ⟨x, hx⟩ : ∃ x, l[j] = x := ⟨_, rfl⟩
      have HX : Hid (l[j] = x) := hx
      obtain ⟨y0, y1, y2, y3, y4⟩ := x
      have hxa : (amL num l j)[j] = ⟨y0, y1, y2, y3, y4⟩ := (amL_at hlt).trans hx
      obtain ⟨r0, r1, r2, r3, r4, r5, r6⟩ := OwnE.w5 ho.out hjl hxa
      have HXA := hideP hxa
      have al := (Below.refl wr.heap.size wr).alloc (Nat.le_refl _) (.cells #[.int .i64 y0, .int .i64 y1, .int .i64 y2, .int .i64 y3, .int .i64 y4] 44)
      have AL := hideP al
      have NX : Hid ((wr.alloc (.cells #[.int .i64 y0, .int .i64 y1, .int .i64 y2, .int .i64 y3, .int .i64 y4] 44)).heap[wr.heap.size]? = some (.cells #[.int .i64 y0, .int .i64 y1, .int .i64 y2, .int .i64 y3, .int .i64 y4] 44)) := by show (wr.heap.push _)[wr.heap.size]? = _; exact Array.getElem?_push_size
      clear hx hxa al r5
      go_wp2_with fail
      refine (goes_any y0 y1 y2 y3 y4 _).mono ?_
      rintro e2 w2 ⟨rfl, b2⟩
      have BA := hideP (below_trans AL.out b2)
      have OO2 := hideP (ho.out.stays BA.out)
      have BB2 : Hid (But g w w2) := hbw.out.twice (but_of_below BA.out)
      have NY := hideP (keepW NX.out b2)
      have q4 := (cells_of NY.out).1 4
      simp at q4
      have hlw : wr.heap.size < w2.heap.size := (Array.getElem?_eq_some_iff.1 NY.out).1
      clear b2 r0 r1 r2 r3 r4 NX NY AL
      have hjl2 : j < (amL num l (j + 1)).length := by rw [amL_len]; exact hlt
      cases hq : goesW ⟨y0, y1, y2, y3, y4⟩
      · have U : Hid (amL num l (j + 1) = amL num l j) := amL_same hlt (by rw [HX.out]; exact hq)
        clear q4 hjl2 HXA hjl
        go_wp2
        go_roundg (l.length - (j + 1))
        case rel => exact ⟨j + 1, by omega, by go_num, by rw [U.out]; exact OO2.out, BB2.out⟩
        case measure => omega
      · have hy := HG.out l[j] (List.getElem_mem hlt) (by rw [HX.out]; exact hq)
        rw [HX.out] at hy
        simp only at hy
        obtain ⟨k, rfl⟩ := Int.eq_ofNat_of_zero_le hy.1
        have hk : k < num.length := by omega
        obtain ⟨z, hz⟩ : ∃ z, num[k] = z := ⟨_, rfl⟩
        have x0 := ints_at (HN.out.butG BB2.out (by simp [Value.ownBlock]; omega)) k hk
        rw [hz] at x0
        have U : Hid (amL num l (j + 1) = (amL num l j).set j ⟨(amL num l j)[j].op, (amL num l j)[j].r, (amL num l j)[j].a, (amL num l j)[j].b, z⟩) := by
          show _ = _
          rw [amL_succ hlt, HXA.out, HX.out]
          unfold aimX
          rw [if_pos hq]
          simp only [Int.toNat_natCast, List.getElem?_eq_getElem hk, hz, Option.getD_some]
        obtain ⟨s0, s1, s2, s3, s4, s5, s6⟩ := OwnE.w5 OO2.out hjl HXA.out
        have f4 := s5 (j * 5 + 4)
        have O3 := hideP (OwnE.setN OO2.out hjl z)
        have B3 := hideP (BB2.out.set (j * 5 + 4) (.int .i64 z))
        clear s0 s1 s2 s3 s5 hz hq hy
        go_wp2
        go_roundg (l.length - (j + 1))
        case rel => exact ⟨j + 1, by omega, by go_num, by rw [U.out]; exact O3.out, B3.out⟩
        case measure => omega
    · have hjn : j = l.length := by omega
      subst hjn
      go_wp2
      go_end0
      exact ⟨rfl, by rw [← amL_all]; exact ho.out, hbw.out⟩
end Go.Proofs.Ytfoelnblnfcaiaa

/- Peep's walk through the words: what lies where. -/
namespace Go.Proofs.Ytfoelnblnfcaiaa
open Go.ChangeShapes Go.WideShapes Go.ChangeAt Go.RowKit
/-- The kept image's box K, the set D; lists from C on. -/
structure PkAt (w : World) (bm br : Array Value) (K D N C gs cgs : Nat) (sizes : List Int) (params slots : Int) (aims : List Int) (gn cn gk ck : Nat) (ks : List Wrd) (ns : List Int) (wr : World) : Prop where
  num : OwnI wr C (.slice (some ⟨gn, 0, none⟩) ns.length cn) ns
  box : wr.heap[K]? = some (.cells #[.slice (some ⟨gs, 0, none⟩) sizes.length cgs, .int .i64 params, .int .i64 slots, .slice (some ⟨gk, 0, none⟩) ks.length ck] 30 (0, 0))
  kept : OwnE WrE wr C (.slice (some ⟨gk, 0, none⟩) ks.length ck) ks
  set : SetIs InK wr D N aims
  szs : OwnI wr w.heap.size (.slice (some ⟨gs, 0, none⟩) sizes.length cgs) sizes
  bel : Below w.heap.size w wr
  inb : wr.heap[w.heap.size]? = some (.cells bm 30 (0, 0))
  out : wr.heap[w.heap.size + 1]? = some (.cells br 30 (0, 0))
  lo : gs < C ∧ K < D ∧ D < C ∧ w.heap.size + 1 < K ∧ w.heap.size + 1 < C
section
variable {w : World} {bm br : Array Value} {K D N C gs cgs : Nat} {sizes : List Int} {params slots : Int} {aims : List Int} {gn cn gk ck : Nat} {ks : List Wrd} {ns : List Int} {wr : World}
theorem PkAt.low (h : PkAt w bm br K D N C gs cgs sizes params slots aims gn cn gk ck ks ns wr) : C ≤ gn ∧ gn < wr.heap.size ∧ C ≤ gk ∧ gk < wr.heap.size ∧ gn ≠ gk ∧ C ≤ wr.heap.size := by
  have a := h.num.low gn rfl
  have b := h.kept.low gk rfl
  exact ⟨a.1, a.2, b.1, b.2, h.kept.ne_int h.num, by omega⟩
theorem PkAt.stays {W : World} (h : PkAt w bm br K D N C gs cgs sizes params slots aims gn cn gk ck ks ns wr) (b : Below wr.heap.size wr W) : PkAt w bm br K D N C gs cgs sizes params slots aims gn cn gk ck ks ns W :=
  ⟨h.num.stays b, keepC h.box b, h.kept.stays b, h.set.stays b, h.szs.stays b, below_trans h.bel b, keepC h.inb b, keepC h.out b, h.lo⟩
/-- The numbers' list grown. -/
theorem PkAt.grewN {W : World} {gn' cn' : Nat} {ns' : List Int} (h : PkAt w bm br K D N C gs cgs sizes params slots aims gn cn gk ck ks ns wr) (b : But gn wr W) (o : OwnI W C (.slice (some ⟨gn', 0, none⟩) ns'.length cn') ns') : PkAt w bm br K D N C gs cgs sizes params slots aims gn' cn' gk ck ks ns' W := by
  obtain ⟨l1, l2, l3, l4, l5, l6⟩ := h.low
  have lo := h.lo
  exact ⟨o, keepG h.box b (by omega), h.kept.butG b (by simp [Value.ownBlock]; omega), h.set.but b (by omega), h.szs.butG b (by simp [Value.ownBlock]; omega), h.bel.trans (b.below (by omega) h.bel.size), keepG h.inb b (by omega), keepG h.out b (by omega), h.lo⟩
/-- The kept words' list grown, and the box told so. -/
theorem PkAt.grewK {W : World} {gk' ck' : Nat} {ks' : List Wrd} (h : PkAt w bm br K D N C gs cgs sizes params slots aims gn cn gk ck ks ns wr) (b : But gk wr W) (o : OwnE WrE W C (.slice (some ⟨gk', 0, none⟩) ks'.length ck') ks') : PkAt w bm br K D N C gs cgs sizes params slots aims gn cn gk' ck' ks' ns (W.setCell ⟨K, 3, none⟩ (.slice (some ⟨gk', 0, none⟩) ks'.length ck')) := by
  obtain ⟨l1, l2, l3, l4, l5, l6⟩ := h.low
  have lo := h.lo
  have hk' := (o.low gk' rfl).1
  have b2 : But K W (W.setCell ⟨K, 3, none⟩ (.slice (some ⟨gk', 0, none⟩) ks'.length ck')) := (But.refl _ _).set _ _
  have bx := heap_setCell_same W K 3 _ _ (.slice (some ⟨gk', 0, none⟩) ks'.length ck') (keepG h.box b (by omega))
  have bw := h.bel.trans (b.below (by omega) h.bel.size)
  exact ⟨(h.num.butG b (by simp [Value.ownBlock]; omega)).butG b2 (by simp [Value.ownBlock]; omega), by simpa using bx, o.butG b2 (by simp [Value.ownBlock]; omega), (h.set.but b (by omega)).but b2 (by omega), (h.szs.butG b (by simp [Value.ownBlock]; omega)).butG b2 (by
      intro e
      have e2 := own_blk e
      obtain ⟨_, _, _, hv, _, hh, _⟩ := h.szs.parts
      cases hv
      rw [e2, h.box] at hh
      injection hh with hh
      injection hh with _ e3
      exact absurd e3 (by decide)), bw.trans (b2.below (by omega) bw.size), keepG (keepG h.inb b (by omega)) b2 (by omega), keepG (keepG h.out b (by omega)) b2 (by omega), h.lo⟩
/-- The kept words told anew. -/
theorem PkAt.aimed {W : World} {ks' : List Wrd} (h : PkAt w bm br K D N C gs cgs sizes params slots aims gn cn gk ck ks ns wr) (b : But gk wr W) (hl : ks'.length = ks.length) (o : OwnE WrE W C (.slice (some ⟨gk, 0, none⟩) ks.length ck) ks') : PkAt w bm br K D N C gs cgs sizes params slots aims gn cn gk ck ks' ns W := by
  obtain ⟨l1, l2, l3, l4, l5, l6⟩ := h.low
  have lo := h.lo
  exact ⟨h.num.butG b (by simp [Value.ownBlock]; omega), by rw [hl]; exact keepG h.box b (by omega), by rw [hl]; exact o, h.set.but b (by omega), h.szs.butG b (by simp [Value.ownBlock]; omega), h.bel.trans (b.below (by omega) h.bel.size), keepG h.inb b (by omega), keepG h.out b (by omega), h.lo⟩
/-- What the result's box is written from. -/
theorem PkAt.made (h : PkAt w bm br K D N C gs cgs sizes params slots aims gn cn gk ck ks ns wr) (W : World) (b : But (w.heap.size + 1) wr W) : MadeIm w ⟨sizes, params, slots, ks⟩ (.returned (.agg #[.slice (some ⟨gs, 0, none⟩) sizes.length cgs, .int .i64 params, .int .i64 slots, .slice (some ⟨gk, 0, none⟩) ks.length ck])) W := by
  obtain ⟨l1, l2, l3, l4, l5, l6⟩ := h.low
  have lo := h.lo
  refine ⟨gs, cgs, gk, ck, rfl, h.szs.butG b (fun e => ?_), (h.kept.butG b (by simp [Value.ownBlock]; omega)).mono (by omega), h.bel.trans (b.below (by omega) h.bel.size)⟩
  have e2 := own_blk e
  obtain ⟨_, _, _, hv, _, hh, _⟩ := h.szs.parts
  cases hv
  rw [e2, h.out] at hh
  injection hh with hh
  injection hh with _ e3
  exact absurd e3 (by decide)
theorem PkAt.start {w6 : World} {B' : Nat} {x : Value} (hs : SetIs InK w6 D N aims) (hb : Below w.heap.size w w6) (i1 : w6.heap[w.heap.size]? = some (.cells bm 30 (0, 0))) (i2 : w6.heap[w.heap.size + 1]? = some (.cells br 30 (0, 0)))
    (i3 : w6.heap[K]? = some (.cells #[.slice (some ⟨gs, 0, none⟩) sizes.length cgs, .int .i64 params, .int .i64 slots, x] 30 (0, 0))) (o : OwnI w6 B' (.slice (some ⟨gs, 0, none⟩) sizes.length cgs) sizes) (hB : w.heap.size ≤ B') (h1 : K < D) (h2 : w.heap.size + 1 < K) :
    PkAt w bm br K D N w6.heap.size gs cgs sizes params slots aims (w6.heap.size + 1) 0 w6.heap.size 0 [] [] (((w6.setCell ⟨K, 3, none⟩ (.slice (some ⟨w6.heap.size, 0, none⟩) 0 0)).alloc (.cells #[] 44)).alloc (.cells #[] 3)) := by
  have hD := hs.lt
  have hg := (o.low gs rfl).2
  have b2 : But K w6 (w6.setCell ⟨K, 3, none⟩ (.slice (some ⟨w6.heap.size, 0, none⟩) 0 0)) := (But.refl _ _).set _ _
  have bx := heap_setCell_same _ K 3 _ _ (.slice (some ⟨w6.heap.size, 0, none⟩) 0 0) i3
  have s1 := hs.but b2 (by omega)
  have o1 := o.butG b2 (by
    intro e
    have e2 := own_blk e
    obtain ⟨_, _, _, hv, _, hh, _⟩ := o.parts
    cases hv
    rw [e2, i3] at hh
    injection hh with hh
    injection hh with _ e3
    exact absurd e3 (by decide))
  have j1 := keepG i1 b2 (by omega)
  have j2 := keepG i2 b2 (by omega)
  have bw := hb.trans (b2.below (B := w.heap.size) (by omega) hb.size)
  have z2 : (w6.setCell ⟨K, 3, none⟩ (.slice (some ⟨w6.heap.size, 0, none⟩) 0 0)).heap.size = w6.heap.size := by simp
  obtain ⟨W6, hW6⟩ : ∃ W6, (w6.setCell ⟨K, 3, none⟩ (.slice (some ⟨w6.heap.size, 0, none⟩) 0 0)) = W6 := ⟨_, rfl⟩
  rw [hW6] at b2 bx s1 o1 j1 j2 bw z2 ⊢
  have a6 := (Below.refl W6.heap.size W6).alloc (Nat.le_refl _) (.cells #[] 44)
  have k0 : OwnE WrE (W6.alloc (.cells #[] 44)) w6.heap.size (.slice (some ⟨w6.heap.size, 0, none⟩) 0 0) [] := OwnE.of_parts WrOk (l := []) (Nat.le_refl _) (by rw [← z2]; exact heap_alloc_new W6 (.cells #[] 44)) (Nat.le_refl _) (Nat.zero_le _) (by rw [Nat.zero_mul]; rfl) (fun j hj => absurd hj (Nat.not_lt_zero _))
  have z3 : (W6.alloc (.cells #[] 44)).heap.size = w6.heap.size + 1 := by simp [z2]
  obtain ⟨W7, hW7⟩ : ∃ W7, (W6.alloc (.cells #[] 44)) = W7 := ⟨_, rfl⟩
  rw [hW7] at a6 k0 z3 ⊢
  have a7 := (Below.refl W7.heap.size W7).alloc (Nat.le_refl _) (.cells #[] 3)
  have n1 := own_lit W7 [] #[] (w6.heap.size + 1) 0 z3.symm rfl rfl (by simp)
  have bx2 : W6.heap[K]? = some (.cells #[.slice (some ⟨gs, 0, none⟩) sizes.length cgs, .int .i64 params, .int .i64 slots, .slice (some ⟨w6.heap.size, 0, none⟩) 0 0] 30 (0, 0)) := by simpa using bx
  exact ⟨n1.mono (by omega), keepC (keepC bx2 a6) a7, k0.stays a7, (s1.stays a6).stays a7, ((o1.stays a6).stays a7).mono hB, below_trans (below_trans bw a6) a7, keepC (keepC j1 a6) a7, keepC (keepC j2 a6) a7, by omega⟩
end
end Go.Proofs.Ytfoelnblnfcaiaa
