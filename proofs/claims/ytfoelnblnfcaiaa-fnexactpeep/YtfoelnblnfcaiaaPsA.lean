/- spec.Peep's walk through the words: what lies where. -/
import Derived.Test.YtfoelnblnfcaiaaPeeP
import Derived.Test.YtfoelnblnfcaiaaCpA
import Derived.Test.YtfoelnblnfcaiaaRwT
import Derived.Test.YtfoelnblnfcaiaaSmWP
import Derived.Deep.CutRange
namespace Go.Proofs.Ytfoelnblnfcaiaa
open Go.ChangeShapes Go.WideShapes Go.ChangeAt Go.RowKit
def seenP (met : List Int) (i : Nat) : Bool := decide ((i : Int) ∈ met)
theorem seenP_set {w : World} {gs n : Nat} {met : List Int} (h : RowT w gs n (seenP met)) {i : Nat} (hi : i < n) : RowT (w.setCell ⟨gs, i, none⟩ (.bool true)) gs n (seenP (met ++ [(i : Int)])) :=
  h.set hi (fun j _ => by
    unfold seenP
    by_cases e : j = i
    · subst e; simp
    · rw [if_neg e, decide_eq_decide]; simp; omega)
theorem infoBP : (Try.prog.info? 4).map (fun i => (i.zero, i.size, i.bytes)) = some (some (.bool false), 1, 1) := by kernel_rfl
theorem make_boolsP (n : Nat) (hn : n ≤ 6000) (W : World) : (Instr.makeSlice 50 (.int .i64 (n : Int)) (.int .i64 (n : Int))).run Try.prog W = .ok (.slice (some ⟨W.heap.size, 0, none⟩) n n) (W.alloc (.cells (madeCells #[.bool false] n) 4)) := by
  have := make_n (P := Try.prog) Try.underlying50 infoBP n (by omega) (by omega) W
  rw [Nat.mul_one] at this
  exact this
theorem rowT_madeP (w : World) (n : Nat) : RowT (w.alloc (.cells (madeCells #[.bool false] n) 4)) w.heap.size n (seenP []) :=
  ⟨_, by show (w.heap.push _)[w.heap.size]? = _; exact Array.getElem?_push_size, by rw [size_madeCells]; exact Nat.le_refl _, fun i hi => by simp [madeCells, hi, Nat.mod_one, seenP]⟩
theorem RowT.but {w w' : World} {g n k : Nat} {f : Nat → Bool} (h : RowT w g n f) (b : But k w w') (hne : g ≠ k) : RowT w' g n f := h.keep (b.block _ h.lt hne)
theorem sd_zero {m : Img} (h : imgOk m = true) : ∀ x ∈ m.code, x.op = 2 → x.a = 0 ∧ x.b = 0 := fun x hx he => by
  unfold imgOk at h
  simp only [Bool.and_eq_true, List.all_eq_true] at h
  have hw := h.1.2 x hx
  obtain ⟨op, r, a, b, n⟩ := x
  simp only at he
  subst he
  rw [wrd_2] at hw
  simp only [Bool.and_eq_true, beq_iff_eq] at hw
  simp only
  omega
structure PsAt (w : World) (bm br bk : Array Value) (K D n : Nat) (f : Nat → Bool) (C gs cgs : Nat) (sizes : List Int) (wr : World) : Prop where
  box : wr.heap[K]? = some (.cells bk 30 (0, 0))
  row : RowT wr D n f
  szs : OwnI wr w.heap.size (.slice (some ⟨gs, 0, none⟩) sizes.length cgs) sizes
  bel : Below w.heap.size w wr
  inb : wr.heap[w.heap.size]? = some (.cells bm 30 (0, 0))
  out : wr.heap[w.heap.size + 1]? = some (.cells br 30 (0, 0))
  lo : gs < C ∧ gs < K ∧ K < D ∧ D < C ∧ w.heap.size + 1 < K ∧ w.heap.size + 1 < gs ∧ C ≤ wr.heap.size
section
variable {w : World} {bm br bk : Array Value} {K D n : Nat} {f : Nat → Bool} {C gs cgs : Nat} {sizes : List Int} {wr : World}
theorem PsAt.stays {W : World} (h : PsAt w bm br bk K D n f C gs cgs sizes wr) (b : Below wr.heap.size wr W) : PsAt w bm br bk K D n f C gs cgs sizes W :=
  ⟨keepC h.box b, h.row.stays b, h.szs.stays b, below_trans h.bel b, keepC h.inb b, keepC h.out b, by have := h.lo; have := b.size; omega⟩
theorem PsAt.but {W : World} {g : Nat} (h : PsAt w bm br bk K D n f C gs cgs sizes wr) (b : But g wr W) (hg : C ≤ g) : PsAt w bm br bk K D n f C gs cgs sizes W := by
  have lo := h.lo
  have := b.size
  exact ⟨keepG h.box b (by omega), h.row.but b (by omega), h.szs.butG b (by simp [Value.ownBlock]; omega), h.bel.trans (b.below (by omega) h.bel.size), keepG h.inb b (by omega), keepG h.out b (by omega), by omega⟩
theorem PsAt.mark {i : Nat} {met : List Int} (h : PsAt w bm br bk K D n (seenP met) C gs cgs sizes wr) (hi : i < n) : PsAt w bm br bk K D n (seenP (met ++ [(i : Int)])) C gs cgs sizes (wr.setCell ⟨D, i, none⟩ (.bool true)) := by
  have lo := h.lo
  have b : But D wr (wr.setCell ⟨D, i, none⟩ (.bool true)) := (But.refl _ _).set _ _
  have := b.size
  exact ⟨keepG h.box b (by omega), seenP_set h.row hi, h.szs.butG b (by simp [Value.ownBlock]; omega), h.bel.trans (b.below (by omega) h.bel.size), keepG h.inb b (by omega), keepG h.out b (by omega), by omega⟩
end
end Go.Proofs.Ytfoelnblnfcaiaa

/- The contract of spec.Peep. -/
namespace Go.Proofs.Ytfoelnblnfcaiaa
open Go.ChangeShapes Go.WideShapes Go.ChangeAt Go.RowKit
theorem eqlWrd (x y : Wrd) (W : World) : (binOp .eql 44 (.agg #[.int .i64 x.op, .int .i64 x.r, .int .i64 x.a, .int .i64 x.b, .int .i64 x.n]) (.agg #[.int .i64 y.op, .int .i64 y.r, .int .i64 y.a, .int .i64 y.b, .int .i64 y.n])).run Try.prog W = .ok (.bool (wrdB x y)) W := by
  simp only [binOp, Op.equal, Sem.run_bind]
  rw [show Op.maxDepth = 10000 from rfl, eqWrd x y W]
  rfl
theorem wrdB_alr (x : Wrd) (r a b n : Int) (hz : x.op = 2 → x.a = 0 ∧ x.b = 0) : wrdB x ⟨2, r, 0, 0, n⟩ = alrW x ⟨1, r, a, b, n⟩ := by
  unfold wrdB alrW
  rw [Bool.eq_iff_iff]
  simp only [Bool.and_eq_true, beq_iff_eq]
  constructor
  · rintro ⟨h1, h2, _, _, h5⟩; exact ⟨h1, trivial, h2, h5⟩
  · rintro ⟨h1, _, h2, h5⟩; exact ⟨h1, h2, (hz h1).1, (hz h1).2, h5⟩
theorem below_drewS (B : Nat) (w : World) (q : Nat) : Below B w (w.drewN q) := ⟨rfl, rfl, rfl, Nat.le_refl _, fun _ _ => rfl⟩
set_option maxHeartbeats 8000000 in
set_option maxRecDepth 100000 in
theorem spec_peep (m : Img) (w : World) (B : Nat) (v : Array Value) (h : ImgIs w B v m) (hn : m.sz ≤ 1048576) (GO : ImOk 9 m) :
    Calls Try.prog 13 #[.agg v] w fun en w' => MadeIm w (peepP m) en w' := by
  obtain ⟨y, hy⟩ : ∃ y, imgOk m = y := ⟨_, rfl⟩
  have CY : Hid (∀ W, Below w.heap.size w W → Calls Try.prog 9 #[.agg v] W fun en w' => en = .returned (.bool y) ∧ Below W.heap.size W w') := fun W hW => by rw [← hy]; exact GO W B v (ImgKeeps.stays h hW)
  have CC : Hid (∀ W, Below w.heap.size w W → Calls Try.prog 36 #[.agg v] W fun en w' => MadeIm W m en w') := fun W hW => l13Copy_any m W B v (ImgKeeps.stays h hW) hn
  have H6 : Hid (y = true → m.code.length ≤ 6000) := fun e => (imgOk_few (by rw [hy]; exact e)).1
  have EP : Hid (peepP m = if y = true then ⟨m.sizes, m.params, m.slots, (keptUp m.code m.code.length).map (aimX (numUp m.code m.code.length))⟩ else m) := by show _ = _; unfold peepP; rw [hy]
  have HZ : Hid (y = true → ∀ x ∈ m.code, x.op = 2 → x.a = 0 ∧ x.b = 0) := fun e => sd_zero (by rw [hy]; exact e)
  have HG : Hid (y = true → ∀ x ∈ m.code, goesW x = true → 0 ≤ x.n ∧ x.n < (m.code.length : Int)) := fun e => goes_in (by rw [hy]; exact e)
  obtain ⟨P, hP⟩ : ∃ P, peepP m = P := ⟨_, rfl⟩
  rw [hP] at EP ⊢
  clear hy hP GO
  obtain ⟨sizes, params, slots, code⟩ := m
  obtain ⟨us, cs, ub, cb, rfl, _, _, hb⟩ := h
  simp only at *
  have hm := maxLen_lt
  have WF := hideP (wrd_wf hb)
  have HB := hideP hb
  clear hb hn
  obtain ⟨bm, hbm⟩ : ∃ bm : Array Value, bm = #[.slice us sizes.length cs, .int .i64 params, .int .i64 slots, .slice ub code.length cb] := ⟨_, rfl⟩
  obtain ⟨br, hbr⟩ : ∃ br : Array Value, br = #[.slice none 0 0, .int .i64 0, .int .i64 0, .slice none 0 0] := ⟨_, rfl⟩
  have AL := hideP (below2 w (.cells #[.slice us sizes.length cs, .int .i64 params, .int .i64 slots, .slice ub code.length cb] 30) (.cells #[.slice none 0 0, .int .i64 0, .int .i64 0, .slice none 0 0] 30))
  have TW := two (w := w) (o1 := .cells #[.slice us sizes.length cs, .int .i64 params, .int .i64 slots, .slice ub code.length cb] 30) (o2 := .cells #[.slice none 0 0, .int .i64 0, .int .i64 0, .slice none 0 0] 30) (Below.refl _ _)
  have BX1 := hideP TW.1
  have BX2 := hideP TW.2.1
  clear TW
  go_enter Try.func13, Try.ntmps13
  go_upto_region 1 with fail
  obtain ⟨WA, hWA⟩ : ∃ WA, ((w.alloc (.cells #[.slice us sizes.length cs, .int .i64 params, .int .i64 slots, .slice ub code.length cb] 30)).alloc (.cells #[.slice none 0 0, .int .i64 0, .int .i64 0, .slice none 0 0] 30)) = WA := ⟨_, rfl⟩
  rw [hWA] at AL BX1 BX2 ⊢
  clear hWA
  have zA : w.heap.size + 1 < WA.heap.size := (Array.getElem?_eq_some_iff.1 BX2.out).1
  have p0 := (cells_of BX1.out).1 0
  have p1 := (cells_of BX1.out).1 1
  have p2 := (cells_of BX1.out).1 2
  have p3 := (cells_of BX1.out).1 3
  simp at p0 p1 p2 p3
  go_wp2_with fail
  refine (CC.out _ AL.out).mono ?_
  rintro e1 w1 ⟨gs, cgs, gc, cc, rfl, o1, o2, b1⟩
  simp only at o1 o2
  have al1 := (Below.refl w1.heap.size w1).alloc (Nat.le_refl _) (.cells #[.slice (some ⟨gs, 0, none⟩) sizes.length cgs, .int .i64 params, .int .i64 slots, .slice (some ⟨gc, 0, none⟩) code.length cc] 30)
  have BB1 := hideP (below_trans (below_trans AL.out b1) al1)
  have O1 := hideP (o1.stays al1)
  have O2 := hideP (o2.stays al1)
  have hgs := (o1.low gs rfl).2
  have hgc := (o2.low gc rfl)
  have hz1 := b1.size
  have I1 := hideP (keepC (keepC BX1.out b1) al1)
  have I2 := hideP (keepC (keepC BX2.out b1) al1)
  have I3 := hideP (heap_alloc_new w1 (.cells #[.slice (some ⟨gs, 0, none⟩) sizes.length cgs, .int .i64 params, .int .i64 slots, .slice (some ⟨gc, 0, none⟩) code.length cc] 30))
  clear o1 o2 b1 al1 p0 p1 p2 p3 BX1 BX2 AL CC
  go_upto_region 2 with fail
  obtain ⟨w2, hw2⟩ : ∃ w2, (w1.alloc (.cells #[.slice (some ⟨gs, 0, none⟩) sizes.length cgs, .int .i64 params, .int .i64 slots, .slice (some ⟨gc, 0, none⟩) code.length cc] 30)) = w2 := ⟨_, rfl⟩
  rw [hw2] at BB1 O1 O2 I1 I2 I3 ⊢
  clear hw2
  obtain ⟨K, hK⟩ : ∃ K, w1.heap.size = K := ⟨_, rfl⟩
  rw [hK] at I3 hgs hz1 hgc ⊢
  clear hK
  have hz2 : K < w2.heap.size := (Array.getElem?_eq_some_iff.1 I3.out).1
  have p0 := (cells_of I1.out).1 0
  have p1 := (cells_of I1.out).1 1
  have p2 := (cells_of I1.out).1 2
  have p3 := (cells_of I1.out).1 3
  simp at p0 p1 p2 p3
  go_wp2_with fail
  refine (CY.out _ BB1.out).mono ?_
  rintro e3 w3 ⟨rfl, b3⟩
  have BB3 := hideP (below_trans BB1.out b3)
  have O3 := hideP (O1.out.stays b3)
  have O4 := hideP (O2.out.stays b3)
  have J1 := hideP (keepC I1.out b3)
  have J2 := hideP (keepC I2.out b3)
  have J3 := hideP (keepC I3.out b3)
  have hz3 := b3.size
  clear b3 I1 I2 I3 O1 O2 BB1 p0 p1 p2 p3 CY
  cases y
  · have c0 := (cells_of J3.out).1 0
    have c1 := (cells_of J3.out).1 1
    have c2 := (cells_of J3.out).1 2
    have c3 := (cells_of J3.out).1 3
    have d0 := (cells_of J2.out).1 0
    have d1 := (cells_of J2.out).1 1
    have d2 := (cells_of J2.out).1 2
    have d3 := (cells_of J2.out).1 3
    have f2 := (cells_of J2.out).2
    simp at c0 c1 c2 c3 d0 d1 d2 d3
    have pb := put4_but w3 (w.heap.size + 1) (.slice (some ⟨gs, 0, none⟩) sizes.length cgs) (.int .i64 params) (.int .i64 slots) (.slice (some ⟨gc, 0, none⟩) code.length cc)
    have P2 := hideP (put4_box J2.out (.slice (some ⟨gs, 0, none⟩) sizes.length cgs) (.int .i64 params) (.int .i64 slots) (.slice (some ⟨gc, 0, none⟩) code.length cc))
    have lo1 := O3.out.low gs rfl
    have lo2 := O4.out.low gc rfl
    have GOAL : Hid (MadeIm w P (.returned (.agg #[.slice (some ⟨gs, 0, none⟩) sizes.length cgs, .int .i64 params, .int .i64 slots, .slice (some ⟨gc, 0, none⟩) code.length cc])) (put4 w3 (w.heap.size + 1) (.slice (some ⟨gs, 0, none⟩) sizes.length cgs) (.int .i64 params) (.int .i64 slots) (.slice (some ⟨gc, 0, none⟩) code.length cc))) := by
      have e := EP.out
      rw [if_neg (by simp)] at e
      rw [e]
      exact ⟨gs, cgs, gc, cc, rfl, (O3.out.butG pb (by simp [Value.ownBlock]; omega)).mono (by omega), (O4.out.butG pb (by simp [Value.ownBlock]; omega)).mono (by omega), BB3.out.trans (pb.below (Nat.le_succ _) BB3.out.size)⟩
    clear pb O3 O4 lo1 lo2 J1 J2 J3 EP H6 HG HZ WF HB
    go_wp2
    refine bodyPost_ret (results_cell_row rfl _ _ (w.heap.size + 1) 30 #[.slice (some ⟨gs, 0, none⟩) sizes.length cgs, .int .i64 params, .int .i64 slots, .slice (some ⟨gc, 0, none⟩) code.length cc] (0, 0) _ rfl P2.out Try.underlying30 rfl (by kernel_rfl)) rfl ?_
    exact GOAL.out
  · rw [if_pos rfl] at EP
    have hl6 := H6.out rfl
    have hg := hideP (HG.out rfl)
    have hzz := hideP (HZ.out rfl)
    have mk := make_boolsP code.length hl6
    have z3a : w.heap.size < w3.heap.size := by omega
    have p3 := (cells_of J1.out).1 3
    simp at p3
    have al3 := (Below.refl w3.heap.size w3).alloc (Nat.le_refl _) (.cells (madeCells #[.bool false] code.length) 4)
    have P4 : Hid (PsAt w #[.slice us sizes.length cs, .int .i64 params, .int .i64 slots, .slice ub code.length cb] #[.slice none 0 0, .int .i64 0, .int .i64 0, .slice none 0 0] #[.slice (some ⟨gs, 0, none⟩) sizes.length cgs, .int .i64 params, .int .i64 slots, .slice (some ⟨gc, 0, none⟩) code.length cc] K w3.heap.size code.length (seenP []) (w3.heap.size + 1) gs cgs sizes (w3.alloc (.cells (madeCells #[.bool false] code.length) 4))) :=
      ⟨keepC J3.out al3, rowT_madeP w3 code.length, (O3.out.stays al3).mono (by omega), below_trans BB3.out al3, keepC J1.out al3, keepC J2.out al3, by have := O3.out.low gs rfl; simp; omega⟩
    clear al3 J1 J2 J3 H6 HG HZ BB3 O3 O4
    generalize madeCells #[.bool false] code.length = M at *
    go_upto_region 5 with fail
    obtain ⟨w4, hw4⟩ : ∃ w4, (w3.alloc (.cells M 4)) = w4 := ⟨_, rfl⟩
    rw [hw4] at P4 ⊢
    clear hw4
    obtain ⟨D, hD⟩ : ∃ D, w3.heap.size = D := ⟨_, rfl⟩
    rw [hD] at P4 ⊢
    clear hD mk p3
    obtain ⟨C, hC⟩ : ∃ C, D + 1 = C := ⟨_, rfl⟩
    rw [hC] at P4
    clear hC
    have e0 : Hid (goL (code.take 0) = []) := by show _ = _; simp [goL]
    go_wp2
    go_loopg [5] code.length (fun gk i wr => ∃ j : Nat, gk + j = code.length ∧ i = .int .i64 j ∧ Hid (PsAt w #[.slice us sizes.length cs, .int .i64 params, .int .i64 slots, .slice ub code.length cb] #[.slice none 0 0, .int .i64 0, .int .i64 0, .slice none 0 0] #[.slice (some ⟨gs, 0, none⟩) sizes.length cgs, .int .i64 params, .int .i64 slots, .slice (some ⟨gc, 0, none⟩) code.length cc] K D code.length (seenP (goL (code.take j))) C gs cgs sizes wr))
    case atStart => exact ⟨0, by simp, rfl, by rw [e0.out]; exact P4.out⟩
    case round =>
      obtain ⟨j, hj, rfl, hP⟩ := hrel
      clear P4 e0
      have m3 := (cells_of hP.out.inb).1 3
      simp at m3
      by_cases hlt : j < code.length
      · obtain ⟨b, o, y0, y1, y2, y3, y4, rfl, _, hbi, hy, r0, r1, r2, r3, r4, hxx⟩ := Wrd_get (HB.out.stays WrdKeeps hP.out.bel) j hlt
        have HY := hideP hy
        clear hy hxx
        go_wp2_with fail
        refine (l13Goes_any y0 y1 y2 y3 y4 _).mono ?_
        rintro e2 w7 ⟨rfl, b2⟩
        have P2 := hideP (hP.out.stays b2)
        have q4 := (b2.cell (p := ⟨b, o + j * 5 + 4, none⟩) hbi).trans r4
        have n3 := (cells_of P2.out.inb).1 3
        simp at n3
        clear b2 r0 r1 r2 r3 r4 m3 hP
        cases hq : goesW ⟨y0, y1, y2, y3, y4⟩
        · have U := hideP (goL_no code j hlt (by rw [HY.out]; exact hq))
          clear q4 n3
          rw [← U.out] at P2
          go_wp2
          go_roundg (code.length - (j + 1))
          case rel => exact ⟨j + 1, by omega, by go_num, P2.out⟩
          case measure => omega
        · have U := hideP (goL_yes code j hlt (by rw [HY.out]; exact hq))
          have hyr := hg.out code[j] (List.getElem_mem hlt) (by rw [HY.out]; exact hq)
          rw [HY.out] at hyr U
          simp only at hyr
          obtain ⟨k, rfl⟩ := Int.eq_ofNat_of_zero_le hyr.1
          have hk : k < code.length := by omega
          obtain ⟨rk, rf⟩ := P2.out.row.at hk
          have P3 := hideP (P2.out.mark hk)
          rw [← U.out] at P3
          clear P2 hyr hq
          go_wp2
          go_roundg (code.length - (j + 1))
          case rel => exact ⟨j + 1, by omega, by go_num, P3.out⟩
          case measure => omega
      · have hjn : j = code.length := by omega
        subst hjn
        rw [List.take_length] at hP
        obtain ⟨sn, hsn⟩ : ∃ sn, goL code = sn := ⟨_, rfl⟩
        have SN := hideP hsn
        rw [hsn] at hP
        clear hsn
        have lo := hP.out.lo
        have P5 := hideP (hP.out.stays (below2 wr (.cells #[] 3) (.cells #[] 44)))
        have a5 := (Below.refl (wr.alloc (.cells #[] 3)).heap.size (wr.alloc (.cells #[] 3))).alloc (Nat.le_refl _) (.cells #[] 44)
        have N5 := hideP (((own_lit wr [] #[] wr.heap.size 0 rfl rfl rfl (by simp)).stays a5).mono (show C ≤ _ by omega))
        have z5 : (wr.alloc (.cells #[] 3)).heap.size = wr.heap.size + 1 := by simp
        have K5 : Hid (OwnE WrE ((wr.alloc (.cells #[] 3)).alloc (.cells #[] 44)) C (.slice (some ⟨wr.heap.size + 1, 0, none⟩) 0 0) []) := OwnE.of_parts WrOk (l := []) (show C ≤ _ by omega) (by rw [← z5]; exact heap_alloc_new (wr.alloc (.cells #[] 3)) (.cells #[] 44)) (Nat.le_refl _) (Nat.zero_le _) (by rw [Nat.zero_mul]; rfl) (fun j hj => absurd hj (Nat.not_lt_zero _))
        clear a5 z5 hP lo
        go_upto_region 12 with fail
        obtain ⟨W9, hW9⟩ : ∃ W9, ((wr.alloc (.cells #[] 3)).alloc (.cells #[] 44)) = W9 := ⟨_, rfl⟩
        rw [hW9] at P5 N5 K5 ⊢
        clear hW9 m3
        obtain ⟨T, hT⟩ : ∃ T, wr.heap.size = T := ⟨_, rfl⟩
        rw [hT] at N5 K5 ⊢
        clear hT
        go_wp2
        go_loopg [6, 7, 8] code.length (fun gk t q i wr => ∃ j gn cn gq cq : Nat, gk + j = code.length ∧ i = .int .i64 j ∧ t = .slice (some ⟨gn, 0, none⟩) j cn ∧ q = .slice (some ⟨gq, 0, none⟩) (keptUp code j).length cq ∧ Hid (PsAt w #[.slice us sizes.length cs, .int .i64 params, .int .i64 slots, .slice ub code.length cb] #[.slice none 0 0, .int .i64 0, .int .i64 0, .slice none 0 0] #[.slice (some ⟨gs, 0, none⟩) sizes.length cgs, .int .i64 params, .int .i64 slots, .slice (some ⟨gc, 0, none⟩) code.length cc] K D code.length (seenP sn) C gs cgs sizes wr) ∧ Hid (OwnI wr C (.slice (some ⟨gn, 0, none⟩) j cn) (numUp code j)) ∧ Hid (OwnE WrE wr C (.slice (some ⟨gq, 0, none⟩) (keptUp code j).length cq) (keptUp code j)))
        case atStart => exact ⟨0, T, 0, T + 1, 0, by simp, rfl, rfl, rfl, P5.out, N5.out, K5.out⟩
        case round =>
          obtain ⟨j, gn, cn, gq, cq, hj, rfl, rfl, rfl, hP, hN, hK⟩ := hrel
          clear P5 N5 K5
          by_cases hlt : j < code.length
          · obtain ⟨b, o, y0, y1, y2, y3, y4, rfl, _, hbi, hy, r0, r1, r2, r3, r4, hxx⟩ := Wrd_get (HB.out.stays WrdKeeps hP.out.bel) j hlt
            have HY := hideP hy
            have m3 := (cells_of hP.out.inb).1 3
            simp at m3
            have al := (Below.refl wr.heap.size wr).alloc (Nat.le_refl _) (.cells #[.int .i64 y0, .int .i64 y1, .int .i64 y2, .int .i64 y3, .int .i64 y4] 44)
            have P1 := hideP (hP.out.stays al)
            have N1 := hideP (hN.out.stays al)
            have K1 := hideP (hK.out.stays al)
            have NX := hideP (heap_alloc_new wr (.cells #[.int .i64 y0, .int .i64 y1, .int .i64 y2, .int .i64 y3, .int .i64 y4] 44))
            have lgn := hN.out.low gn rfl
            clear hy hxx al hP hN hK
            go_upto_region 16 with fail
            obtain ⟨W1, hW1⟩ : ∃ W1, (wr.alloc (.cells #[.int .i64 y0, .int .i64 y1, .int .i64 y2, .int .i64 y3, .int .i64 y4] 44)) = W1 := ⟨_, rfl⟩
            rw [hW1] at P1 N1 K1 NX ⊢
            clear hW1 r0 r1 r2 r3 r4 m3
            have L1 := P1.out.lo
            obtain ⟨kb, hkb⟩ : ∃ kb, kpB code j = kb := ⟨_, rfl⟩
            have KB := hideP hkb
            have UN : Hid (numUp code (j + 1) = numUp code j ++ [((keptUp code j).length : Int)]) := rfl
            have UY : Hid (kb = true → keptUp code (j + 1) = keptUp code j ++ [⟨y0, y1, y2, y3, y4⟩]) := fun e => keptUp_yes hlt HY.out (by rw [hkb]; exact e)
            have UX : Hid (kb = false → keptUp code (j + 1) = keptUp code j) := fun e => keptUp_no (by rw [hkb]; exact e)
            have NL := numUp_len code j
            have KL := keptUp_len code j
            clear hkb
            obtain ⟨ns, hns⟩ : ∃ ns, numUp code j = ns := ⟨_, rfl⟩
            obtain ⟨ks, hks⟩ : ∃ ks, keptUp code j = ks := ⟨_, rfl⟩
            rw [hns] at N1 UN NL
            rw [hks] at K1 UN UY UX KL ⊢
            clear hns hks
            have al2 := (Below.refl W1.heap.size W1).alloc (Nat.le_refl _) (.cells #[.int .i64 (ks.length : Int)] 3)
            have P2 := hideP (P1.out.stays al2)
            have OC := hideP (N1.out.stays al2)
            have KC := hideP (K1.out.stays al2)
            have OD := hideP (own_lit W1 [(ks.length : Int)] #[.int .i64 (ks.length : Int)] W1.heap.size 1 rfl rfl rfl (by simp))
            have SC : C ≤ (W1.alloc (.cells #[.int .i64 (ks.length : Int)] 3)).heap.size := by simp; omega
            have NX2 := hideP (keepC NX.out al2)
            have hne := KC.out.ne_int OC.out
            clear al2
            go_upto_region 17 with (at_builtin; refine list_appI _ rfl _ _ rfl C _ ns [(ks.length : Int)] W1.heap.size 0 1 1 rfl rfl rfl OC.out OD.out.at (by simp; omega) SC ?_; intro v6 w7 o6 grow6 loc6)
            replace grow6 : World.grownBy _ w7 (some gn) := grow6
            obtain ⟨g6, c6, rfl, _⟩ := id o6
            have b6 := But.ofG' grow6
            have P6 := hideP (P2.out.but b6 (by omega))
            have NX6 := hideP (keepG NX2.out b6 (by omega))
            have K6 := hideP (KC.out.butG b6 (by simp [Value.ownBlock]; omega))
            have EL : Hid ((ns ++ [(ks.length : Int)]).length = j + 1) := by show _ = _; simp [NL]
            rw [EL.out] at o6
            have N6 := hideP o6
            clear o6 grow6 loc6 b6 P1 P2 NX NX2 OC OD KC SC N1 K1 hne
            rw [EL.out]
            go_cut [88] from 61 to 88 (fun s88 wx => s88 = .bool (!kb) ∧ Hid (Below w7.heap.size w7 wx))
            case first =>
              clear UN UY UX EP EL N6 K6
              have yc := (cells_of NX6.out).1
              have z0 := yc 0
              have z1 := yc 1
              have z2 := yc 2
              have z3 := yc 3
              have z4 := yc 4
              simp at z0 z1 z2 z3 z4
              clear yc
              by_cases hj0 : j = 0
              · subst hj0
                have hkt : kb = true := by rw [← KB.out]; simp [kpB]
                subst hkt
                clear KB hg hzz P6 NX6 HY SN
                go_quiet (fail)
                go_wp2_with fail
                go_meet
                exact ⟨rfl, below_drewS _ _ _⟩
              · obtain ⟨k, hk⟩ : ∃ k, j = k + 1 := ⟨j - 1, by omega⟩
                have hkl : k < code.length := by omega
                obtain ⟨b', o', x0, x1, x2, x3, x4, he2, _, hb7, hx, q0, q1, q2, q3, q4, _⟩ := Wrd_get (HB.out.stays WrdKeeps P6.out.bel) k hkl
                cases he2
                have m3 := (cells_of P6.out.inb).1 3
                simp at m3
                obtain ⟨rk, rf⟩ := P6.out.row.at hlt
                have EK : kb = (seenP sn j || !(alrW ⟨x0, x1, x2, x3, x4⟩ ⟨y0, y1, y2, y3, y4⟩)) := by
                  rw [← KB.out, ← SN.out]
                  unfold kpB seenP
                  rw [decide_eq_false hj0, Bool.false_or, show j - 1 = k by omega, List.getElem?_eq_getElem hkl, hx, List.getElem?_eq_getElem hlt, HY.out]
                  rfl
                have hz2 := hzz.out code[k] (List.getElem_mem hkl)
                rw [hx] at hz2
                have g0 : decide ((0 : Int) < (j : Int)) = true := by simp; omega
                have g1 : decide (0 < j) = true := by simp; omega
                have ek : ((j : Int) - 1) = (k : Int) := by omega
                have wk : IntKind.i64.wrap (k : Int) = (k : Int) := by rw [IntKind.wrap_i64]; omega
                have EW := wrdB_alr ⟨x0, x1, x2, x3, x4⟩ y1 y2 y3 y4 hz2
                have eq2 := eqlWrd ⟨x0, x1, x2, x3, x4⟩ ⟨2, y1, 0, 0, y4⟩
                simp only at eq2
                rw [EW] at eq2
                have gd := gdW
                obtain ⟨sb, hsb⟩ : ∃ sb, seenP sn j = sb := ⟨_, rfl⟩
                rw [hsb] at rk EK
                clear KB hg hzz P6 NX6 SN hx hz2 hk hj0 HY EW hsb rf
                by_cases h1 : y0 = 1
                · subst h1
                  obtain ⟨ab, hab⟩ : ∃ ab, alrW ⟨x0, x1, x2, x3, x4⟩ ⟨1, y1, y2, y3, y4⟩ = ab := ⟨_, rfl⟩
                  rw [hab] at EK eq2
                  clear hab
                  subst EK
                  cases sb
                  · go_quiet (fail)
                    go_wp2_with fail
                    go_meet
                    exact ⟨by simp, below_drewS _ _ _⟩
                  · clear eq2
                    go_quiet (fail)
                    go_wp2_with fail
                    go_meet
                    exact ⟨by simp, below_drewS _ _ _⟩
                · have h1' : (y0 == 1) = false := by simpa using h1
                  have EA : alrW ⟨x0, x1, x2, x3, x4⟩ ⟨y0, y1, y2, y3, y4⟩ = false := by unfold alrW; simp only [h1']; simp
                  rw [EA] at EK
                  clear EA eq2 h1 rk
                  simp at EK
                  subst EK
                  go_quiet (fail)
                  go_wp2_with fail
                  go_meet
                  exact ⟨rfl, below_drewS _ _ _⟩
            case rest =>
            obtain ⟨rfl, hc⟩ := hcut
            obtain ⟨wx, hwx⟩ : ∃ wx, wc = wx := ⟨_, rfl⟩
            rw [hwx] at hc ⊢
            clear hwx
            have PX := hideP (P6.out.stays hc.out)
            have NXX := hideP (keepC NX6.out hc.out)
            have N7 := hideP (N6.out.stays hc.out)
            have K7 := hideP (K6.out.stays hc.out)
            clear hc P6 NX6 N6 K6 KB
            cases kb
            · rw [← UX.out rfl] at K7 ⊢
              rw [← UN.out] at N7
              clear UN UY UX
              go_wp2
              go_roundg (code.length - (j + 1))
              case rel => exact ⟨j + 1, g6, c6, gq, cq, by omega, by go_num, rfl, rfl, PX.out, N7.out, K7.out⟩
              case measure => omega
            · have LX := PX.out.lo
              have yc := (cells_of NXX.out).1
              have z0 := yc 0
              have z1 := yc 1
              have z2 := yc 2
              have z3 := yc 3
              have z4 := yc 4
              simp at z0 z1 z2 z3 z4
              have hrx : wr.heap.size < wx.heap.size := (Array.getElem?_eq_some_iff.1 NXX.out).1
              have al := (Below.refl wx.heap.size wx).alloc (Nat.le_refl _) (.cells #[.int .i64 y0, .int .i64 y1, .int .i64 y2, .int .i64 y3, .int .i64 y4] 44)
              have PY := hideP (PX.out.stays al)
              have NY := hideP (N7.out.stays al)
              have KY := hideP (K7.out.stays al)
              have CQ : Hid (∀ r, r < WrE.sz → (wx.alloc (.cells #[.int .i64 y0, .int .i64 y1, .int .i64 y2, .int .i64 y3, .int .i64 y4] 44)).cell? ⟨wx.heap.size, 0 + r, none⟩ = (WrE.cs ⟨y0, y1, y2, y3, y4⟩)[r]?) := fun r _ => by
                have := (cells_of (heap_alloc_new wx (.cells #[.int .i64 y0, .int .i64 y1, .int .i64 y2, .int .i64 y3, .int .i64 y4] 44))).1 r
                rw [Nat.zero_add, this]; simp [WrE, wcs]
              have SC : C ≤ (wx.alloc (.cells #[.int .i64 y0, .int .i64 y1, .int .i64 y2, .int .i64 y3, .int .i64 y4] 44)).heap.size := by simp; omega
              have lgq := KY.out.low gq rfl
              have hne := KY.out.ne_int NY.out
              clear al yc PX N7 K7 NXX
              go_upto_region 14 with (at_builtin; refine list_appE WrOk _ rfl _ _ rfl C _ ks ⟨y0, y1, y2, y3, y4⟩ wx.heap.size 0 1 rfl rfl KY.out CQ.out (by omega) SC ?_; intro v8 w8 o8 grow8 loc8; replace grow8 : World.grownBy _ w8 (some gq) := grow8; obtain ⟨g8, c8, rfl, _⟩ := id o8; have b8 := But.ofG' grow8; have P8 := hideP (PY.out.but b8 (by omega)); have N8 := hideP (NY.out.butG b8 (by simp [Value.ownBlock]; omega)); have K8 := hideP o8; clear o8 grow8 loc8 PY NY KY z0 z1 z2 z3 z4 CQ b8)
              have EQ : Hid ((keptUp code (j + 1)).length = ks.length + 1) := by show _ = _; rw [UY.out rfl]; simp
              rw [← UY.out rfl] at K8
              rw [← UN.out] at N8
              clear UN UY UX
              go_wp2
              go_roundg (code.length - (j + 1))
              case rel => exact ⟨j + 1, g6, c6, g8, c8, by omega, by go_num, rfl, by rw [EQ.out], P8.out, N8.out, K8.out⟩
              case measure => omega
          · have hjn : j = code.length := by omega
            subst hjn
            have NL := numUp_len code code.length
            have KL := keptUp_len code code.length
            have KM := hideP (keptUp_mem code code.length (Nat.le_refl _))
            have m3 := (cells_of hP.out.inb).1 3
            simp at m3
            obtain ⟨ns, hns⟩ : ∃ ns, numUp code code.length = ns := ⟨_, rfl⟩
            obtain ⟨ks, hks⟩ : ∃ ks, keptUp code code.length = ks := ⟨_, rfl⟩
            rw [hns] at hN EP NL
            rw [hks] at hK EP KL KM ⊢
            clear hns hks SN hzz
            have A0 : Hid (amL ns ks 0 = ks) := amL_zero _ _
            go_wp2
            clear m3
            go_loopg [10] ks.length (fun gk i wr => ∃ j : Nat, gk + j = ks.length ∧ i = .int .i64 j ∧ Hid (PsAt w #[.slice us sizes.length cs, .int .i64 params, .int .i64 slots, .slice ub code.length cb] #[.slice none 0 0, .int .i64 0, .int .i64 0, .slice none 0 0] #[.slice (some ⟨gs, 0, none⟩) sizes.length cgs, .int .i64 params, .int .i64 slots, .slice (some ⟨gc, 0, none⟩) code.length cc] K D code.length (seenP sn) C gs cgs sizes wr) ∧ Hid (OwnI wr C (.slice (some ⟨gn, 0, none⟩) code.length cn) ns) ∧ Hid (OwnE WrE wr C (.slice (some ⟨gq, 0, none⟩) ks.length cq) (amL ns ks j)))
            case atStart => exact ⟨0, by simp, rfl, hP.out, hN.out, by rw [A0.out]; exact hK.out⟩
            case round =>
              obtain ⟨j, hj, rfl, gP, gN, gK⟩ := hrel
              clear hP hN hK A0
              by_cases hlt2 : j < ks.length
              · have hjl : j < (amL ns ks j).length := by rw [amL_len]; exact hlt2
                obtain ⟨⟨y0, y1, y2, y3, y4⟩, hx⟩ : ∃ x, ks[j] = x := ⟨_, rfl⟩
                have HX := hideP hx
                have hxa : (amL ns ks j)[j] = ⟨y0, y1, y2, y3, y4⟩ := (amL_at hlt2).trans hx
                have HXA := hideP hxa
                obtain ⟨r0, r1, r2, r3, r4, r5, r6⟩ := OwnE.w5 gK.out hjl hxa
                clear hx hxa r5
                go_wp2_with fail
                refine (l13Goes_any y0 y1 y2 y3 y4 _).mono ?_
                rintro e2 w7 ⟨rfl, b2⟩
                have P2 := hideP (gP.out.stays b2)
                have N2 := hideP (gN.out.stays b2)
                have K2 := hideP (gK.out.stays b2)
                clear b2 r0 r1 r2 r3 r4 r6 gP gN gK
                cases hq : goesW ⟨y0, y1, y2, y3, y4⟩
                · have U : Hid (amL ns ks (j + 1) = amL ns ks j) := amL_same hlt2 (by rw [HX.out]; exact hq)
                  clear HXA
                  rw [← U.out] at K2
                  go_wp2
                  go_roundg (ks.length - (j + 1))
                  case rel => exact ⟨j + 1, by omega, by go_num, P2.out, N2.out, K2.out⟩
                  case measure => omega
                · have hyr := hg.out ks[j] (KM.out _ (List.getElem_mem hlt2)) (by rw [HX.out]; exact hq)
                  rw [HX.out] at hyr
                  simp only at hyr
                  obtain ⟨k, rfl⟩ := Int.eq_ofNat_of_zero_le hyr.1
                  have hk : k < ns.length := by omega
                  have hkc : k < code.length := by omega
                  obtain ⟨z, hz⟩ : ∃ z, ns[k] = z := ⟨_, rfl⟩
                  have x0 := N2.out.at k hk
                  rw [hz, Nat.zero_add] at x0
                  have U : Hid (amL ns ks (j + 1) = (amL ns ks j).set j ⟨(amL ns ks j)[j].op, (amL ns ks j)[j].r, (amL ns ks j)[j].a, (amL ns ks j)[j].b, z⟩) := by
                    show _ = _
                    rw [amL_succ hlt2, HXA.out, HX.out]
                    unfold aimX
                    rw [if_pos hq]
                    simp only [Int.toNat_natCast, List.getElem?_eq_getElem hk, hz, Option.getD_some]
                  obtain ⟨s0, s1, s2, s3, s4, s5, s6⟩ := OwnE.w5 K2.out hjl HXA.out
                  have f4 := s5 (j * 5 + 4)
                  have b3 : But gq w7 (w7.setCell ⟨gq, j * 5 + 4, none⟩ (.int .i64 z)) := (But.refl _ _).set _ _
                  have K3 := hideP (OwnE.setN K2.out hjl z)
                  have hne := K2.out.ne_int N2.out
                  have lgq := K2.out.low gq rfl
                  have N3 := hideP (N2.out.butG b3 (by simp [Value.ownBlock]; omega))
                  have P3 := hideP (P2.out.but b3 (by omega))
                  rw [← U.out] at K3
                  clear s0 s1 s2 s3 s5 hz hq hyr b3 U HXA P2 N2 K2
                  go_wp2
                  go_roundg (ks.length - (j + 1))
                  case rel => exact ⟨j + 1, by omega, by go_num, P3.out, N3.out, K3.out⟩
                  case measure => omega
              · have hjn : j = ks.length := by omega
                subst hjn
                rw [amL_all] at gK
                have lo := gP.out.lo
                have lgq := gK.out.low gq rfl
                have k0 := (cells_of gP.out.box).1 0
                have k1 := (cells_of gP.out.box).1 1
                have k2 := (cells_of gP.out.box).1 2
                have k3 := (cells_of gP.out.box).1 3
                have kf := (cells_of gP.out.box).2
                simp at k0 k1 k2 k3
                have t8 : But K wr (wr.setCell ⟨K, 3, none⟩ (.slice (some ⟨gq, 0, none⟩) ks.length cq)) := (But.refl _ _).set _ _
                have I3 : Hid ((wr.setCell ⟨K, 3, none⟩ (.slice (some ⟨gq, 0, none⟩) ks.length cq)).heap[K]? = some (.cells #[.slice (some ⟨gs, 0, none⟩) sizes.length cgs, .int .i64 params, .int .i64 slots, .slice (some ⟨gq, 0, none⟩) ks.length cq] 30 (0, 0))) := by
                  have := heap_setCell_same wr K 3 _ _ (.slice (some ⟨gq, 0, none⟩) ks.length cq) gP.out.box
                  show _ = _
                  simpa using this
                have I2 := hideP (keepG gP.out.out t8 (by omega))
                have OA := hideP (gK.out.butG t8 (by simp [Value.ownBlock]; omega))
                have OB := hideP (gP.out.szs.butG t8 (by simp [Value.ownBlock]; omega))
                have B9 : Hid (Below w.heap.size w (wr.setCell ⟨K, 3, none⟩ (.slice (some ⟨gq, 0, none⟩) ks.length cq))) := gP.out.bel.trans (t8.below (by omega) gP.out.bel.size)
                clear t8 gP gN gK
                go_upto_region 25 with fail
                obtain ⟨w9, hw9⟩ : ∃ w9, (wr.setCell ⟨K, 3, none⟩ (.slice (some ⟨gq, 0, none⟩) ks.length cq)) = w9 := ⟨_, rfl⟩
                rw [hw9] at I2 I3 OA OB B9 ⊢
                clear hw9 k0 k1 k2 k3 kf
                have c0 := (cells_of I3.out).1 0
                have c1 := (cells_of I3.out).1 1
                have c2 := (cells_of I3.out).1 2
                have c3 := (cells_of I3.out).1 3
                have d0 := (cells_of I2.out).1 0
                have d1 := (cells_of I2.out).1 1
                have d2 := (cells_of I2.out).1 2
                have d3 := (cells_of I2.out).1 3
                have f2 := (cells_of I2.out).2
                simp at c0 c1 c2 c3 d0 d1 d2 d3
                have pb := put4_but w9 (w.heap.size + 1) (.slice (some ⟨gs, 0, none⟩) sizes.length cgs) (.int .i64 params) (.int .i64 slots) (.slice (some ⟨gq, 0, none⟩) ks.length cq)
                have P2 := hideP (put4_box I2.out (.slice (some ⟨gs, 0, none⟩) sizes.length cgs) (.int .i64 params) (.int .i64 slots) (.slice (some ⟨gq, 0, none⟩) ks.length cq))
                have GOAL : Hid (MadeIm w P (.returned (.agg #[.slice (some ⟨gs, 0, none⟩) sizes.length cgs, .int .i64 params, .int .i64 slots, .slice (some ⟨gq, 0, none⟩) ks.length cq])) (put4 w9 (w.heap.size + 1) (.slice (some ⟨gs, 0, none⟩) sizes.length cgs) (.int .i64 params) (.int .i64 slots) (.slice (some ⟨gq, 0, none⟩) ks.length cq))) := by
                  rw [EP.out]
                  refine ⟨gs, cgs, gq, cq, ?_, (OB.out.butG pb (by simp [Value.ownBlock]; omega)).mono (by omega), ?_, B9.out.trans (pb.below (Nat.le_succ _) B9.out.size)⟩
                  · simp only [List.length_map]
                  · simp only [List.length_map]
                    exact (OA.out.butG pb (by simp [Value.ownBlock]; omega)).mono (by omega)
                clear pb I2 I3 OA OB B9 EP
                go_wp2
                refine bodyPost_ret (results_cell_row rfl _ _ (w.heap.size + 1) 30 #[.slice (some ⟨gs, 0, none⟩) sizes.length cgs, .int .i64 params, .int .i64 slots, .slice (some ⟨gq, 0, none⟩) ks.length cq] (0, 0) _ rfl P2.out Try.underlying30 rfl (by kernel_rfl)) rfl ?_
                exact GOAL.out
end Go.Proofs.Ytfoelnblnfcaiaa
