/- A row appended to an empty list is a list of one's own; the contract of spec.l13Copy. -/
import Derived.Test.YtfoelnblnfcaiaaCpI
namespace Go.Proofs.Ytfoelnblnfcaiaa
open Go.ChangeShapes Go.WideShapes Go.ChangeAt Go.RowKit
def RowO (w : World) (B : Nat) (T : TypeId) (sz : Nat) (v : Value) (n : Nat) (vs : Nat → Array Value) : Prop :=
  ∃ g cap cur, v = .slice (some ⟨g, 0, none⟩) n cap ∧ B ≤ g ∧ w.heap[g]? = some (.cells cur T (0, 0)) ∧ n ≤ cap ∧ cap ≤ maxLen ∧ cur.size = cap * sz ∧ ∀ i, i < n → ∀ r, r < sz → cur[i * sz + r]? = (vs i)[r]?
theorem list_appO1 {ops : Array Oper} {o : Oper} {a : Act} {Q : Exit → Act → World → Prop} {rest : List Oper} (w : World) (hgd : o.guard = none) (s y : Operand) (T ST : TypeId) (ho : o.op = .call { callee := .builtin .append, args := #[s, y], argTypes := #[ST, ST] })
    (sz bys : Nat) (z : Value) (hu : Try.prog.underlying ST = some (.slice T)) (hi : (Try.prog.info? T).map (fun i => (i.zero, i.size, i.bytes)) = some (some z, sz, bys)) (hz : z.cells.size = sz) (hp : 0 < sz) (hf : bys ≤ 1000)
    (B g0 : Nat) (v1 : Value) (hs : a.eval s = v1) (hv1 : v1 = .slice (some ⟨g0, 0, none⟩) 0 0) (hg0 : w.heap[g0]? = some (.cells #[] T (0, 0))) (hB0 : B ≤ g0) (ad : Addr) (n cap2 : Nat) (hx : a.eval y = .slice (some ad) n cap2) (vs : Nat → Array Value) (hsz : ∀ i, i < n → (vs i).size = sz)
    (h2 : ∀ i, i < n → ∀ r, r < sz → w.cell? (ad.add (i * sz + r)) = (vs i)[r]?) (h1 : ∀ i, i < n → ∀ u ∈ (vs i).toList, u.oneCell' = true) (hn : n ≤ 8000000) (hB : B ≤ w.heap.size)
    (h : ∀ v' w', RowO w' B T sz v' n vs → w.grownBy w' (some g0) → wpList Try.prog ops Q rest (a.put o.dst v') w') :
    wpList Try.prog ops Q (o :: rest) a w := by
  refine wpList_plain hgd fun K hK => ?_
  obtain ⟨i0, hi, hz0, hz1, hz2⟩ := info_parts hi
  have hown : w.ownsRow B T sz v1 0 [] := ⟨by simp, Or.inr ⟨g0, 0, #[], hv1, hB0, hg0, Nat.le_refl _, Nat.zero_le _, by simp, by simp⟩⟩
  have hbn : (0 + n) * bys ≤ 8000000 * 1000 := Nat.mul_le_mul (by omega) hf
  have hlen := rowL_len (vs := vs) (n := n) hsz
  obtain ⟨v', w', hr, ho', hg, hnil, hloc⟩ := run_append_own_at (P := Try.prog) w B ST o.type T i0 z sz bys hu hi hz0 hz1 hz2 hz hp v1 0 [] hown ad n cap2 (rowL vs n) hlen (fun j u hj => by
      have hlt : j < n * sz := by have := (List.getElem?_eq_some_iff.1 hj).1; rwa [hlen] at this
      have hjd : j / sz < n := Nat.div_lt_of_lt_mul (by rw [Nat.mul_comm]; exact hlt)
      have hjm : j % sz < sz := Nat.mod_lt _ hp
      have e : j / sz * sz + j % sz = j := by rw [Nat.mul_comm]; exact Nat.div_add_mod _ _
      have k1 := rowL_at hsz (j / sz) hjd (j % sz) hjm
      rw [e, hj] at k1
      have k2 := h2 (j / sz) hjd (j % sz) hjm
      rw [e] at k2
      rw [k2, ← k1])
    (fun u hu => by obtain ⟨i, hi, hm⟩ := rowL_mem hu; exact h1 i hi u hm) (by unfold maxLen; omega) (by omega) hB
  unfold Oper.wp execOp
  simp only [ho, resolve, invoke, builtin, Sem.run_bind, Sem.run_pure, Result.andThen_ok, List.map_toArray, List.map_cons, List.map_nil, hs, hx, hr]
  refine hK _ _ (h v' w' ?_ (by rw [hv1] at hg; exact hg))
  obtain ⟨_, ⟨h0, _⟩ | ⟨g', cap', cur, hv', hB', hh, hc, hc2, hs', ht⟩⟩ := ho'
  · have := (hnil.1 h0).1; rw [hv1] at this; cases this
  · refine ⟨g', cap', cur, by rw [hv']; simp, hB', hh, by omega, hc2, hs', fun i hi r hr => ?_⟩
    · have k1 := rowL_at hsz i hi r hr
      have hlt : i * sz + r < (0 + n) * sz := by have := Nat.mul_le_mul_right sz (show i + 1 ≤ n from hi); rw [Nat.succ_mul] at this; rw [Nat.zero_add]; omega
      have k2 : (cur.toList.take ((0 + n) * sz))[i * sz + r]? = ([] ++ rowL vs n)[i * sz + r]? := by rw [ht]
      rw [List.getElem?_take_of_lt hlt, List.nil_append, k1] at k2
      simpa using k2
theorem list_appO {ops : Array Oper} {o : Oper} {a : Act} {Q : Exit → Act → World → Prop} {rest : List Oper} (w : World) (hgd : o.guard = none) (s y : Operand) (T ST : TypeId) (ho : o.op = .call { callee := .builtin .append, args := #[s, y], argTypes := #[ST, ST] })
    (sz bys : Nat) (z : Value) (hu : Try.prog.underlying ST = some (.slice T)) (hi : (Try.prog.info? T).map (fun i => (i.zero, i.size, i.bytes)) = some (some z, sz, bys)) (hz : z.cells.size = sz) (hp : 0 < sz) (hf : bys ≤ 1000)
    (B g0 : Nat) (v1 : Value) (hs : a.eval s = v1) (hv1 : v1 = .slice (some ⟨g0, 0, none⟩) 0 0) (hg0 : w.heap[g0]? = some (.cells #[] T (0, 0))) (hB0 : B ≤ g0) (a2 : Option Addr) (n cap2 : Nat) (hx : a.eval y = .slice a2 n cap2) (vs : Nat → Array Value) (Bx : Nat)
    (hr : RowAt w Bx a2 n sz vs) (h1 : ∀ i, i < n → ∀ u ∈ (vs i).toList, u.oneCell' = true) (hn : n ≤ 8000000) (hB : B ≤ w.heap.size)
    (h : ∀ v' w', RowO w' B T sz v' n vs → w.grownBy w' (some g0) → wpList Try.prog ops Q rest (a.put o.dst v') w') :
    wpList Try.prog ops Q (o :: rest) a w := by
  cases a2 with
  | none =>
    have hn0 : n = 0 := by rcases hr with h0 | ⟨b, o, ha, _⟩; exact h0; cases ha
    subst hn0
    refine wpList_plain hgd fun K hK => ?_
    obtain ⟨i0, hi, _, _, _⟩ := info_parts hi
    have hrun := run_app_none (P := Try.prog) w ST o.type T i0 hu hi g0 cap2
    unfold Oper.wp execOp
    rw [hv1] at hs
    simp only [ho, resolve, invoke, builtin, Sem.run_bind, Sem.run_pure, Result.andThen_ok, List.map_toArray, List.map_cons, List.map_nil, hs, hx, hrun]
    exact hK _ _ (h _ _ ⟨g0, 0, #[], rfl, hB0, hg0, Nat.le_refl _, Nat.zero_le _, by simp, fun i hi => absurd hi (Nat.not_lt_zero _)⟩ (World.grownBy.refl _ _))
  | some ad =>
    refine list_appO1 w hgd s y T ST ho sz bys z hu hi hz hp hf B g0 v1 hs hv1 hg0 hB0 ad n cap2 hx vs (fun i hi => ?_) (fun i hi r hr' => ?_) h1 hn hB h
    · rcases hr with h0 | ⟨b, o, ha, _, _, _, hc⟩
      · omega
      · exact (hc i hi).1
    · rcases hr with h0 | ⟨b, o, ha, _, _, _, hc⟩
      · omega
      · cases ha
        rw [addr_add', ← Nat.add_assoc]; exact (hc i hi).2 r hr'
theorem But.ofG' {b : Nat} {w w' : World} (h : w.grownBy w' (some b)) : But b w w' := ⟨h.os, h.tape, h.output, h.size, fun k hk hne => h.block k hk (by simpa using hne)⟩
theorem RowO.ints {w : World} {B : Nat} {v : Value} {zs : List Int} (h : RowO w B 3 1 v zs.length (fun i => #[.int .i64 (zs[i]?.getD 0)])) : ∃ g c, v = .slice (some ⟨g, 0, none⟩) zs.length c ∧ OwnI w B (.slice (some ⟨g, 0, none⟩) zs.length c) zs := by
  obtain ⟨g, c, cur, hv, hB, hh, h1, h2, h3, h4⟩ := h
  refine ⟨g, c, hv, OwnI.of_parts hB hh h1 h2 (by rw [h3, Nat.mul_one]) (fun j hj => ?_)⟩
  have k := h4 j hj 0 (by decide)
  rw [Nat.mul_one, Nat.add_zero] at k
  rw [k]
  show some (Value.int .i64 (zs[j]?.getD 0)) = _
  rw [List.getElem?_eq_getElem hj]; rfl
theorem RowO.words {w : World} {B : Nat} {v : Value} {l : List Wrd} (h : RowO w B 44 5 v l.length (fun i => (wcs (l[i]?.getD default)).toArray)) : ∃ g c, v = .slice (some ⟨g, 0, none⟩) l.length c ∧ OwnE WrE w B (.slice (some ⟨g, 0, none⟩) l.length c) l := by
  obtain ⟨g, c, cur, hv, hB, hh, h1, h2, h3, h4⟩ := h
  refine ⟨g, c, hv, OwnE.of_parts WrOk hB hh h1 h2 h3 (fun j hj r hr => ?_)⟩
  have k := h4 j hj r hr
  show cur[j * 5 + r]? = _
  rw [k]
  show (wcs (l[j]?.getD default)).toArray[r]? = _
  rw [List.getElem?_eq_getElem hj]
  simp [WrE]
set_option maxHeartbeats 8000000 in
set_option maxRecDepth 100000 in
theorem l13Copy_any (m : Img) (w : World) (B : Nat) (v : Array Value) (h : ImgIs w B v m) (hn : m.sz ≤ 1048576) :
    Calls Try.prog 36 #[.agg v] w fun en w' => MadeIm w m en w' := by
  have hl1 : m.sizes.length ≤ 1048576 := by unfold Img.sz slSz at hn; omega
  have hl2 : m.code.length ≤ 1048576 := by unfold Img.sz slSz at hn; omega
  obtain ⟨sizes, params, slots, code⟩ := m
  obtain ⟨us, cs, ub, cb, rfl, _, hz, hb⟩ := h
  simp only at *
  have hm := maxLen_lt
  have RW1 : Hid (∀ W', Below w.heap.size w W' → RowAt W' B us sizes.length 1 (fun i => #[.int .i64 (sizes[i]?.getD 0)])) := fun W' bel => ints_row (hz.stays bel)
  have RW2 : Hid (∀ W', Below w.heap.size w W' → RowAt W' B ub code.length 5 (fun i => (wcs (code[i]?.getD default)).toArray)) := fun W' bel => words_row (hb.stays WrdKeeps bel)
  clear hz hb hn
  have AL := hideP ((below2 w (.cells #[.slice us sizes.length cs, .int .i64 params, .int .i64 slots, .slice ub code.length cb] 30) (.cells #[.slice none 0 0, .int .i64 0, .int .i64 0, .slice none 0 0] 30)).alloc (by simp; omega) (.cells #[.slice us sizes.length cs, .int .i64 params, .int .i64 slots, .slice ub code.length cb] 30))
  have TW := two (w := w) (o1 := .cells #[.slice us sizes.length cs, .int .i64 params, .int .i64 slots, .slice ub code.length cb] 30) (o2 := .cells #[.slice none 0 0, .int .i64 0, .int .i64 0, .slice none 0 0] 30) (Below.refl _ _)
  have a3 := (Below.refl ((w.alloc (.cells #[.slice us sizes.length cs, .int .i64 params, .int .i64 slots, .slice ub code.length cb] 30)).alloc (.cells #[.slice none 0 0, .int .i64 0, .int .i64 0, .slice none 0 0] 30)).heap.size ((w.alloc (.cells #[.slice us sizes.length cs, .int .i64 params, .int .i64 slots, .slice ub code.length cb] 30)).alloc (.cells #[.slice none 0 0, .int .i64 0, .int .i64 0, .slice none 0 0] 30))).alloc (Nat.le_refl _) (.cells #[.slice us sizes.length cs, .int .i64 params, .int .i64 slots, .slice ub code.length cb] 30)
  have I1 := hideP (keepC TW.1 a3)
  have I2 := hideP (keepC TW.2.1 a3)
  have I3 := heap_alloc_new ((w.alloc (.cells #[.slice us sizes.length cs, .int .i64 params, .int .i64 slots, .slice ub code.length cb] 30)).alloc (.cells #[.slice none 0 0, .int .i64 0, .int .i64 0, .slice none 0 0] 30)) (.cells #[.slice us sizes.length cs, .int .i64 params, .int .i64 slots, .slice ub code.length cb] 30)
  rw [show ((w.alloc (.cells #[.slice us sizes.length cs, .int .i64 params, .int .i64 slots, .slice ub code.length cb] 30)).alloc (.cells #[.slice none 0 0, .int .i64 0, .int .i64 0, .slice none 0 0] 30)).heap.size = w.heap.size + 2 by simp] at I3
  replace I3 := hideP I3
  clear TW a3
  go_enter Try.func36, Try.ntmps36
  go_upto_region 2 with fail
  obtain ⟨WA, hWA⟩ : ∃ WA, (((w.alloc (.cells #[.slice us sizes.length cs, .int .i64 params, .int .i64 slots, .slice ub code.length cb] 30)).alloc (.cells #[.slice none 0 0, .int .i64 0, .int .i64 0, .slice none 0 0] 30)).alloc (.cells #[.slice us sizes.length cs, .int .i64 params, .int .i64 slots, .slice ub code.length cb] 30)) = WA := ⟨_, rfl⟩
  rw [hWA] at AL I1 I2 I3 ⊢
  clear hWA
  have zA : w.heap.size + 2 < WA.heap.size := (Array.getElem?_eq_some_iff.1 I3.out).1
  have zB : w.heap.size < WA.heap.size := by omega
  have p0 := (cells_of I1.out).1 0
  simp at p0
  have a4 := (Below.refl WA.heap.size WA).alloc (Nat.le_refl _) (.cells #[] 3)
  have G4 := hideP (heap_alloc_new WA (.cells #[] 3))
  have B4 := hideP (below_trans AL.out a4)
  have J1 := hideP (keepC I1.out a4)
  have J2 := hideP (keepC I2.out a4)
  have J3 := hideP (keepC I3.out a4)
  have z4 : WA.heap.size ≤ (WA.alloc (.cells #[] 3)).heap.size := by simp
  clear a4 AL I1 I2 I3
  go_upto_region 3 with (at_builtin; refine list_appO _ rfl _ _ 3 22 rfl 1 8 (.int .i64 0) Try.underlying22 infoI rfl (by decide) (by decide) WA.heap.size WA.heap.size _ rfl rfl G4.out (Nat.le_refl _) us sizes.length cs rfl (fun i => #[.int .i64 (sizes[i]?.getD 0)]) B (RW1.out _ B4.out) (fun i _ u hu => by simp at hu; rw [hu]; rfl) (by omega) z4 ?_; intro v5 w5 r5 grow5; obtain ⟨gs, cgs, rfl, o5⟩ := r5.ints; have b5 := But.ofG' grow5; have K1 := hideP (keepG J1.out b5 (by omega)); have K2 := hideP (keepG J2.out b5 (by omega)); have K3 := hideP (keepG J3.out b5 (by omega)); have O5 := hideP o5; have B5 : Hid (Below w.heap.size w w5) := B4.out.trans (b5.below (by omega) B4.out.size); have u0 := (cells_of K3.out).1 0; have uf := (cells_of K3.out).2; simp at u0; have zO := (Array.getElem?_eq_some_iff.1 K3.out).1; clear r5 grow5 b5 o5 J1 J2 J3 B4 G4 p0 z4)
  have t5 : But (w.heap.size + 2) w5 (w5.setCell ⟨w.heap.size + 2, 0, none⟩ (.slice (some ⟨gs, 0, none⟩) sizes.length cgs)) := (But.refl _ _).set _ _
  have lo5 := O5.out.low gs rfl
  have I1 := hideP (keepG K1.out t5 (by omega))
  have I2 := hideP (keepG K2.out t5 (by omega))
  have I3 : Hid ((w5.setCell ⟨w.heap.size + 2, 0, none⟩ (.slice (some ⟨gs, 0, none⟩) sizes.length cgs)).heap[w.heap.size + 2]? = some (.cells #[.slice (some ⟨gs, 0, none⟩) sizes.length cgs, .int .i64 params, .int .i64 slots, .slice ub code.length cb] 30 (0, 0))) := by
    have := heap_setCell_same w5 (w.heap.size + 2) 0 _ _ (.slice (some ⟨gs, 0, none⟩) sizes.length cgs) K3.out
    show _ = _
    simpa using this
  have O6 := hideP (O5.out.butG t5 (by simp [Value.ownBlock]; omega))
  have B6 : Hid (Below w.heap.size w (w5.setCell ⟨w.heap.size + 2, 0, none⟩ (.slice (some ⟨gs, 0, none⟩) sizes.length cgs))) := B5.out.trans (t5.below (by omega) B5.out.size)
  obtain ⟨w6, hw6⟩ : ∃ w6, (w5.setCell ⟨w.heap.size + 2, 0, none⟩ (.slice (some ⟨gs, 0, none⟩) sizes.length cgs)) = w6 := ⟨_, rfl⟩
  rw [hw6] at I1 I2 I3 O6 B6 ⊢
  clear hw6 t5 K1 K2 K3 O5 B5 u0 uf lo5
  have lo6 := O6.out.low gs rfl
  have zB6 : w.heap.size < w6.heap.size := by omega
  have p3 := (cells_of I1.out).1 3
  simp at p3
  have a7 := (Below.refl w6.heap.size w6).alloc (Nat.le_refl _) (.cells #[] 44)
  have G7 := hideP (heap_alloc_new w6 (.cells #[] 44))
  have B7 := hideP (below_trans B6.out a7)
  have J1 := hideP (keepC I1.out a7)
  have J2 := hideP (keepC I2.out a7)
  have J3 := hideP (keepC I3.out a7)
  have O7 := hideP (O6.out.stays a7)
  have z7 : w6.heap.size ≤ (w6.alloc (.cells #[] 44)).heap.size := by simp
  clear a7 I1 I2 I3 O6 B6
  go_upto_region 4 with (at_builtin; refine list_appO _ rfl _ _ 44 28 rfl 5 40 _ Try.underlying28 infoWd rfl (by decide) (by decide) w6.heap.size w6.heap.size _ rfl rfl G7.out (Nat.le_refl _) ub code.length cb rfl (fun i => (wcs (code[i]?.getD default)).toArray) B (RW2.out _ B7.out) (fun i _ u hu => wcs_one _ u hu) (by omega) z7 ?_; intro v8 w8 r8 grow8; obtain ⟨gc, cgc, rfl, o8⟩ := r8.words; have b8 := But.ofG' grow8; have K2 := hideP (keepG J2.out b8 (by omega)); have K3 := hideP (keepG J3.out b8 (by omega)); have O8 := hideP o8; have O9 := hideP (O7.out.butG b8 (by simp [Value.ownBlock]; omega)); have B8 : Hid (Below w.heap.size w w8) := B7.out.trans (b8.below (by omega) B7.out.size); have u0 := (cells_of K3.out).1 3; have uf := (cells_of K3.out).2; simp at u0; have zO8 := (Array.getElem?_eq_some_iff.1 K3.out).1; clear r8 grow8 b8 o8 J1 J2 J3 B7 G7 p3 z7 O7)
  have t8 : But (w.heap.size + 2) w8 (w8.setCell ⟨w.heap.size + 2, 3, none⟩ (.slice (some ⟨gc, 0, none⟩) code.length cgc)) := (But.refl _ _).set _ _
  have lo8 := O8.out.low gc rfl
  have lo9 := O9.out.low gs rfl
  have I2 := hideP (keepG K2.out t8 (by omega))
  have I3 : Hid ((w8.setCell ⟨w.heap.size + 2, 3, none⟩ (.slice (some ⟨gc, 0, none⟩) code.length cgc)).heap[w.heap.size + 2]? = some (.cells #[.slice (some ⟨gs, 0, none⟩) sizes.length cgs, .int .i64 params, .int .i64 slots, .slice (some ⟨gc, 0, none⟩) code.length cgc] 30 (0, 0))) := by
    have := heap_setCell_same w8 (w.heap.size + 2) 3 _ _ (.slice (some ⟨gc, 0, none⟩) code.length cgc) K3.out
    show _ = _
    simpa using this
  have OA := hideP (O8.out.butG t8 (by simp [Value.ownBlock]; omega))
  have OB := hideP (O9.out.butG t8 (by simp [Value.ownBlock]; omega))
  have B9 : Hid (Below w.heap.size w (w8.setCell ⟨w.heap.size + 2, 3, none⟩ (.slice (some ⟨gc, 0, none⟩) code.length cgc))) := B8.out.trans (t8.below (by omega) B8.out.size)
  obtain ⟨w9, hw9⟩ : ∃ w9, (w8.setCell ⟨w.heap.size + 2, 3, none⟩ (.slice (some ⟨gc, 0, none⟩) code.length cgc)) = w9 := ⟨_, rfl⟩
  rw [hw9] at I2 I3 OA OB B9 ⊢
  clear hw9 t8 K2 K3 O8 O9 B8 u0 uf
  have c0 := (cells_of I3.out).1 0
  have c1 := (cells_of I3.out).1 1
  have c2 := (cells_of I3.out).1 2
  have c3 := (cells_of I3.out).1 3
  have d0 := (cells_of I2.out).1 0
  have d1 := (cells_of I2.out).1 1
  have d2 := (cells_of I2.out).1 2
  have d3 := (cells_of I2.out).1 3
  have f2 := (cells_of I2.out).2
  simp at c0 c1 c2 c3 d0 d1 d2 d3
  have pb := put4_but w9 (w.heap.size + 1) (.slice (some ⟨gs, 0, none⟩) sizes.length cgs) (.int .i64 params) (.int .i64 slots) (.slice (some ⟨gc, 0, none⟩) code.length cgc)
  have P2 := hideP (put4_box I2.out (.slice (some ⟨gs, 0, none⟩) sizes.length cgs) (.int .i64 params) (.int .i64 slots) (.slice (some ⟨gc, 0, none⟩) code.length cgc))
  have GOAL : Hid (MadeIm w ⟨sizes, params, slots, code⟩ (.returned (.agg #[.slice (some ⟨gs, 0, none⟩) sizes.length cgs, .int .i64 params, .int .i64 slots, .slice (some ⟨gc, 0, none⟩) code.length cgc])) (put4 w9 (w.heap.size + 1) (.slice (some ⟨gs, 0, none⟩) sizes.length cgs) (.int .i64 params) (.int .i64 slots) (.slice (some ⟨gc, 0, none⟩) code.length cgc))) :=
    ⟨gs, cgs, gc, cgc, rfl, (OB.out.butG pb (by simp [Value.ownBlock]; omega)).mono (by omega), (OA.out.butG pb (by simp [Value.ownBlock]; omega)).mono (by omega), B9.out.trans (pb.below (Nat.le_succ _) B9.out.size)⟩
  clear pb I2 I3 OA OB B9 RW1 RW2
  go_wp2
  refine bodyPost_ret (results_cell_row rfl _ _ (w.heap.size + 1) 30 #[.slice (some ⟨gs, 0, none⟩) sizes.length cgs, .int .i64 params, .int .i64 slots, .slice (some ⟨gc, 0, none⟩) code.length cgc] (0, 0) _ rfl P2.out Try.underlying30 rfl (by kernel_rfl)) rfl ?_
  exact GOAL.out
end Go.Proofs.Ytfoelnblnfcaiaa
