/- 'copy' of a row into a row that was just made; the contract of impl.imageCopy. -/
import Derived.Test.YtfoelnblnfcaiaaRowL
import Derived.Test.YtfoelnblnfcaiaaOgA
import Derived.Deep.CutRange
import Derived.Laws.CopyOwn
namespace Go.Proofs.Ytfoelnblnfcaiaa
open Go.ChangeShapes Go.WideShapes Go.ChangeAt Go.RowKit
theorem run_copyR {w : World} (T ST ty : TypeId) (sz bys : Nat) (z : Value) (hu : Try.prog.underlying ST = some (.slice T)) (hi : (Try.prog.info? T).map (fun i => (i.zero, i.size, i.bytes)) = some (some z, sz, bys)) (hp : 0 < sz)
    (g n dcap : Nat) (cur : Array Value) (hg : w.heap[g]? = some (.cells cur T (0, 0))) (hcs : cur.size = n * sz) (a2 : Option Addr) (cap2 : Nat) (vs : Nat → Array Value) (Bx : Nat)
    (hr : RowAt w Bx a2 n sz vs) (h1 : ∀ i, i < n → ∀ u ∈ (vs i).toList, u.oneCell' = true) :
    ∃ w', (Builtin.copy_ #[ST, ST] ty #[.slice (some ⟨g, 0, none⟩) n dcap, .slice a2 n cap2]).run Try.prog w = .ok (goInt n) w' ∧ w'.heap[g]? = some (.cells (rowL vs n).toArray T (0, 0)) ∧ But g w w' := by
  obtain ⟨i0, hi, hz0, hz1, hz2⟩ := info_parts hi
  cases a2 with
  | none =>
    have hn0 : n = 0 := by rcases hr with h0 | ⟨b, o, ha, _⟩; exact h0; cases ha
    subst hn0
    refine ⟨w, ?_, ?_, But.refl _ _⟩
    · simp [Builtin.copy_, run_underlying hu, sizeOf, typeInfo, hi, Builtin.lenOf, Builtin.firstCells, storeCells]
    · have : cur = #[] := Array.eq_empty_of_size_eq_zero (by rw [hcs]; simp)
      rw [hg, this]; simp [rowL]
  | some ad =>
    have hsz : ∀ i, i < n → (vs i).size = sz := fun i hi => by
      rcases hr with h0 | ⟨b, o, ha, _, _, _, hc⟩
      · omega
      · exact (hc i hi).1
    have hlen := rowL_len (vs := vs) (n := n) hsz
    have hnews : ∀ (j : Nat) (u : Value), (rowL vs n)[j]? = some u → w.cell? (ad.add j) = some u := fun j u hj => by
      have hlt : j < n * sz := by have := (List.getElem?_eq_some_iff.1 hj).1; rwa [hlen] at this
      have hjd : j / sz < n := Nat.div_lt_of_lt_mul (by rw [Nat.mul_comm]; exact hlt)
      have hjm : j % sz < sz := Nat.mod_lt _ hp
      have e : j / sz * sz + j % sz = j := by rw [Nat.mul_comm]; exact Nat.div_add_mod _ _
      have k1 := rowL_at hsz (j / sz) hjd (j % sz) hjm
      rw [e, hj] at k1
      rcases hr with h0 | ⟨b, o, ha, _, _, _, hc⟩
      · exact absurd hjd (by rw [h0]; exact Nat.not_lt_zero _)
      · cases ha
        have k2 := (hc (j / sz) hjd).2 (j % sz) hjm
        rw [addr_add', show o + j = o + j / sz * sz + j % sz by rw [Nat.add_assoc, e], k2, ← k1]
    have hf := run_firstCells_some (P := Try.prog) w i0.size n ad n cap2 (rowL vs n) (by rw [hlen, hz1]) hnews
    have hst := run_storeCells_at Try.prog g 0 T (rowL vs n) 0 cur w hg (by rw [hlen, hcs]; omega) (fun u hu => by obtain ⟨i, hi, hm⟩ := rowL_mem hu; exact h1 i hi u hm)
    have hset : (cur.toList.take (0 + 0) ++ rowL vs n ++ cur.toList.drop (0 + 0 + (rowL vs n).length)).toArray = (rowL vs n).toArray := by
      have : cur.toList.length ≤ (rowL vs n).length := by rw [hlen, Array.length_toList, hcs]; exact Nat.le_refl _
      simp [List.drop_of_length_le this]
    rw [hset] at hst
    refine ⟨w.setRow g (rowL vs n).toArray, ?_, setRow_heap w g cur _ _ _ hg, ⟨rfl, rfl, rfl, by simp, fun k _ hk => setRow_other w g k _ hk⟩⟩
    simp [Builtin.copy_, run_underlying hu, sizeOf, typeInfo, hi, Builtin.lenOf, hf, hst]
theorem list_copyR {ops : Array Oper} {o : Oper} {a : Act} {Q : Exit → Act → World → Prop} {rest : List Oper} (w : World) (hgd : o.guard = none) (d s : Operand) (T ST : TypeId) (ho : o.op = .call { callee := .builtin .copy, args := #[d, s], argTypes := #[ST, ST] })
    (sz bys : Nat) (z : Value) (hu : Try.prog.underlying ST = some (.slice T)) (hi : (Try.prog.info? T).map (fun i => (i.zero, i.size, i.bytes)) = some (some z, sz, bys)) (hp : 0 < sz)
    (g n dcap : Nat) (cur : Array Value) (hd : a.eval d = .slice (some ⟨g, 0, none⟩) n dcap) (hg : w.heap[g]? = some (.cells cur T (0, 0))) (hcs : cur.size = n * sz) (a2 : Option Addr) (cap2 : Nat) (hs : a.eval s = .slice a2 n cap2) (vs : Nat → Array Value) (Bx : Nat)
    (hr : RowAt w Bx a2 n sz vs) (h1 : ∀ i, i < n → ∀ u ∈ (vs i).toList, u.oneCell' = true)
    (h : ∀ w', w'.heap[g]? = some (.cells (rowL vs n).toArray T (0, 0)) → But g w w' → wpList Try.prog ops Q rest (a.put o.dst (goInt n)) w') :
    wpList Try.prog ops Q (o :: rest) a w := by
  refine wpList_plain hgd fun K hK => ?_
  obtain ⟨w', hrun, r1, r2⟩ := run_copyR (w := w) T ST o.type sz bys z hu hi hp g n dcap cur hg hcs a2 cap2 vs Bx hr h1
  unfold Oper.wp execOp
  simp only [ho, resolve, invoke, builtin, Sem.run_bind, Sem.run_pure, Result.andThen_ok, List.map_toArray, List.map_cons, List.map_nil, hs, hd, hrun]
  exact hK _ _ (h w' r1 r2)
theorem infoWd : (Try.prog.info? 44).map (fun i => (i.zero, i.size, i.bytes)) = some (some (.agg #[.int .i64 0, .int .i64 0, .int .i64 0, .int .i64 0, .int .i64 0]), 5, 40) := by kernel_rfl
/-- A list of numbers as a row, and back. -/
theorem ints_row {w : World} {B : Nat} {a : Option Addr} {zs : List Int} (h : IntsIs w B a zs) : RowAt w B a zs.length 1 (fun i => #[.int .i64 (zs[i]?.getD 0)]) := by
  rcases h.2 with h0 | ⟨b, o, ha, hB, hb, hp, hc⟩
  · exact Or.inl h0
  · refine Or.inr ⟨b, o, ha, hB, hb, hp, fun i hi => ⟨rfl, fun j hj => ?_⟩⟩
    obtain rfl : j = 0 := by omega
    rw [Nat.mul_one, Nat.add_zero, hc i hi]
    show _ = some (Value.int .i64 (zs[i]?.getD 0))
    rw [List.getElem?_eq_getElem hi]; rfl
theorem own_row {w : World} {B g : Nat} {zs : List Int} (hB : B ≤ g) (hl : zs.length ≤ 8000000) (h : w.heap[g]? = some (.cells (rowL (fun i => #[.int .i64 (zs[i]?.getD 0)]) zs.length).toArray 3 (0, 0))) : OwnI w B (.slice (some ⟨g, 0, none⟩) zs.length zs.length) zs := by
  have hs : ∀ i, i < zs.length → ((fun i => #[Value.int .i64 (zs[i]?.getD 0)]) i).size = 1 := fun _ _ => rfl
  have hlen := rowL_len hs
  refine OwnI.of_parts hB h (Nat.le_refl _) (by unfold maxLen; omega) (by simpa using hlen) (fun j hj => ?_)
  have k := rowL_at hs j hj 0 (by decide)
  rw [Nat.mul_one, Nat.add_zero] at k
  rw [List.getElem?_toArray, k]
  show some (Value.int .i64 (zs[j]?.getD 0)) = _
  rw [List.getElem?_eq_getElem hj]; rfl
theorem words_row {w : World} {B : Nat} {a : Option Addr} {l : List Wrd} (h : SlIs WrdIs 5 w B a l) : RowAt w B a l.length 5 (fun i => (wcs (l[i]?.getD default)).toArray) := by
  obtain ⟨_, vs, hr, hx⟩ := h
  rcases hr with h0 | ⟨b, o, ha, hB, hb, hp, hc⟩
  · exact Or.inl h0
  · refine Or.inr ⟨b, o, ha, hB, hb, hp, fun i hi => ⟨rfl, fun j hj => ?_⟩⟩
    rw [(hc i hi).2 j hj, (hx i hi).1]
    show _ = (wcs (l[i]?.getD default)).toArray[j]?
    rw [List.getElem?_eq_getElem hi]; rfl
theorem ownW_row {w : World} {B g : Nat} {l : List Wrd} (hB : B ≤ g) (hl : l.length ≤ 8000000) (h : w.heap[g]? = some (.cells (rowL (fun i => (wcs (l[i]?.getD default)).toArray) l.length).toArray 44 (0, 0))) : OwnE WrE w B (.slice (some ⟨g, 0, none⟩) l.length l.length) l := by
  have hs : ∀ i, i < l.length → ((fun i => (wcs (l[i]?.getD default)).toArray) i).size = 5 := fun _ _ => rfl
  have hlen := rowL_len hs
  refine OwnE.of_parts WrOk hB h (Nat.le_refl _) (by unfold maxLen; omega) (by rw [List.size_toArray]; exact hlen) (fun j hj r hr => ?_)
  have k := rowL_at hs j hj r hr
  show (rowL _ _).toArray[j * 5 + r]? = _
  rw [List.getElem?_toArray, k]
  show (wcs (l[j]?.getD default)).toArray[r]? = _
  rw [List.getElem?_eq_getElem hj]
  simp [WrE]
theorem wcs_one (x : Wrd) : ∀ u ∈ (wcs x).toArray.toList, u.oneCell' = true := fun u hu => WrOk.one x u hu
end Go.Proofs.Ytfoelnblnfcaiaa

/- The contract of impl.imageCopy. -/
namespace Go.Proofs.Ytfoelnblnfcaiaa
open Go.ChangeShapes Go.WideShapes Go.ChangeAt Go.RowKit
theorem keepC {W W' : World} {b : Nat} {o : Obj} (h : W.heap[b]? = some o) (bel : Below W.heap.size W W') : W'.heap[b]? = some o := (bel.block b (Array.getElem?_eq_some_iff.1 h).1).trans h
theorem keepG {W W' : World} {b g : Nat} {o : Obj} (h : W.heap[b]? = some o) (hb : But g W W') (hne : b ≠ g) : W'.heap[b]? = some o := (hb.block b (Array.getElem?_eq_some_iff.1 h).1 hne).trans h
/-- A box of four cells, written anew. -/
def put4 (W : World) (g : Nat) (v0 v1 v2 v3 : Value) : World := (((W.setCell ⟨g, 0, none⟩ v0).setCell ⟨g, 1, none⟩ v1).setCell ⟨g, 2, none⟩ v2).setCell ⟨g, 3, none⟩ v3
theorem put4_box {W : World} {g : Nat} {T : TypeId} {a b c d : Value} (h : W.heap[g]? = some (.cells #[a, b, c, d] T (0, 0))) (v0 v1 v2 v3 : Value) : (put4 W g v0 v1 v2 v3).heap[g]? = some (.cells #[v0, v1, v2, v3] T (0, 0)) := by
  have h0 := heap_setCell_same W g 0 _ T v0 h
  have h1 := heap_setCell_same _ g 1 _ T v1 h0
  have h2 := heap_setCell_same _ g 2 _ T v2 h1
  have h3 := heap_setCell_same _ g 3 _ T v3 h2
  unfold put4
  simpa using h3
theorem put4_but (W : World) (g : Nat) (v0 v1 v2 v3 : Value) : But g W (put4 W g v0 v1 v2 v3) := ((((But.refl g W).set _ _).set _ _).set _ _).set _ _
set_option maxHeartbeats 8000000 in
set_option maxRecDepth 100000 in
theorem imageCopy_any (m : Img) (w : World) (B : Nat) (v : Array Value) (h : ImgIs w B v m) (hn : m.sz ≤ 1048576) :
    Calls Try.prog 38 #[.agg v] w fun en w' => MadeIm w m en w' := by
  have hl1 : m.sizes.length ≤ 1048576 := by unfold Img.sz slSz at hn; omega
  have hl2 : m.code.length ≤ 1048576 := by unfold Img.sz slSz at hn; omega
  obtain ⟨sizes, params, slots, code⟩ := m
  obtain ⟨us, cs, ub, cb, rfl, _, hz, hb⟩ := h
  simp only at *
  have hm := maxLen_lt
  have HZ := hideP hz
  have HB := hideP hb
  have mk1 := make_n (P := Try.prog) Try.underlying22 infoI sizes.length hl1 (by decide)
  have mk2 := make_n (P := Try.prog) Try.underlying28 infoWd code.length hl2 (by decide)
  have GOAL : Hid (∀ gs gc W', OwnI W' w.heap.size (.slice (some ⟨gs, 0, none⟩) sizes.length sizes.length) sizes → OwnE WrE W' w.heap.size (.slice (some ⟨gc, 0, none⟩) code.length code.length) code → Below w.heap.size w W' → MadeIm w ⟨sizes, params, slots, code⟩ (.returned (.agg #[.slice (some ⟨gs, 0, none⟩) sizes.length sizes.length, .int .i64 params, .int .i64 slots, .slice (some ⟨gc, 0, none⟩) code.length code.length])) W') := fun gs gc W' h1 h2 h3 => ⟨gs, _, gc, _, rfl, h1, h2, h3⟩
  have OR1 : Hid (∀ W' g, w.heap.size ≤ g → W'.heap[g]? = some (.cells (rowL (fun i => #[.int .i64 (sizes[i]?.getD 0)]) sizes.length).toArray 3 (0, 0)) → OwnI W' w.heap.size (.slice (some ⟨g, 0, none⟩) sizes.length sizes.length) sizes) := fun W' g h1 h2 => own_row h1 (by omega) h2
  have OR2 : Hid (∀ W' g, w.heap.size ≤ g → W'.heap[g]? = some (.cells (rowL (fun i => (wcs (code[i]?.getD default)).toArray) code.length).toArray 44 (0, 0)) → OwnE WrE W' w.heap.size (.slice (some ⟨g, 0, none⟩) code.length code.length) code) := fun W' g h1 h2 => ownW_row h1 (by omega) h2
  have RW1 : Hid (∀ W', Below w.heap.size w W' → RowAt W' B us sizes.length 1 (fun i => #[.int .i64 (sizes[i]?.getD 0)])) := fun W' bel => ints_row (hz.stays bel)
  have RW2 : Hid (∀ W', Below w.heap.size w W' → RowAt W' B ub code.length 5 (fun i => (wcs (code[i]?.getD default)).toArray)) := fun W' bel => words_row (hb.stays WrdKeeps bel)
  obtain ⟨ns, hns⟩ : ∃ ns, sizes.length = ns := ⟨_, rfl⟩
  obtain ⟨nc, hnc⟩ : ∃ nc, code.length = nc := ⟨_, rfl⟩
  rw [hns, hnc] at GOAL
  rw [hns] at OR1 RW1 mk1 hl1
  rw [hnc] at OR2 RW2 mk2 hl2
  rw [hns, hnc]
  clear hz hb HZ HB hns hnc hn
  have AL := hideP (below2 w (.cells #[.slice us ns cs, .int .i64 params, .int .i64 slots, .slice ub nc cb] 30) (.cells #[.slice none 0 0, .int .i64 0, .int .i64 0, .slice none 0 0] 30))
  have TW := two (w := w) (o1 := .cells #[.slice us ns cs, .int .i64 params, .int .i64 slots, .slice ub nc cb] 30) (o2 := .cells #[.slice none 0 0, .int .i64 0, .int .i64 0, .slice none 0 0] 30) (Below.refl _ _)
  have BX1 := hideP TW.1
  have BX2 := hideP TW.2.1
  clear TW
  go_enter Try.func38, Try.ntmps38
  go_upto_region 1 with fail
  obtain ⟨WA, hWA⟩ : ∃ WA, ((w.alloc (.cells #[.slice us ns cs, .int .i64 params, .int .i64 slots, .slice ub nc cb] 30)).alloc (.cells #[.slice none 0 0, .int .i64 0, .int .i64 0, .slice none 0 0] 30)) = WA := ⟨_, rfl⟩
  rw [hWA] at AL BX1 BX2 ⊢
  clear hWA
  have zA : w.heap.size + 1 < WA.heap.size := (Array.getElem?_eq_some_iff.1 BX2.out).1
  have zB : w.heap.size < WA.heap.size := by omega
  have zC : w.heap.size < WA.heap.size + 1 := by omega
  have p0 := (cells_of BX1.out).1 0
  have p3 := (cells_of BX1.out).1 3
  simp at p0 p3
  go_cut [3, 4] from 5 to 12 (fun s3 s4 wx => ∃ bs bc, s3 = .slice (some ⟨bs, 0, none⟩) ns ns ∧ s4 = .slice (some ⟨bc, 0, none⟩) nc nc ∧ Hid (wx.heap[bs]? = some (.cells (madeCells (Value.int .i64 0).cells (ns * 1)) 3 (0, 0)) ∧ wx.heap[bc]? = some (.cells (madeCells (Value.agg #[.int .i64 0, .int .i64 0, .int .i64 0, .int .i64 0, .int .i64 0]).cells (nc * 5)) 44 (0, 0)) ∧ bs ≠ bc ∧ w.heap.size + 1 < bs ∧ w.heap.size + 1 < bc ∧ Below WA.heap.size WA wx))
  case first =>
    generalize (madeCells (Value.int .i64 0).cells (ns * 1)) = M1 at *
    generalize (madeCells (Value.agg #[.int .i64 0, .int .i64 0, .int .i64 0, .int .i64 0, .int .i64 0]).cells (nc * 5)) = M2 at *
    go_region
    all_goals (go_wp2_with fail; go_meet)
    · have t := two (w := WA) (o1 := .cells M1 3) (o2 := .cells M2 44) (Below.refl _ _).drew
      exact ⟨_, _, rfl, rfl, t.1, t.2.1, by omega, by omega, by omega, t.2.2.2⟩
    · have t := two (w := WA) (o1 := .cells M2 44) (o2 := .cells M1 3) (Below.refl _ _).drew
      exact ⟨_, _, rfl, rfl, t.2.1, t.1, by omega, by omega, by omega, t.2.2.2⟩
  case rest =>
  obtain ⟨bs, bc, rfl, rfl, hc⟩ := hcut
  have H1 := hideP hc.out.1
  have H2 := hideP hc.out.2.1
  obtain ⟨_, _, hne, hbs, hbc, hbw⟩ := hc.out
  have X1 := hideP (keepC BX1.out hbw)
  have X2 := hideP (keepC BX2.out hbw)
  have B0 := hideP (below_trans AL.out hbw)
  have SM1 : Hid ((madeCells (Value.int .i64 0).cells (ns * 1)).size = ns * 1) := size_madeCells _ _
  have SM2 : Hid ((madeCells (Value.agg #[.int .i64 0, .int .i64 0, .int .i64 0, .int .i64 0, .int .i64 0]).cells (nc * 5)).size = nc * 5) := size_madeCells _ _
  generalize (madeCells (Value.int .i64 0).cells (ns * 1)) = M1 at *
  generalize (madeCells (Value.agg #[.int .i64 0, .int .i64 0, .int .i64 0, .int .i64 0, .int .i64 0]).cells (nc * 5)) = M2 at *
  obtain ⟨w3, hw3⟩ : ∃ w3, w3 = wc := ⟨_, rfl⟩
  subst hw3
  clear hc hbw BX1 BX2 AL p0 p3 mk1 mk2 zA zB zC
  have q0 := (cells_of X1.out).1 0
  simp at q0
  go_upto_region 3 with (refine list_copyR _ rfl _ _ 3 22 rfl 1 8 (.int .i64 0) Try.underlying22 infoI (by decide) bs ns ns M1 rfl H1.out SM1.out us cs rfl (fun i => #[.int .i64 (sizes[i]?.getD 0)]) B (RW1.out _ B0.out) (fun i _ u hu => by simp at hu; rw [hu]; rfl) ?_; intro w5 h5 b5)
  have R5 := hideP h5
  have G2 := hideP (keepG H2.out b5 (fun e => hne e.symm))
  have Y1 := hideP (keepG X1.out b5 (by omega))
  have Y2 := hideP (keepG X2.out b5 (by omega))
  have B5 : Hid (Below w.heap.size w w5) := B0.out.trans (b5.below (by omega) B0.out.size)
  have q3 := (cells_of Y1.out).1 3
  simp at q3
  clear h5 b5 q0 X1 X2 B0 H1 H2
  go_upto_region 4 with (refine list_copyR _ rfl _ _ 44 28 rfl 5 40 _ Try.underlying28 infoWd (by decide) bc nc nc M2 rfl G2.out SM2.out ub cb rfl (fun i => (wcs (code[i]?.getD default)).toArray) B (RW2.out _ B5.out) (fun i _ u hu => wcs_one _ u hu) ?_; intro w6 h6 b6)
  have R6 := hideP h6
  have R7 := hideP (keepG R5.out b6 hne)
  have Z1 := hideP (keepG Y1.out b6 (by omega))
  have Z2 := hideP (keepG Y2.out b6 (by omega))
  have B6 : Hid (Below w.heap.size w w6) := B5.out.trans (b6.below (by omega) B5.out.size)
  clear h6 b6 q3 Y1 Y2 B5 R5 G2
  have c0 := (cells_of Z1.out).1 0
  have c1 := (cells_of Z1.out).1 1
  have c2 := (cells_of Z1.out).1 2
  have c3 := (cells_of Z1.out).1 3
  have f1 := (cells_of Z1.out).2
  simp at c0 c1 c2 c3
  have t1 : But w.heap.size w6 ((w6.setCell ⟨w.heap.size, 0, none⟩ (.slice (some ⟨bs, 0, none⟩) ns ns)).setCell ⟨w.heap.size, 3, none⟩ (.slice (some ⟨bc, 0, none⟩) nc nc)) := ((But.refl _ _).set _ _).set _ _
  have V1 : Hid (((w6.setCell ⟨w.heap.size, 0, none⟩ (.slice (some ⟨bs, 0, none⟩) ns ns)).setCell ⟨w.heap.size, 3, none⟩ (.slice (some ⟨bc, 0, none⟩) nc nc)).heap[w.heap.size]? = some (.cells #[.slice (some ⟨bs, 0, none⟩) ns ns, .int .i64 params, .int .i64 slots, .slice (some ⟨bc, 0, none⟩) nc nc] 30 (0, 0))) := by
    have h0 := heap_setCell_same w6 w.heap.size 0 _ _ (.slice (some ⟨bs, 0, none⟩) ns ns) Z1.out
    have h1 := heap_setCell_same _ w.heap.size 3 _ _ (.slice (some ⟨bc, 0, none⟩) nc nc) h0
    show _ = _
    simpa using h1
  have V2 := hideP (keepG Z2.out t1 (by omega))
  have V3 := hideP (keepG R7.out t1 (by omega))
  have V4 := hideP (keepG R6.out t1 (by omega))
  have VB : Hid (Below w.heap.size w ((w6.setCell ⟨w.heap.size, 0, none⟩ (.slice (some ⟨bs, 0, none⟩) ns ns)).setCell ⟨w.heap.size, 3, none⟩ (.slice (some ⟨bc, 0, none⟩) nc nc))) := B6.out.trans (t1.below (Nat.le_refl _) B6.out.size)
  clear t1 Z1 Z2 R6 R7 B6
  go_upto_region 5 with fail
  obtain ⟨w7, hw7⟩ : ∃ w7, ((w6.setCell ⟨w.heap.size, 0, none⟩ (.slice (some ⟨bs, 0, none⟩) ns ns)).setCell ⟨w.heap.size, 3, none⟩ (.slice (some ⟨bc, 0, none⟩) nc nc)) = w7 := ⟨_, rfl⟩
  rw [hw7] at V1 V2 V3 V4 VB ⊢
  clear hw7 c0 c1 c2 c3 f1
  have c0 := (cells_of V1.out).1 0
  have c1 := (cells_of V1.out).1 1
  have c2 := (cells_of V1.out).1 2
  have c3 := (cells_of V1.out).1 3
  have d0 := (cells_of V2.out).1 0
  have d1 := (cells_of V2.out).1 1
  have d2 := (cells_of V2.out).1 2
  have d3 := (cells_of V2.out).1 3
  have f2 := (cells_of V2.out).2
  simp at c0 c1 c2 c3 d0 d1 d2 d3
  have pb := put4_but w7 (w.heap.size + 1) (.slice (some ⟨bs, 0, none⟩) ns ns) (.int .i64 params) (.int .i64 slots) (.slice (some ⟨bc, 0, none⟩) nc nc)
  have P2 := hideP (put4_box V2.out (.slice (some ⟨bs, 0, none⟩) ns ns) (.int .i64 params) (.int .i64 slots) (.slice (some ⟨bc, 0, none⟩) nc nc))
  have P3 := hideP (keepG V3.out pb (by omega))
  have P4 := hideP (keepG V4.out pb (by omega))
  have PB : Hid (Below w.heap.size w (put4 w7 (w.heap.size + 1) (.slice (some ⟨bs, 0, none⟩) ns ns) (.int .i64 params) (.int .i64 slots) (.slice (some ⟨bc, 0, none⟩) nc nc))) := VB.out.trans (pb.below (Nat.le_succ _) VB.out.size)
  clear pb V1 V2 V3 V4 VB
  go_wp2
  refine bodyPost_ret (results_cell_row rfl _ _ (w.heap.size + 1) 30 #[.slice (some ⟨bs, 0, none⟩) ns ns, .int .i64 params, .int .i64 slots, .slice (some ⟨bc, 0, none⟩) nc nc] (0, 0) _ rfl P2.out Try.underlying30 rfl (by kernel_rfl)) rfl ?_
  exact GOAL.out bs bc _ (OR1.out _ bs (by omega) P3.out) (OR2.out _ bc (by omega) P4.out) PB.out
end Go.Proofs.Ytfoelnblnfcaiaa

/- A row appended to an empty list is a list of one's own; the contract of spec.l13Copy. -/
namespace Go.Proofs.Ytfoelnblnfcaiaa
open Go.ChangeShapes Go.WideShapes Go.ChangeAt Go.RowKit
def RowO (w : World) (B : Nat) (T : TypeId) (sz : Nat) (v : Value) (n : Nat) (vs : Nat → Array Value) : Prop :=
  ∃ g cap cur, v = .slice (some ⟨g, 0, none⟩) n cap ∧ B ≤ g ∧ w.heap[g]? = some (.cells cur T (0, 0)) ∧ n ≤ cap ∧ cap ≤ maxLen ∧ cur.size = cap * sz ∧ ∀ i, i < n → ∀ r, r < sz → cur[i * sz + r]? = (vs i)[r]?
theorem list_appO1 {ops : Array Oper} {o : Oper} {a : Act} {Q : Exit → Act → World → Prop} {rest : List Oper} (w : World) (hgd : o.guard = none) (s y : Operand) (T ST : TypeId) (ho : o.op = .call { callee := .builtin .append, args := #[s, y], argTypes := #[ST, ST] })
    (sz bys : Nat) (z : Value) (hu : Try.prog.underlying ST = some (.slice T)) (hi : (Try.prog.info? T).map (fun i => (i.zero, i.size, i.bytes)) = some (some z, sz, bys)) (hz : z.cells.size = sz) (hp : 0 < sz) (hf : bys ≤ 1000)
    (B g0 : Nat) (v1 : Value) (hs : a.eval s = v1) (hv1 : v1 = .slice (some ⟨g0, 0, none⟩) 0 0) (hg0 : w.heap[g0]? = some (.cells #[] T (0, 0))) (hB0 : B ≤ g0) (ad : Addr) (n cap2 : Nat) (hx : a.eval y = .slice (some ad) n cap2) (vs : Nat → Array Value) (hsz : ∀ i, i < n → (vs i).size = sz)
    (h2 : ∀ i, i < n → ∀ r, r < sz → w.cell? (ad.add (i * sz + r)) = (vs i)[r]?) (h1 : ∀ i, i < n → ∀ u ∈ (vs i).toList, u.oneCell' = true) (hn : n ≤ 8000000) (hB : B ≤ w.heap.size)
    (h : ∀ v' w', RowO w' B T sz v' n vs → w.grownBy w' (some g0) → wpList Try.prog ops Q rest (a.put o.dst v') w') :
    wpList Try.prog ops Q (o :: rest) a w := by
  refine wpList_plain hgd fun K hK => ?_
  obtain ⟨i0, hi, hz0, hz1, hz2⟩ := info_parts hi
  have hown : w.ownsRow B T sz v1 0 [] := ⟨by simp, Or.inr ⟨g0, 0, #[], hv1, hB0, hg0, Nat.le_refl _, Nat.zero_le _, by simp, by simp⟩⟩
  have hbn : (0 + n) * bys ≤ 8000000 * 1000 := Nat.mul_le_mul (by omega) hf
  have hlen := rowL_len (vs := vs) (n := n) hsz
  obtain ⟨v', w', hr, ho', hg, hnil, hloc⟩ := run_append_own_at (P := Try.prog) w B ST o.type T i0 z sz bys hu hi hz0 hz1 hz2 hz hp v1 0 [] hown ad n cap2 (rowL vs n) hlen (fun j u hj => by
      have hlt : j < n * sz := by have := (List.getElem?_eq_some_iff.1 hj).1; rwa [hlen] at this
      have hjd : j / sz < n := Nat.div_lt_of_lt_mul (by rw [Nat.mul_comm]; exact hlt)
      have hjm : j % sz < sz := Nat.mod_lt _ hp
      have e : j / sz * sz + j % sz = j := by rw [Nat.mul_comm]; exact Nat.div_add_mod _ _
      have k1 := rowL_at hsz (j / sz) hjd (j % sz) hjm
      rw [e, hj] at k1
      have k2 := h2 (j / sz) hjd (j % sz) hjm
      rw [e] at k2
      rw [k2, ← k1])
    (fun u hu => by obtain ⟨i, hi, hm⟩ := rowL_mem hu; exact h1 i hi u hm) (by unfold maxLen; omega) (by omega) hB
  unfold Oper.wp execOp
  simp only [ho, resolve, invoke, builtin, Sem.run_bind, Sem.run_pure, Result.andThen_ok, List.map_toArray, List.map_cons, List.map_nil, hs, hx, hr]
  refine hK _ _ (h v' w' ?_ (by rw [hv1] at hg; exact hg))
  obtain ⟨_, ⟨h0, _⟩ | ⟨g', cap', cur, hv', hB', hh, hc, hc2, hs', ht⟩⟩ := ho'
  · have := (hnil.1 h0).1; rw [hv1] at this; cases this
  · refine ⟨g', cap', cur, by rw [hv']; simp, hB', hh, by omega, hc2, hs', fun i hi r hr => ?_⟩
    · have k1 := rowL_at hsz i hi r hr
      have hlt : i * sz + r < (0 + n) * sz := by have := Nat.mul_le_mul_right sz (show i + 1 ≤ n from hi); rw [Nat.succ_mul] at this; rw [Nat.zero_add]; omega
      have k2 : (cur.toList.take ((0 + n) * sz))[i * sz + r]? = ([] ++ rowL vs n)[i * sz + r]? := by rw [ht]
      rw [List.getElem?_take_of_lt hlt, List.nil_append, k1] at k2
      simpa using k2
theorem list_appO {ops : Array Oper} {o : Oper} {a : Act} {Q : Exit → Act → World → Prop} {rest : List Oper} (w : World) (hgd : o.guard = none) (s y : Operand) (T ST : TypeId) (ho : o.op = .call { callee := .builtin .append, args := #[s, y], argTypes := #[ST, ST] })
    (sz bys : Nat) (z : Value) (hu : Try.prog.underlying ST = some (.slice T)) (hi : (Try.prog.info? T).map (fun i => (i.zero, i.size, i.bytes)) = some (some z, sz, bys)) (hz : z.cells.size = sz) (hp : 0 < sz) (hf : bys ≤ 1000)
    (B g0 : Nat) (v1 : Value) (hs : a.eval s = v1) (hv1 : v1 = .slice (some ⟨g0, 0, none⟩) 0 0) (hg0 : w.heap[g0]? = some (.cells #[] T (0, 0))) (hB0 : B ≤ g0) (a2 : Option Addr) (n cap2 : Nat) (hx : a.eval y = .slice a2 n cap2) (vs : Nat → Array Value) (Bx : Nat)
    (hr : RowAt w Bx a2 n sz vs) (h1 : ∀ i, i < n → ∀ u ∈ (vs i).toList, u.oneCell' = true) (hn : n ≤ 8000000) (hB : B ≤ w.heap.size)
    (h : ∀ v' w', RowO w' B T sz v' n vs → w.grownBy w' (some g0) → wpList Try.prog ops Q rest (a.put o.dst v') w') :
    wpList Try.prog ops Q (o :: rest) a w := by
  cases a2 with
  | none =>
    have hn0 : n = 0 := by rcases hr with h0 | ⟨b, o, ha, _⟩; exact h0; cases ha
    subst hn0
    refine wpList_plain hgd fun K hK => ?_
    obtain ⟨i0, hi, _, _, _⟩ := info_parts hi
    have hrun := run_app_none (P := Try.prog) w ST o.type T i0 hu hi g0 cap2
    unfold Oper.wp execOp
    rw [hv1] at hs
    simp only [ho, resolve, invoke, builtin, Sem.run_bind, Sem.run_pure, Result.andThen_ok, List.map_toArray, List.map_cons, List.map_nil, hs, hx, hrun]
    exact hK _ _ (h _ _ ⟨g0, 0, #[], rfl, hB0, hg0, Nat.le_refl _, Nat.zero_le _, by simp, fun i hi => absurd hi (Nat.not_lt_zero _)⟩ (World.grownBy.refl _ _))
  | some ad =>
    refine list_appO1 w hgd s y T ST ho sz bys z hu hi hz hp hf B g0 v1 hs hv1 hg0 hB0 ad n cap2 hx vs (fun i hi => ?_) (fun i hi r hr' => ?_) h1 hn hB h
    · rcases hr with h0 | ⟨b, o, ha, _, _, _, hc⟩
      · omega
      · exact (hc i hi).1
    · rcases hr with h0 | ⟨b, o, ha, _, _, _, hc⟩
      · omega
      · cases ha
        rw [addr_add', ← Nat.add_assoc]; exact (hc i hi).2 r hr'
theorem But.ofG' {b : Nat} {w w' : World} (h : w.grownBy w' (some b)) : But b w w' := ⟨h.os, h.tape, h.output, h.size, fun k hk hne => h.block k hk (by simpa using hne)⟩
theorem RowO.ints {w : World} {B : Nat} {v : Value} {zs : List Int} (h : RowO w B 3 1 v zs.length (fun i => #[.int .i64 (zs[i]?.getD 0)])) : ∃ g c, v = .slice (some ⟨g, 0, none⟩) zs.length c ∧ OwnI w B (.slice (some ⟨g, 0, none⟩) zs.length c) zs := by
  obtain ⟨g, c, cur, hv, hB, hh, h1, h2, h3, h4⟩ := h
  refine ⟨g, c, hv, OwnI.of_parts hB hh h1 h2 (by rw [h3, Nat.mul_one]) (fun j hj => ?_)⟩
  have k := h4 j hj 0 (by decide)
  rw [Nat.mul_one, Nat.add_zero] at k
  rw [k]
  show some (Value.int .i64 (zs[j]?.getD 0)) = _
  rw [List.getElem?_eq_getElem hj]; rfl
theorem RowO.words {w : World} {B : Nat} {v : Value} {l : List Wrd} (h : RowO w B 44 5 v l.length (fun i => (wcs (l[i]?.getD default)).toArray)) : ∃ g c, v = .slice (some ⟨g, 0, none⟩) l.length c ∧ OwnE WrE w B (.slice (some ⟨g, 0, none⟩) l.length c) l := by
  obtain ⟨g, c, cur, hv, hB, hh, h1, h2, h3, h4⟩ := h
  refine ⟨g, c, hv, OwnE.of_parts WrOk hB hh h1 h2 h3 (fun j hj r hr => ?_)⟩
  have k := h4 j hj r hr
  show cur[j * 5 + r]? = _
  rw [k]
  show (wcs (l[j]?.getD default)).toArray[r]? = _
  rw [List.getElem?_eq_getElem hj]
  simp [WrE]
set_option maxHeartbeats 8000000 in
set_option maxRecDepth 100000 in
theorem l13Copy_any (m : Img) (w : World) (B : Nat) (v : Array Value) (h : ImgIs w B v m) (hn : m.sz ≤ 1048576) :
    Calls Try.prog 36 #[.agg v] w fun en w' => MadeIm w m en w' := by
  have hl1 : m.sizes.length ≤ 1048576 := by unfold Img.sz slSz at hn; omega
  have hl2 : m.code.length ≤ 1048576 := by unfold Img.sz slSz at hn; omega
  obtain ⟨sizes, params, slots, code⟩ := m
  obtain ⟨us, cs, ub, cb, rfl, _, hz, hb⟩ := h
  simp only at *
  have hm := maxLen_lt
  have RW1 : Hid (∀ W', Below w.heap.size w W' → RowAt W' B us sizes.length 1 (fun i => #[.int .i64 (sizes[i]?.getD 0)])) := fun W' bel => ints_row (hz.stays bel)
  have RW2 : Hid (∀ W', Below w.heap.size w W' → RowAt W' B ub code.length 5 (fun i => (wcs (code[i]?.getD default)).toArray)) := fun W' bel => words_row (hb.stays WrdKeeps bel)
  clear hz hb hn
  have AL := hideP ((below2 w (.cells #[.slice us sizes.length cs, .int .i64 params, .int .i64 slots, .slice ub code.length cb] 30) (.cells #[.slice none 0 0, .int .i64 0, .int .i64 0, .slice none 0 0] 30)).alloc (by simp; omega) (.cells #[.slice us sizes.length cs, .int .i64 params, .int .i64 slots, .slice ub code.length cb] 30))
  have TW := two (w := w) (o1 := .cells #[.slice us sizes.length cs, .int .i64 params, .int .i64 slots, .slice ub code.length cb] 30) (o2 := .cells #[.slice none 0 0, .int .i64 0, .int .i64 0, .slice none 0 0] 30) (Below.refl _ _)
  have a3 := (Below.refl ((w.alloc (.cells #[.slice us sizes.length cs, .int .i64 params, .int .i64 slots, .slice ub code.length cb] 30)).alloc (.cells #[.slice none 0 0, .int .i64 0, .int .i64 0, .slice none 0 0] 30)).heap.size ((w.alloc (.cells #[.slice us sizes.length cs, .int .i64 params, .int .i64 slots, .slice ub code.length cb] 30)).alloc (.cells #[.slice none 0 0, .int .i64 0, .int .i64 0, .slice none 0 0] 30))).alloc (Nat.le_refl _) (.cells #[.slice us sizes.length cs, .int .i64 params, .int .i64 slots, .slice ub code.length cb] 30)
  have I1 := hideP (keepC TW.1 a3)
  have I2 := hideP (keepC TW.2.1 a3)
  have I3 := heap_alloc_new ((w.alloc (.cells #[.slice us sizes.length cs, .int .i64 params, .int .i64 slots, .slice ub code.length cb] 30)).alloc (.cells #[.slice none 0 0, .int .i64 0, .int .i64 0, .slice none 0 0] 30)) (.cells #[.slice us sizes.length cs, .int .i64 params, .int .i64 slots, .slice ub code.length cb] 30)
  rw [show ((w.alloc (.cells #[.slice us sizes.length cs, .int .i64 params, .int .i64 slots, .slice ub code.length cb] 30)).alloc (.cells #[.slice none 0 0, .int .i64 0, .int .i64 0, .slice none 0 0] 30)).heap.size = w.heap.size + 2 by simp] at I3
  replace I3 := hideP I3
  clear TW a3
  go_enter Try.func36, Try.ntmps36
  go_upto_region 2 with fail
  obtain ⟨WA, hWA⟩ : ∃ WA, (((w.alloc (.cells #[.slice us sizes.length cs, .int .i64 params, .int .i64 slots, .slice ub code.length cb] 30)).alloc (.cells #[.slice none 0 0, .int .i64 0, .int .i64 0, .slice none 0 0] 30)).alloc (.cells #[.slice us sizes.length cs, .int .i64 params, .int .i64 slots, .slice ub code.length cb] 30)) = WA := ⟨_, rfl⟩
  rw [hWA] at AL I1 I2 I3 ⊢
  clear hWA
  have zA : w.heap.size + 2 < WA.heap.size := (Array.getElem?_eq_some_iff.1 I3.out).1
  have zB : w.heap.size < WA.heap.size := by omega
  have p0 := (cells_of I1.out).1 0
  simp at p0
  have a4 := (Below.refl WA.heap.size WA).alloc (Nat.le_refl _) (.cells #[] 3)
  have G4 := hideP (heap_alloc_new WA (.cells #[] 3))
  have B4 := hideP (below_trans AL.out a4)
  have J1 := hideP (keepC I1.out a4)
  have J2 := hideP (keepC I2.out a4)
  have J3 := hideP (keepC I3.out a4)
  have z4 : WA.heap.size ≤ (WA.alloc (.cells #[] 3)).heap.size := by simp
  clear a4 AL I1 I2 I3
  go_upto_region 3 with (at_builtin; refine list_appO _ rfl _ _ 3 22 rfl 1 8 (.int .i64 0) Try.underlying22 infoI rfl (by decide) (by decide) WA.heap.size WA.heap.size _ rfl rfl G4.out (Nat.le_refl _) us sizes.length cs rfl (fun i => #[.int .i64 (sizes[i]?.getD 0)]) B (RW1.out _ B4.out) (fun i _ u hu => by simp at hu; rw [hu]; rfl) (by omega) z4 ?_; intro v5 w5 r5 grow5; obtain ⟨gs, cgs, rfl, o5⟩ := r5.ints; have b5 := But.ofG' grow5; have K1 := hideP (keepG J1.out b5 (by omega)); have K2 := hideP (keepG J2.out b5 (by omega)); have K3 := hideP (keepG J3.out b5 (by omega)); have O5 := hideP o5; have B5 : Hid (Below w.heap.size w w5) := B4.out.trans (b5.below (by omega) B4.out.size); have u0 := (cells_of K3.out).1 0; have uf := (cells_of K3.out).2; simp at u0; have zO := (Array.getElem?_eq_some_iff.1 K3.out).1; clear r5 grow5 b5 o5 J1 J2 J3 B4 G4 p0 z4)
  have t5 : But (w.heap.size + 2) w5 (w5.setCell ⟨w.heap.size + 2, 0, none⟩ (.slice (some ⟨gs, 0, none⟩) sizes.length cgs)) := (But.refl _ _).set _ _
  have lo5 := O5.out.low gs rfl
  have I1 := hideP (keepG K1.out t5 (by omega))
  have I2 := hideP (keepG K2.out t5 (by omega))
  have I3 : Hid ((w5.setCell ⟨w.heap.size + 2, 0, none⟩ (.slice (some ⟨gs, 0, none⟩) sizes.length cgs)).heap[w.heap.size + 2]? = some (.cells #[.slice (some ⟨gs, 0, none⟩) sizes.length cgs, .int .i64 params, .int .i64 slots, .slice ub code.length cb] 30 (0, 0))) := by
    have := heap_setCell_same w5 (w.heap.size + 2) 0 _ _ (.slice (some ⟨gs, 0, none⟩) sizes.length cgs) K3.out
    show _ = _
    simpa using this
  have O6 := hideP (O5.out.butG t5 (by simp [Value.ownBlock]; omega))
  have B6 : Hid (Below w.heap.size w (w5.setCell ⟨w.heap.size + 2, 0, none⟩ (.slice (some ⟨gs, 0, none⟩) sizes.length cgs))) := B5.out.trans (t5.below (by omega) B5.out.size)
  obtain ⟨w6, hw6⟩ : ∃ w6, (w5.setCell ⟨w.heap.size + 2, 0, none⟩ (.slice (some ⟨gs, 0, none⟩) sizes.length cgs)) = w6 := ⟨_, rfl⟩
  rw [hw6] at I1 I2 I3 O6 B6 ⊢
  clear hw6 t5 K1 K2 K3 O5 B5 u0 uf lo5
  have lo6 := O6.out.low gs rfl
  have zB6 : w.heap.size < w6.heap.size := by omega
  have p3 := (cells_of I1.out).1 3
  simp at p3
  have a7 := (Below.refl w6.heap.size w6).alloc (Nat.le_refl _) (.cells #[] 44)
  have G7 := hideP (heap_alloc_new w6 (.cells #[] 44))
  have B7 := hideP (below_trans B6.out a7)
  have J1 := hideP (keepC I1.out a7)
  have J2 := hideP (keepC I2.out a7)
  have J3 := hideP (keepC I3.out a7)
  have O7 := hideP (O6.out.stays a7)
  have z7 : w6.heap.size ≤ (w6.alloc (.cells #[] 44)).heap.size := by simp
  clear a7 I1 I2 I3 O6 B6
  go_upto_region 4 with (at_builtin; refine list_appO _ rfl _ _ 44 28 rfl 5 40 _ Try.underlying28 infoWd rfl (by decide) (by decide) w6.heap.size w6.heap.size _ rfl rfl G7.out (Nat.le_refl _) ub code.length cb rfl (fun i => (wcs (code[i]?.getD default)).toArray) B (RW2.out _ B7.out) (fun i _ u hu => wcs_one _ u hu) (by omega) z7 ?_; intro v8 w8 r8 grow8; obtain ⟨gc, cgc, rfl, o8⟩ := r8.words; have b8 := But.ofG' grow8; have K2 := hideP (keepG J2.out b8 (by omega)); have K3 := hideP (keepG J3.out b8 (by omega)); have O8 := hideP o8; have O9 := hideP (O7.out.butG b8 (by simp [Value.ownBlock]; omega)); have B8 : Hid (Below w.heap.size w w8) := B7.out.trans (b8.below (by omega) B7.out.size); have u0 := (cells_of K3.out).1 3; have uf := (cells_of K3.out).2; simp at u0; have zO8 := (Array.getElem?_eq_some_iff.1 K3.out).1; clear r8 grow8 b8 o8 J1 J2 J3 B7 G7 p3 z7 O7)
  have t8 : But (w.heap.size + 2) w8 (w8.setCell ⟨w.heap.size + 2, 3, none⟩ (.slice (some ⟨gc, 0, none⟩) code.length cgc)) := (But.refl _ _).set _ _
  have lo8 := O8.out.low gc rfl
  have lo9 := O9.out.low gs rfl
  have I2 := hideP (keepG K2.out t8 (by omega))
  have I3 : Hid ((w8.setCell ⟨w.heap.size + 2, 3, none⟩ (.slice (some ⟨gc, 0, none⟩) code.length cgc)).heap[w.heap.size + 2]? = some (.cells #[.slice (some ⟨gs, 0, none⟩) sizes.length cgs, .int .i64 params, .int .i64 slots, .slice (some ⟨gc, 0, none⟩) code.length cgc] 30 (0, 0))) := by
    have := heap_setCell_same w8 (w.heap.size + 2) 3 _ _ (.slice (some ⟨gc, 0, none⟩) code.length cgc) K3.out
    show _ = _
    simpa using this
  have OA := hideP (O8.out.butG t8 (by simp [Value.ownBlock]; omega))
  have OB := hideP (O9.out.butG t8 (by simp [Value.ownBlock]; omega))
  have B9 : Hid (Below w.heap.size w (w8.setCell ⟨w.heap.size + 2, 3, none⟩ (.slice (some ⟨gc, 0, none⟩) code.length cgc))) := B8.out.trans (t8.below (by omega) B8.out.size)
  obtain ⟨w9, hw9⟩ : ∃ w9, (w8.setCell ⟨w.heap.size + 2, 3, none⟩ (.slice (some ⟨gc, 0, none⟩) code.length cgc)) = w9 := ⟨_, rfl⟩
  rw [hw9] at I2 I3 OA OB B9 ⊢
  clear hw9 t8 K2 K3 O8 O9 B8 u0 uf
  have c0 := (cells_of I3.out).1 0
  have c1 := (cells_of I3.out).1 1
  have c2 := (cells_of I3.out).1 2
  have c3 := (cells_of I3.out).1 3
  have d0 := (cells_of I2.out).1 0
  have d1 := (cells_of I2.out).1 1
  have d2 := (cells_of I2.out).1 2
  have d3 := (cells_of I2.out).1 3
  have f2 := (cells_of I2.out).2
  simp at c0 c1 c2 c3 d0 d1 d2 d3
  have pb := put4_but w9 (w.heap.size + 1) (.slice (some ⟨gs, 0, none⟩) sizes.length cgs) (.int .i64 params) (.int .i64 slots) (.slice (some ⟨gc, 0, none⟩) code.length cgc)
  have P2 := hideP (put4_box I2.out (.slice (some ⟨gs, 0, none⟩) sizes.length cgs) (.int .i64 params) (.int .i64 slots) (.slice (some ⟨gc, 0, none⟩) code.length cgc))
  have GOAL : Hid (MadeIm w ⟨sizes, params, slots, code⟩ (.returned (.agg #[.slice (some ⟨gs, 0, none⟩) sizes.length cgs, .int .i64 params, .int .i64 slots, .slice (some ⟨gc, 0, none⟩) code.length cgc])) (put4 w9 (w.heap.size + 1) (.slice (some ⟨gs, 0, none⟩) sizes.length cgs) (.int .i64 params) (.int .i64 slots) (.slice (some ⟨gc, 0, none⟩) code.length cgc))) :=
    ⟨gs, cgs, gc, cgc, rfl, (OB.out.butG pb (by simp [Value.ownBlock]; omega)).mono (by omega), (OA.out.butG pb (by simp [Value.ownBlock]; omega)).mono (by omega), B9.out.trans (pb.below (Nat.le_succ _) B9.out.size)⟩
  clear pb I2 I3 OA OB B9 RW1 RW2
  go_wp2
  refine bodyPost_ret (results_cell_row rfl _ _ (w.heap.size + 1) 30 #[.slice (some ⟨gs, 0, none⟩) sizes.length cgs, .int .i64 params, .int .i64 slots, .slice (some ⟨gc, 0, none⟩) code.length cgc] (0, 0) _ rfl P2.out Try.underlying30 rfl (by kernel_rfl)) rfl ?_
  exact GOAL.out
end Go.Proofs.Ytfoelnblnfcaiaa
