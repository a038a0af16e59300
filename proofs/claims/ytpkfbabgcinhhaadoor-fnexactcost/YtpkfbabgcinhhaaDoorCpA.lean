/- Out of earlier texts, what is wanted here (written by wip/mklite.py). -/
import Derived.Test.YtpkfbabgcinhhaaDoorCkD
import Derived.Test.YtpkfbabgcinhhaaDoorCkA
import Derived.Laws.OwnMore
import Derived.Lib.LazyBuf
import Derived.Test.YtpkfbabgcinhhaaDoorCkE
import Derived.Deep.CutRange
import Derived.Laws.CopyOwn
namespace Go.Proofs.YtpkfbabgcinhhaaDoor
open Go.ChangeShapes Go.WideShapes Go.ChangeAt Go.RowKit
/-- The slice v has n elements of sz cells, as vs tells them, in a block of its own from B on (or none at all). -/
def RowOf (w : World) (B : Nat) (T : TypeId) (sz : Nat) (v : Value) (n : Nat) (vs : Nat → Array Value) : Prop :=
  ∃ a c, v = .slice a n c ∧ (n = 0 ∨ ∃ g cur, a = some ⟨g, 0, none⟩ ∧ B ≤ g ∧ w.heap[g]? = some (.cells cur T (0, 0)) ∧ n * sz ≤ cur.size ∧ ∀ i, i < n → ∀ r, r < sz → cur[i * sz + r]? = (vs i)[r]?)
theorem RowOf.stays {w w' : World} {B : Nat} {T : TypeId} {sz : Nat} {v : Value} {n : Nat} {vs : Nat → Array Value} (h : RowOf w B T sz v n vs) (bel : Below w.heap.size w w') : RowOf w' B T sz v n vs := by
  obtain ⟨a, c, hv, h0 | ⟨g, cur, ha, hB, hh, hs, hx⟩⟩ := h
  · exact ⟨a, c, hv, Or.inl h0⟩
  · exact ⟨a, c, hv, Or.inr ⟨g, cur, ha, hB, (bel.block g (Array.getElem?_eq_some_iff.1 hh).1).trans hh, hs, hx⟩⟩
/-- The cells of a row, one behind another. -/
def rowL (vs : Nat → Array Value) (n : Nat) : List Value := (List.range n).flatMap fun i => (vs i).toList
theorem rowL_len {vs : Nat → Array Value} {sz : Nat} : ∀ {n : Nat}, (∀ i, i < n → (vs i).size = sz) → (rowL vs n).length = n * sz
  | 0, _ => by simp [rowL]
  | n + 1, h => by
    have ih := rowL_len (n := n) (fun i hi => h i (by omega))
    have e : rowL vs (n + 1) = rowL vs n ++ (vs n).toList := by simp [rowL, List.range_succ]
    rw [e, List.length_append, ih, Array.length_toList, h n (by omega), Nat.succ_mul]
theorem rowL_at {vs : Nat → Array Value} {sz : Nat} : ∀ {n : Nat}, (∀ i, i < n → (vs i).size = sz) → ∀ i, i < n → ∀ r, r < sz → (rowL vs n)[i * sz + r]? = (vs i)[r]?
  | 0, _, i, hi, _, _ => absurd hi (Nat.not_lt_zero _)
  | n + 1, h, i, hi, r, hr => by
    have hl := rowL_len (n := n) (fun i hi => h i (by omega))
    have e : rowL vs (n + 1) = rowL vs n ++ (vs n).toList := by simp [rowL, List.range_succ]
    rw [e]
    by_cases hin : i < n
    · have : i * sz + sz ≤ n * sz := by have := Nat.mul_le_mul_right sz (show i + 1 ≤ n from hin); rwa [Nat.succ_mul] at this
      rw [List.getElem?_append_left (by omega)]
      exact rowL_at (fun i hi => h i (by omega)) i hin r hr
    · obtain rfl : i = n := by omega
      rw [List.getElem?_append_right (by omega), hl, show i * sz + r - i * sz = r by omega]
      simp
theorem rowL_mem {vs : Nat → Array Value} {n : Nat} {u : Value} (h : u ∈ rowL vs n) : ∃ i, i < n ∧ u ∈ (vs i).toList := by
  simp only [rowL, List.mem_flatMap, List.mem_range] at h; exact h
theorem list_appR {ops : Array Oper} {o : Oper} {a : Act} {Q : Exit → Act → World → Prop} {rest : List Oper} (w : World) (hgd : o.guard = none) (s y : Operand) (T ST : TypeId) (ho : o.op = .call { callee := .builtin .append, args := #[s, y], argTypes := #[ST, ST] })
    (sz bys : Nat) (z : Value) (hu : Tryd.prog.underlying ST = some (.slice T)) (hi : (Tryd.prog.info? T).map (fun i => (i.zero, i.size, i.bytes)) = some (some z, sz, bys)) (hz : z.cells.size = sz) (hp : 0 < sz) (hf : bys ≤ 1000)
    (B g0 : Nat) (v1 : Value) (hs : a.eval s = v1) (hv1 : v1 = .slice (some ⟨g0, 0, none⟩) 0 0) (hg0 : w.heap[g0]? = some (.cells #[] T (0, 0))) (hB0 : B ≤ g0) (ad : Addr) (n cap2 : Nat) (hx : a.eval y = .slice (some ad) n cap2) (vs : Nat → Array Value) (hsz : ∀ i, i < n → (vs i).size = sz)
    (h2 : ∀ i, i < n → ∀ r, r < sz → w.cell? (ad.add (i * sz + r)) = (vs i)[r]?) (h1 : ∀ i, i < n → ∀ u ∈ (vs i).toList, u.oneCell' = true) (hn : n ≤ 8000000) (hB : B ≤ w.heap.size)
    (h : ∀ v' w', RowOf w' B T sz v' n vs → w.grownBy w' (some g0) → wpList Tryd.prog ops Q rest (a.put o.dst v') w') :
    wpList Tryd.prog ops Q (o :: rest) a w := by
  refine wpList_plain hgd fun K hK => ?_
  obtain ⟨i0, hi, hz0, hz1, hz2⟩ := info_parts hi
  have hown : w.ownsRow B T sz v1 0 [] := ⟨by simp, Or.inr ⟨g0, 0, #[], hv1, hB0, hg0, Nat.le_refl _, Nat.zero_le _, by simp, by simp⟩⟩
  have hbn : (0 + n) * bys ≤ 8000000 * 1000 := Nat.mul_le_mul (by omega) hf
  have hlen := rowL_len (vs := vs) (n := n) hsz
  obtain ⟨v', w', hr, ho', hg, hnil, hloc⟩ := run_append_own_at (P := Tryd.prog) w B ST o.type T i0 z sz bys hu hi hz0 hz1 hz2 hz hp v1 0 [] hown ad n cap2 (rowL vs n) hlen (fun j u hj => by
      have hlt : j < n * sz := by have := (List.getElem?_eq_some_iff.1 hj).1; rwa [hlen] at this
      have hjd : j / sz < n := Nat.div_lt_of_lt_mul (by rw [Nat.mul_comm]; exact hlt)
      have hjm : j % sz < sz := Nat.mod_lt _ hp
      have e : j / sz * sz + j % sz = j := by rw [Nat.mul_comm]; exact Nat.div_add_mod _ _
      have k1 := rowL_at hsz (j / sz) hjd (j % sz) hjm
      rw [e, hj] at k1
      have k2 := h2 (j / sz) hjd (j % sz) hjm
      rw [e] at k2
      rw [k2, ← k1])
    (fun u hu => by obtain ⟨i, hi, hm⟩ := rowL_mem hu; exact h1 i hi u hm) (by unfold maxLen; omega) (by omega) hB
  unfold Oper.wp execOp
  simp only [ho, resolve, invoke, builtin, Sem.run_bind, Sem.run_pure, Result.andThen_ok, List.map_toArray, List.map_cons, List.map_nil, hs, hx, hr]
  refine hK _ _ (h v' w' ?_ (by rw [hv1] at hg; exact hg))
  obtain ⟨_, ⟨h0, _⟩ | ⟨g', cap', cur, hv', hB', hh, hc, _, hs', ht⟩⟩ := ho'
  · have := (hnil.1 h0).1; rw [hv1] at this; cases this
  · refine ⟨_, cap', by rw [hv']; simp, Or.inr ⟨g', cur, rfl, hB', hh, ?_, fun i hi r hr => ?_⟩⟩
    · rw [hs']; exact Nat.mul_le_mul_right _ (by omega)
    · have k1 := rowL_at hsz i hi r hr
      have hlt : i * sz + r < (0 + n) * sz := by have := Nat.mul_le_mul_right sz (show i + 1 ≤ n from hi); rw [Nat.succ_mul] at this; rw [Nat.zero_add]; omega
      have k2 : (cur.toList.take ((0 + n) * sz))[i * sz + r]? = ([] ++ rowL vs n)[i * sz + r]? := by rw [ht]
      rw [List.getElem?_take_of_lt hlt, List.nil_append, k1] at k2
      simpa using k2
theorem run_app_none {P : Program} (w : World) (t ty e : TypeId) (i : TypeInfo) (ht : P.underlying t = some (.slice e)) (hi : P.info? e = some i) (g0 cap2 : Nat) :
    (Builtin.append_ #[t, t] ty #[.slice (some ⟨g0, 0, none⟩) 0 0, .slice none 0 cap2]).run P w = .ok (.slice (some ⟨g0, 0, none⟩) 0 0) w := by
  simp [Builtin.append_, run_underlying ht, sizeOf, typeInfo, hi, Builtin.lenOf, Builtin.firstCells, storeCells]
theorem list_appR2 {ops : Array Oper} {o : Oper} {a : Act} {Q : Exit → Act → World → Prop} {rest : List Oper} (w : World) (hgd : o.guard = none) (s y : Operand) (T ST : TypeId) (ho : o.op = .call { callee := .builtin .append, args := #[s, y], argTypes := #[ST, ST] })
    (sz bys : Nat) (z : Value) (hu : Tryd.prog.underlying ST = some (.slice T)) (hi : (Tryd.prog.info? T).map (fun i => (i.zero, i.size, i.bytes)) = some (some z, sz, bys)) (hz : z.cells.size = sz) (hp : 0 < sz) (hf : bys ≤ 1000)
    (B g0 : Nat) (v1 : Value) (hs : a.eval s = v1) (hv1 : v1 = .slice (some ⟨g0, 0, none⟩) 0 0) (hg0 : w.heap[g0]? = some (.cells #[] T (0, 0))) (hB0 : B ≤ g0) (a2 : Option Addr) (n cap2 : Nat) (hx : a.eval y = .slice a2 n cap2) (vs : Nat → Array Value) (Bx : Nat)
    (hr : RowAt w Bx a2 n sz vs) (h1 : ∀ i, i < n → ∀ u ∈ (vs i).toList, u.oneCell' = true) (hn : n ≤ 8000000) (hB : B ≤ w.heap.size)
    (h : ∀ v' w', RowOf w' B T sz v' n vs → w.grownBy w' (some g0) → wpList Tryd.prog ops Q rest (a.put o.dst v') w') :
    wpList Tryd.prog ops Q (o :: rest) a w := by
  cases a2 with
  | none =>
    have hn0 : n = 0 := by rcases hr with h0 | ⟨b, o, ha, _⟩; exact h0; cases ha
    subst hn0
    refine wpList_plain hgd fun K hK => ?_
    obtain ⟨i0, hi, _, _, _⟩ := info_parts hi
    have hrun := run_app_none (P := Tryd.prog) w ST o.type T i0 hu hi g0 cap2
    unfold Oper.wp execOp
    rw [hv1] at hs
    simp only [ho, resolve, invoke, builtin, Sem.run_bind, Sem.run_pure, Result.andThen_ok, List.map_toArray, List.map_cons, List.map_nil, hs, hx, hrun]
    exact hK _ _ (h _ _ ⟨_, _, rfl, Or.inl rfl⟩ (World.grownBy.refl _ _))
  | some ad =>
    refine list_appR w hgd s y T ST ho sz bys z hu hi hz hp hf B g0 v1 hs hv1 hg0 hB0 ad n cap2 hx vs (fun i hi => ?_) (fun i hi r hr' => ?_) h1 hn hB h
    · rcases hr with h0 | ⟨b, o, ha, _, _, _, hc⟩
      · omega
      · exact (hc i hi).1
    · rcases hr with h0 | ⟨b, o, ha, _, _, _, hc⟩
      · omega
      · cases ha
        rw [addr_add', ← Nat.add_assoc]; exact (hc i hi).2 r hr'
end Go.Proofs.YtpkfbabgcinhhaaDoor

/- 'copy' of a row into a row that was just made; the contract of impl.imageCopy. -/
namespace Go.Proofs.YtpkfbabgcinhhaaDoor
open Go.ChangeShapes Go.WideShapes Go.ChangeAt Go.RowKit
theorem run_copyR {w : World} (T ST ty : TypeId) (sz bys : Nat) (z : Value) (hu : Tryd.prog.underlying ST = some (.slice T)) (hi : (Tryd.prog.info? T).map (fun i => (i.zero, i.size, i.bytes)) = some (some z, sz, bys)) (hp : 0 < sz)
    (g n dcap : Nat) (cur : Array Value) (hg : w.heap[g]? = some (.cells cur T (0, 0))) (hcs : cur.size = n * sz) (a2 : Option Addr) (cap2 : Nat) (vs : Nat → Array Value) (Bx : Nat)
    (hr : RowAt w Bx a2 n sz vs) (h1 : ∀ i, i < n → ∀ u ∈ (vs i).toList, u.oneCell' = true) :
    ∃ w', (Builtin.copy_ #[ST, ST] ty #[.slice (some ⟨g, 0, none⟩) n dcap, .slice a2 n cap2]).run Tryd.prog w = .ok (goInt n) w' ∧ w'.heap[g]? = some (.cells (rowL vs n).toArray T (0, 0)) ∧ But g w w' := by
  obtain ⟨i0, hi, hz0, hz1, hz2⟩ := info_parts hi
  cases a2 with
  | none =>
    have hn0 : n = 0 := by rcases hr with h0 | ⟨b, o, ha, _⟩; exact h0; cases ha
    subst hn0
    refine ⟨w, ?_, ?_, But.refl _ _⟩
    · simp [Builtin.copy_, run_underlying hu, sizeOf, typeInfo, hi, Builtin.lenOf, Builtin.firstCells, storeCells]
    · have : cur = #[] := Array.eq_empty_of_size_eq_zero (by rw [hcs]; simp)
      rw [hg, this]; simp [rowL]
  | some ad =>
    have hsz : ∀ i, i < n → (vs i).size = sz := fun i hi => by
      rcases hr with h0 | ⟨b, o, ha, _, _, _, hc⟩
      · omega
      · exact (hc i hi).1
    have hlen := rowL_len (vs := vs) (n := n) hsz
    have hnews : ∀ (j : Nat) (u : Value), (rowL vs n)[j]? = some u → w.cell? (ad.add j) = some u := fun j u hj => by
      have hlt : j < n * sz := by have := (List.getElem?_eq_some_iff.1 hj).1; rwa [hlen] at this
      have hjd : j / sz < n := Nat.div_lt_of_lt_mul (by rw [Nat.mul_comm]; exact hlt)
      have hjm : j % sz < sz := Nat.mod_lt _ hp
      have e : j / sz * sz + j % sz = j := by rw [Nat.mul_comm]; exact Nat.div_add_mod _ _
      have k1 := rowL_at hsz (j / sz) hjd (j % sz) hjm
      rw [e, hj] at k1
      rcases hr with h0 | ⟨b, o, ha, _, _, _, hc⟩
      · exact absurd hjd (by rw [h0]; exact Nat.not_lt_zero _)
      · cases ha
        have k2 := (hc (j / sz) hjd).2 (j % sz) hjm
        rw [addr_add', show o + j = o + j / sz * sz + j % sz by rw [Nat.add_assoc, e], k2, ← k1]
    have hf := run_firstCells_some (P := Tryd.prog) w i0.size n ad n cap2 (rowL vs n) (by rw [hlen, hz1]) hnews
    have hst := run_storeCells_at Tryd.prog g 0 T (rowL vs n) 0 cur w hg (by rw [hlen, hcs]; omega) (fun u hu => by obtain ⟨i, hi, hm⟩ := rowL_mem hu; exact h1 i hi u hm)
    have hset : (cur.toList.take (0 + 0) ++ rowL vs n ++ cur.toList.drop (0 + 0 + (rowL vs n).length)).toArray = (rowL vs n).toArray := by
      have : cur.toList.length ≤ (rowL vs n).length := by rw [hlen, Array.length_toList, hcs]; exact Nat.le_refl _
      simp [List.drop_of_length_le this]
    rw [hset] at hst
    refine ⟨w.setRow g (rowL vs n).toArray, ?_, setRow_heap w g cur _ _ _ hg, ⟨rfl, rfl, rfl, by simp, fun k _ hk => setRow_other w g k _ hk⟩⟩
    simp [Builtin.copy_, run_underlying hu, sizeOf, typeInfo, hi, Builtin.lenOf, hf, hst]
theorem list_copyR {ops : Array Oper} {o : Oper} {a : Act} {Q : Exit → Act → World → Prop} {rest : List Oper} (w : World) (hgd : o.guard = none) (d s : Operand) (T ST : TypeId) (ho : o.op = .call { callee := .builtin .copy, args := #[d, s], argTypes := #[ST, ST] })
    (sz bys : Nat) (z : Value) (hu : Tryd.prog.underlying ST = some (.slice T)) (hi : (Tryd.prog.info? T).map (fun i => (i.zero, i.size, i.bytes)) = some (some z, sz, bys)) (hp : 0 < sz)
    (g n dcap : Nat) (cur : Array Value) (hd : a.eval d = .slice (some ⟨g, 0, none⟩) n dcap) (hg : w.heap[g]? = some (.cells cur T (0, 0))) (hcs : cur.size = n * sz) (a2 : Option Addr) (cap2 : Nat) (hs : a.eval s = .slice a2 n cap2) (vs : Nat → Array Value) (Bx : Nat)
    (hr : RowAt w Bx a2 n sz vs) (h1 : ∀ i, i < n → ∀ u ∈ (vs i).toList, u.oneCell' = true)
    (h : ∀ w', w'.heap[g]? = some (.cells (rowL vs n).toArray T (0, 0)) → But g w w' → wpList Tryd.prog ops Q rest (a.put o.dst (goInt n)) w') :
    wpList Tryd.prog ops Q (o :: rest) a w := by
  refine wpList_plain hgd fun K hK => ?_
  obtain ⟨w', hrun, r1, r2⟩ := run_copyR (w := w) T ST o.type sz bys z hu hi hp g n dcap cur hg hcs a2 cap2 vs Bx hr h1
  unfold Oper.wp execOp
  simp only [ho, resolve, invoke, builtin, Sem.run_bind, Sem.run_pure, Result.andThen_ok, List.map_toArray, List.map_cons, List.map_nil, hs, hd, hrun]
  exact hK _ _ (h w' r1 r2)
theorem infoWd : (Tryd.prog.info? 73).map (fun i => (i.zero, i.size, i.bytes)) = some (some (.agg #[.int .i64 0, .int .i64 0, .int .i64 0, .int .i64 0, .int .i64 0]), 5, 40) := by kernel_rfl
/-- A list of numbers as a row, and back. -/
theorem ints_row {w : World} {B : Nat} {a : Option Addr} {zs : List Int} (h : IntsIs w B a zs) : RowAt w B a zs.length 1 (fun i => #[.int .i64 (zs[i]?.getD 0)]) := by
  rcases h.2 with h0 | ⟨b, o, ha, hB, hb, hp, hc⟩
  · exact Or.inl h0
  · refine Or.inr ⟨b, o, ha, hB, hb, hp, fun i hi => ⟨rfl, fun j hj => ?_⟩⟩
    obtain rfl : j = 0 := by omega
    rw [Nat.mul_one, Nat.add_zero, hc i hi]
    show _ = some (Value.int .i64 (zs[i]?.getD 0))
    rw [List.getElem?_eq_getElem hi]; rfl
theorem own_row {w : World} {B g : Nat} {zs : List Int} (hB : B ≤ g) (hl : zs.length ≤ 8000000) (h : w.heap[g]? = some (.cells (rowL (fun i => #[.int .i64 (zs[i]?.getD 0)]) zs.length).toArray 3 (0, 0))) : OwnI w B (.slice (some ⟨g, 0, none⟩) zs.length zs.length) zs := by
  have hs : ∀ i, i < zs.length → ((fun i => #[Value.int .i64 (zs[i]?.getD 0)]) i).size = 1 := fun _ _ => rfl
  have hlen := rowL_len hs
  refine OwnI.of_parts hB h (Nat.le_refl _) (by unfold maxLen; omega) (by simpa using hlen) (fun j hj => ?_)
  have k := rowL_at hs j hj 0 (by decide)
  rw [Nat.mul_one, Nat.add_zero] at k
  rw [List.getElem?_toArray, k]
  show some (Value.int .i64 (zs[j]?.getD 0)) = _
  rw [List.getElem?_eq_getElem hj]; rfl
theorem words_row {w : World} {B : Nat} {a : Option Addr} {l : List Wrd} (h : SlIs WrdIs 5 w B a l) : RowAt w B a l.length 5 (fun i => (wcs (l[i]?.getD default)).toArray) := by
  obtain ⟨_, vs, hr, hx⟩ := h
  rcases hr with h0 | ⟨b, o, ha, hB, hb, hp, hc⟩
  · exact Or.inl h0
  · refine Or.inr ⟨b, o, ha, hB, hb, hp, fun i hi => ⟨rfl, fun j hj => ?_⟩⟩
    rw [(hc i hi).2 j hj, (hx i hi).1]
    show _ = (wcs (l[i]?.getD default)).toArray[j]?
    rw [List.getElem?_eq_getElem hi]; rfl
theorem ownW_row {w : World} {B g : Nat} {l : List Wrd} (hB : B ≤ g) (hl : l.length ≤ 8000000) (h : w.heap[g]? = some (.cells (rowL (fun i => (wcs (l[i]?.getD default)).toArray) l.length).toArray 73 (0, 0))) : OwnE WrE w B (.slice (some ⟨g, 0, none⟩) l.length l.length) l := by
  have hs : ∀ i, i < l.length → ((fun i => (wcs (l[i]?.getD default)).toArray) i).size = 5 := fun _ _ => rfl
  have hlen := rowL_len hs
  refine OwnE.of_parts WrOk hB h (Nat.le_refl _) (by unfold maxLen; omega) (by rw [List.size_toArray]; exact hlen) (fun j hj r hr => ?_)
  have k := rowL_at hs j hj r hr
  show (rowL _ _).toArray[j * 5 + r]? = _
  rw [List.getElem?_toArray, k]
  show (wcs (l[j]?.getD default)).toArray[r]? = _
  rw [List.getElem?_eq_getElem hj]
  simp [WrE]
theorem wcs_one (x : Wrd) : ∀ u ∈ (wcs x).toArray.toList, u.oneCell' = true := fun u hu => WrOk.one x u hu
end Go.Proofs.YtpkfbabgcinhhaaDoor

/- The contract of impl.imageCopy. -/
namespace Go.Proofs.YtpkfbabgcinhhaaDoor
open Go.ChangeShapes Go.WideShapes Go.ChangeAt Go.RowKit
theorem keepC {W W' : World} {b : Nat} {o : Obj} (h : W.heap[b]? = some o) (bel : Below W.heap.size W W') : W'.heap[b]? = some o := (bel.block b (Array.getElem?_eq_some_iff.1 h).1).trans h
theorem keepG {W W' : World} {b g : Nat} {o : Obj} (h : W.heap[b]? = some o) (hb : But g W W') (hne : b ≠ g) : W'.heap[b]? = some o := (hb.block b (Array.getElem?_eq_some_iff.1 h).1 hne).trans h
/-- A box of four cells, written anew. -/
def put4 (W : World) (g : Nat) (v0 v1 v2 v3 : Value) : World := (((W.setCell ⟨g, 0, none⟩ v0).setCell ⟨g, 1, none⟩ v1).setCell ⟨g, 2, none⟩ v2).setCell ⟨g, 3, none⟩ v3
theorem put4_box {W : World} {g : Nat} {T : TypeId} {a b c d : Value} (h : W.heap[g]? = some (.cells #[a, b, c, d] T (0, 0))) (v0 v1 v2 v3 : Value) : (put4 W g v0 v1 v2 v3).heap[g]? = some (.cells #[v0, v1, v2, v3] T (0, 0)) := by
  have h0 := heap_setCell_same W g 0 _ T v0 h
  have h1 := heap_setCell_same _ g 1 _ T v1 h0
  have h2 := heap_setCell_same _ g 2 _ T v2 h1
  have h3 := heap_setCell_same _ g 3 _ T v3 h2
  unfold put4
  simpa using h3
theorem put4_but (W : World) (g : Nat) (v0 v1 v2 v3 : Value) : But g W (put4 W g v0 v1 v2 v3) := ((((But.refl g W).set _ _).set _ _).set _ _).set _ _
end Go.Proofs.YtpkfbabgcinhhaaDoor
