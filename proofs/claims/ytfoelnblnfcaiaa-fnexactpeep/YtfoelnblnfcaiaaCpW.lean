/- 'copy' of a row into a row that was just made; the contract of impl.imageCopy. -/
import Derived.Test.YtfoelnblnfcaiaaRowL
import Derived.Test.YtfoelnblnfcaiaaWrG
import Derived.Deep.CutRange
import Derived.Laws.CopyOwn
namespace Go.Proofs.Ytfoelnblnfcaiaa
open Go.ChangeShapes Go.WideShapes Go.ChangeAt Go.RowKit
theorem run_copyR {w : World} (T ST ty : TypeId) (sz bys : Nat) (z : Value) (hu : Try.prog.underlying ST = some (.slice T)) (hi : (Try.prog.info? T).map (fun i => (i.zero, i.size, i.bytes)) = some (some z, sz, bys)) (hp : 0 < sz)
    (g n dcap : Nat) (cur : Array Value) (hg : w.heap[g]? = some (.cells cur T (0, 0))) (hcs : cur.size = n * sz) (a2 : Option Addr) (cap2 : Nat) (vs : Nat → Array Value) (Bx : Nat)
    (hr : RowAt w Bx a2 n sz vs) (h1 : ∀ i, i < n → ∀ u ∈ (vs i).toList, u.oneCell' = true) :
    ∃ w', (Builtin.copy_ #[ST, ST] ty #[.slice (some ⟨g, 0, none⟩) n dcap, .slice a2 n cap2]).run Try.prog w = .ok (goInt n) w' ∧ w'.heap[g]? = some (.cells (rowL vs n).toArray T (0, 0)) ∧ But g w w' := by
  obtain ⟨i0, hi, hz0, hz1, hz2⟩ := info_parts hi
  cases a2 with
  | none =>
    have hn0 : n = 0 := by rcases hr with h0 | ⟨b, o, ha, _⟩; exact h0; cases ha
    subst hn0
    refine ⟨w, ?_, ?_, But.refl _ _⟩
    · simp [Builtin.copy_, run_underlying hu, sizeOf, typeInfo, hi, Builtin.lenOf, Builtin.firstCells, storeCells]
    · have : cur = #[] := Array.eq_empty_of_size_eq_zero (by rw [hcs]; simp)
      rw [hg, this]; simp [rowL]
  | some ad =>
    have hsz : ∀ i, i < n → (vs i).size = sz := fun i hi => by
      rcases hr with h0 | ⟨b, o, ha, _, _, _, hc⟩
      · omega
      · exact (hc i hi).1
    have hlen := rowL_len (vs := vs) (n := n) hsz
    have hnews : ∀ (j : Nat) (u : Value), (rowL vs n)[j]? = some u → w.cell? (ad.add j) = some u := fun j u hj => by
      have hlt : j < n * sz := by have := (List.getElem?_eq_some_iff.1 hj).1; rwa [hlen] at this
      have hjd : j / sz < n := Nat.div_lt_of_lt_mul (by rw [Nat.mul_comm]; exact hlt)
      have hjm : j % sz < sz := Nat.mod_lt _ hp
      have e : j / sz * sz + j % sz = j := by rw [Nat.mul_comm]; exact Nat.div_add_mod _ _
      have k1 := rowL_at hsz (j / sz) hjd (j % sz) hjm
      rw [e, hj] at k1
      rcases hr with h0 | ⟨b, o, ha, _, _, _, hc⟩
      · exact absurd hjd (by rw [h0]; exact Nat.not_lt_zero _)
      · cases ha
        have k2 := (hc (j / sz) hjd).2 (j % sz) hjm
        rw [addr_add', show o + j = o + j / sz * sz + j % sz by rw [Nat.add_assoc, e], k2, ← k1]
    have hf := run_firstCells_some (P := Try.prog) w i0.size n ad n cap2 (rowL vs n) (by rw [hlen, hz1]) hnews
    have hst := run_storeCells_at Try.prog g 0 T (rowL vs n) 0 cur w hg (by rw [hlen, hcs]; omega) (fun u hu => by obtain ⟨i, hi, hm⟩ := rowL_mem hu; exact h1 i hi u hm)
    have hset : (cur.toList.take (0 + 0) ++ rowL vs n ++ cur.toList.drop (0 + 0 + (rowL vs n).length)).toArray = (rowL vs n).toArray := by
      have : cur.toList.length ≤ (rowL vs n).length := by rw [hlen, Array.length_toList, hcs]; exact Nat.le_refl _
      simp [List.drop_of_length_le this]
    rw [hset] at hst
    refine ⟨w.setRow g (rowL vs n).toArray, ?_, setRow_heap w g cur _ _ _ hg, ⟨rfl, rfl, rfl, by simp, fun k _ hk => setRow_other w g k _ hk⟩⟩
    simp [Builtin.copy_, run_underlying hu, sizeOf, typeInfo, hi, Builtin.lenOf, hf, hst]
theorem list_copyR {ops : Array Oper} {o : Oper} {a : Act} {Q : Exit → Act → World → Prop} {rest : List Oper} (w : World) (hgd : o.guard = none) (d s : Operand) (T ST : TypeId) (ho : o.op = .call { callee := .builtin .copy, args := #[d, s], argTypes := #[ST, ST] })
    (sz bys : Nat) (z : Value) (hu : Try.prog.underlying ST = some (.slice T)) (hi : (Try.prog.info? T).map (fun i => (i.zero, i.size, i.bytes)) = some (some z, sz, bys)) (hp : 0 < sz)
    (g n dcap : Nat) (cur : Array Value) (hd : a.eval d = .slice (some ⟨g, 0, none⟩) n dcap) (hg : w.heap[g]? = some (.cells cur T (0, 0))) (hcs : cur.size = n * sz) (a2 : Option Addr) (cap2 : Nat) (hs : a.eval s = .slice a2 n cap2) (vs : Nat → Array Value) (Bx : Nat)
    (hr : RowAt w Bx a2 n sz vs) (h1 : ∀ i, i < n → ∀ u ∈ (vs i).toList, u.oneCell' = true)
    (h : ∀ w', w'.heap[g]? = some (.cells (rowL vs n).toArray T (0, 0)) → But g w w' → wpList Try.prog ops Q rest (a.put o.dst (goInt n)) w') :
    wpList Try.prog ops Q (o :: rest) a w := by
  refine wpList_plain hgd fun K hK => ?_
  obtain ⟨w', hrun, r1, r2⟩ := run_copyR (w := w) T ST o.type sz bys z hu hi hp g n dcap cur hg hcs a2 cap2 vs Bx hr h1
  unfold Oper.wp execOp
  simp only [ho, resolve, invoke, builtin, Sem.run_bind, Sem.run_pure, Result.andThen_ok, List.map_toArray, List.map_cons, List.map_nil, hs, hd, hrun]
  exact hK _ _ (h w' r1 r2)
theorem infoWd : (Try.prog.info? 44).map (fun i => (i.zero, i.size, i.bytes)) = some (some (.agg #[.int .i64 0, .int .i64 0, .int .i64 0, .int .i64 0, .int .i64 0]), 5, 40) := by kernel_rfl
/-- A list of numbers as a row, and back. -/
theorem ints_row {w : World} {B : Nat} {a : Option Addr} {zs : List Int} (h : IntsIs w B a zs) : RowAt w B a zs.length 1 (fun i => #[.int .i64 (zs[i]?.getD 0)]) := by
  rcases h.2 with h0 | ⟨b, o, ha, hB, hb, hp, hc⟩
  · exact Or.inl h0
  · refine Or.inr ⟨b, o, ha, hB, hb, hp, fun i hi => ⟨rfl, fun j hj => ?_⟩⟩
    obtain rfl : j = 0 := by omega
    rw [Nat.mul_one, Nat.add_zero, hc i hi]
    show _ = some (Value.int .i64 (zs[i]?.getD 0))
    rw [List.getElem?_eq_getElem hi]; rfl
theorem own_row {w : World} {B g : Nat} {zs : List Int} (hB : B ≤ g) (hl : zs.length ≤ 8000000) (h : w.heap[g]? = some (.cells (rowL (fun i => #[.int .i64 (zs[i]?.getD 0)]) zs.length).toArray 3 (0, 0))) : OwnI w B (.slice (some ⟨g, 0, none⟩) zs.length zs.length) zs := by
  have hs : ∀ i, i < zs.length → ((fun i => #[Value.int .i64 (zs[i]?.getD 0)]) i).size = 1 := fun _ _ => rfl
  have hlen := rowL_len hs
  refine OwnI.of_parts hB h (Nat.le_refl _) (by unfold maxLen; omega) (by simpa using hlen) (fun j hj => ?_)
  have k := rowL_at hs j hj 0 (by decide)
  rw [Nat.mul_one, Nat.add_zero] at k
  rw [List.getElem?_toArray, k]
  show some (Value.int .i64 (zs[j]?.getD 0)) = _
  rw [List.getElem?_eq_getElem hj]; rfl
theorem words_row {w : World} {B : Nat} {a : Option Addr} {l : List Wrd} (h : SlIs WrdIs 5 w B a l) : RowAt w B a l.length 5 (fun i => (wcs (l[i]?.getD default)).toArray) := by
  obtain ⟨_, vs, hr, hx⟩ := h
  rcases hr with h0 | ⟨b, o, ha, hB, hb, hp, hc⟩
  · exact Or.inl h0
  · refine Or.inr ⟨b, o, ha, hB, hb, hp, fun i hi => ⟨rfl, fun j hj => ?_⟩⟩
    rw [(hc i hi).2 j hj, (hx i hi).1]
    show _ = (wcs (l[i]?.getD default)).toArray[j]?
    rw [List.getElem?_eq_getElem hi]; rfl
theorem ownW_row {w : World} {B g : Nat} {l : List Wrd} (hB : B ≤ g) (hl : l.length ≤ 8000000) (h : w.heap[g]? = some (.cells (rowL (fun i => (wcs (l[i]?.getD default)).toArray) l.length).toArray 44 (0, 0))) : OwnE WrE w B (.slice (some ⟨g, 0, none⟩) l.length l.length) l := by
  have hs : ∀ i, i < l.length → ((fun i => (wcs (l[i]?.getD default)).toArray) i).size = 5 := fun _ _ => rfl
  have hlen := rowL_len hs
  refine OwnE.of_parts WrOk hB h (Nat.le_refl _) (by unfold maxLen; omega) (by rw [List.size_toArray]; exact hlen) (fun j hj r hr => ?_)
  have k := rowL_at hs j hj r hr
  show (rowL _ _).toArray[j * 5 + r]? = _
  rw [List.getElem?_toArray, k]
  show (wcs (l[j]?.getD default)).toArray[r]? = _
  rw [List.getElem?_eq_getElem hj]
  simp [WrE]
theorem wcs_one (x : Wrd) : ∀ u ∈ (wcs x).toArray.toList, u.oneCell' = true := fun u hu => WrOk.one x u hu
end Go.Proofs.Ytfoelnblnfcaiaa
