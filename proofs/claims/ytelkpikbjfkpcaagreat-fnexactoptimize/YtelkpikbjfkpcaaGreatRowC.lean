/- slices.Clone of a row: its cells in a block of its own (written by wip/mkclone.py). -/
import Derived.Test.YtelkpikbjfkpcaaGreatShD
import Derived.Test.YtelkpikbjfkpcaaGreatOwnA
import Derived.Lib.LazyBuf
import Derived.Laws.OwnMore
import Derived.Test.YtelkpikbjfkpcaaGreatShelf
import Derived.Deep.LoopGhost
import Derived.Deep.CutRange
namespace Go.Proofs.YtelkpikbjfkpcaaGreat
open Go.ChangeShapes Go.WideShapes Go.ChangeAt Go.RowKit
/-- The slice v has n elements of sz cells, as vs tells them, in a block of its own from B on (or none at all). -/
def RowOf (w : World) (B : Nat) (T : TypeId) (sz : Nat) (v : Value) (n : Nat) (vs : Nat → Array Value) : Prop :=
  ∃ a c, v = .slice a n c ∧ (n = 0 ∨ ∃ g cur, a = some ⟨g, 0, none⟩ ∧ B ≤ g ∧ w.heap[g]? = some (.cells cur T (0, 0)) ∧ n * sz ≤ cur.size ∧ ∀ i, i < n → ∀ r, r < sz → cur[i * sz + r]? = (vs i)[r]?)
theorem RowOf.stays {w w' : World} {B : Nat} {T : TypeId} {sz : Nat} {v : Value} {n : Nat} {vs : Nat → Array Value} (h : RowOf w B T sz v n vs) (bel : Below w.heap.size w w') : RowOf w' B T sz v n vs := by
  obtain ⟨a, c, hv, h0 | ⟨g, cur, ha, hB, hh, hs, hx⟩⟩ := h
  · exact ⟨a, c, hv, Or.inl h0⟩
  · exact ⟨a, c, hv, Or.inr ⟨g, cur, ha, hB, (bel.block g (Array.getElem?_eq_some_iff.1 hh).1).trans hh, hs, hx⟩⟩
/-- The cells of a row, one behind another. -/
def rowL (vs : Nat → Array Value) (n : Nat) : List Value := (List.range n).flatMap fun i => (vs i).toList
theorem rowL_len {vs : Nat → Array Value} {sz : Nat} : ∀ {n : Nat}, (∀ i, i < n → (vs i).size = sz) → (rowL vs n).length = n * sz
  | 0, _ => by simp [rowL]
  | n + 1, h => by
    have ih := rowL_len (n := n) (fun i hi => h i (by omega))
    have e : rowL vs (n + 1) = rowL vs n ++ (vs n).toList := by simp [rowL, List.range_succ]
    rw [e, List.length_append, ih, Array.length_toList, h n (by omega), Nat.succ_mul]
theorem rowL_at {vs : Nat → Array Value} {sz : Nat} : ∀ {n : Nat}, (∀ i, i < n → (vs i).size = sz) → ∀ i, i < n → ∀ r, r < sz → (rowL vs n)[i * sz + r]? = (vs i)[r]?
  | 0, _, i, hi, _, _ => absurd hi (Nat.not_lt_zero _)
  | n + 1, h, i, hi, r, hr => by
    have hl := rowL_len (n := n) (fun i hi => h i (by omega))
    have e : rowL vs (n + 1) = rowL vs n ++ (vs n).toList := by simp [rowL, List.range_succ]
    rw [e]
    by_cases hin : i < n
    · have : i * sz + sz ≤ n * sz := by have := Nat.mul_le_mul_right sz (show i + 1 ≤ n from hin); rwa [Nat.succ_mul] at this
      rw [List.getElem?_append_left (by omega)]
      exact rowL_at (fun i hi => h i (by omega)) i hin r hr
    · obtain rfl : i = n := by omega
      rw [List.getElem?_append_right (by omega), hl, show i * sz + r - i * sz = r by omega]
      simp
theorem rowL_mem {vs : Nat → Array Value} {n : Nat} {u : Value} (h : u ∈ rowL vs n) : ∃ i, i < n ∧ u ∈ (vs i).toList := by
  simp only [rowL, List.mem_flatMap, List.mem_range] at h; exact h
theorem list_appR {ops : Array Oper} {o : Oper} {a : Act} {Q : Exit → Act → World → Prop} {rest : List Oper} (w : World) (hgd : o.guard = none) (s y : Operand) (T ST : TypeId) (ho : o.op = .call { callee := .builtin .append, args := #[s, y], argTypes := #[ST, ST] })
    (sz bys : Nat) (z : Value) (hu : Tryz.prog.underlying ST = some (.slice T)) (hi : (Tryz.prog.info? T).map (fun i => (i.zero, i.size, i.bytes)) = some (some z, sz, bys)) (hz : z.cells.size = sz) (hp : 0 < sz) (hf : bys ≤ 1000)
    (B g0 : Nat) (v1 : Value) (hs : a.eval s = v1) (hv1 : v1 = .slice (some ⟨g0, 0, none⟩) 0 0) (hg0 : w.heap[g0]? = some (.cells #[] T (0, 0))) (hB0 : B ≤ g0) (ad : Addr) (n cap2 : Nat) (hx : a.eval y = .slice (some ad) n cap2) (vs : Nat → Array Value) (hsz : ∀ i, i < n → (vs i).size = sz)
    (h2 : ∀ i, i < n → ∀ r, r < sz → w.cell? (ad.add (i * sz + r)) = (vs i)[r]?) (h1 : ∀ i, i < n → ∀ u ∈ (vs i).toList, u.oneCell' = true) (hn : n ≤ 8000000) (hB : B ≤ w.heap.size)
    (h : ∀ v' w', RowOf w' B T sz v' n vs → w.grownBy w' (some g0) → wpList Tryz.prog ops Q rest (a.put o.dst v') w') :
    wpList Tryz.prog ops Q (o :: rest) a w := by
  refine wpList_plain hgd fun K hK => ?_
  obtain ⟨i0, hi, hz0, hz1, hz2⟩ := info_parts hi
  have hown : w.ownsRow B T sz v1 0 [] := ⟨by simp, Or.inr ⟨g0, 0, #[], hv1, hB0, hg0, Nat.le_refl _, Nat.zero_le _, by simp, by simp⟩⟩
  have hbn : (0 + n) * bys ≤ 8000000 * 1000 := Nat.mul_le_mul (by omega) hf
  have hlen := rowL_len (vs := vs) (n := n) hsz
  obtain ⟨v', w', hr, ho', hg, hnil, hloc⟩ := run_append_own_at (P := Tryz.prog) w B ST o.type T i0 z sz bys hu hi hz0 hz1 hz2 hz hp v1 0 [] hown ad n cap2 (rowL vs n) hlen (fun j u hj => by
      have hlt : j < n * sz := by have := (List.getElem?_eq_some_iff.1 hj).1; rwa [hlen] at this
      have hjd : j / sz < n := Nat.div_lt_of_lt_mul (by rw [Nat.mul_comm]; exact hlt)
      have hjm : j % sz < sz := Nat.mod_lt _ hp
      have e : j / sz * sz + j % sz = j := by rw [Nat.mul_comm]; exact Nat.div_add_mod _ _
      have k1 := rowL_at hsz (j / sz) hjd (j % sz) hjm
      rw [e, hj] at k1
      have k2 := h2 (j / sz) hjd (j % sz) hjm
      rw [e] at k2
      rw [k2, ← k1])
    (fun u hu => by obtain ⟨i, hi, hm⟩ := rowL_mem hu; exact h1 i hi u hm) (by unfold maxLen; omega) (by omega) hB
  unfold Oper.wp execOp
  simp only [ho, resolve, invoke, builtin, Sem.run_bind, Sem.run_pure, Result.andThen_ok, List.map_toArray, List.map_cons, List.map_nil, hs, hx, hr]
  refine hK _ _ (h v' w' ?_ (by rw [hv1] at hg; exact hg))
  obtain ⟨_, ⟨h0, _⟩ | ⟨g', cap', cur, hv', hB', hh, hc, _, hs', ht⟩⟩ := ho'
  · have := (hnil.1 h0).1; rw [hv1] at this; cases this
  · refine ⟨_, cap', by rw [hv']; simp, Or.inr ⟨g', cur, rfl, hB', hh, ?_, fun i hi r hr => ?_⟩⟩
    · rw [hs']; exact Nat.mul_le_mul_right _ (by omega)
    · have k1 := rowL_at hsz i hi r hr
      have hlt : i * sz + r < (0 + n) * sz := by have := Nat.mul_le_mul_right sz (show i + 1 ≤ n from hi); rw [Nat.succ_mul] at this; rw [Nat.zero_add]; omega
      have k2 : (cur.toList.take ((0 + n) * sz))[i * sz + r]? = ([] ++ rowL vs n)[i * sz + r]? := by rw [ht]
      rw [List.getElem?_take_of_lt hlt, List.nil_append, k1] at k2
      simpa using k2
set_option maxRecDepth 100000 in
set_option maxHeartbeats 2000000 in
theorem cloneI (n : Nat) (w : World) (B : Nat) (a : Option Addr) (cap : Nat) (vs : Nat → Array Value) (h : RowAt w B a n 1 vs) (h1 : ∀ i, i < n → ∀ u ∈ (vs i).toList, u.oneCell' = true) (hn : n ≤ 8000000) :
    Calls Tryz.prog 64 #[.slice a n cap] w fun en w' => ∃ v', en = .returned v' ∧ RowOf w' w.heap.size 3 1 v' n vs ∧ Below w.heap.size w w' := by
  have nl := fun W => Lib.run_eql_slice_nil (P := Tryz.prog) W 22 3 a n cap 0 0 Tryz.underlying22
  cases a with
  | none =>
    have hn0 : n = 0 := by rcases h with h0 | ⟨b, o, ha, _⟩; exact h0; cases ha
    subst hn0
    clear h h1
    go_enter Tryz.func64, Tryz.ntmps64
    go_wp2
    go_ret
    exact ⟨_, rfl, ⟨_, _, rfl, Or.inl rfl⟩, Below.refl _ _⟩
  | some ad =>
    have h2 : Hid (∀ i, i < n → ∀ r, r < 1 → w.cell? (ad.add (i * 1 + r)) = (vs i)[r]?) := fun i hi r hr => by
      rcases h with h0 | ⟨b, o, ha, _, _, _, hc⟩
      · omega
      · cases ha
        rw [addr_add', ← Nat.add_assoc]; exact (hc i hi).2 r hr
    have hlt : Hid (0 < n → ad.block < w.heap.size) := fun h0 => by
      rcases h with h0 | ⟨b, o, ha, _, hb, _, hc⟩
      · omega
      · cases ha; exact hb
    have hsz : Hid (∀ i, i < n → (vs i).size = 1) := fun i hi => by
      rcases h with h0 | ⟨b, o, ha, _, _, _, hc⟩
      · omega
      · exact (hc i hi).1
    have H1 := hideP h1
    have al := hideP ((Below.refl w.heap.size w).alloc (Nat.le_refl _) (.cells #[] 3))
    have Q := hideP (heap_alloc_new w (.cells #[] 3))
    have h3 : Hid (∀ i, i < n → ∀ r, r < 1 → (w.alloc (.cells #[] 3)).cell? (ad.add (i * 1 + r)) = (vs i)[r]?) := fun i hi r hr => by
      rw [← h2.out i hi r hr]
      rcases h with h0 | ⟨b, o, ha, _, hb, _, hc⟩
      · omega
      · cases ha; rw [addr_add']; exact al.out.cell (p := ⟨b, _, none⟩) hb
    clear h h1 h2
    go_enter Tryz.func64, Tryz.ntmps64
    go_wp2_with (at_builtin; refine list_appR _ rfl _ _ 3 22 rfl 1 8 (.int .i64 0) Tryz.underlying22 (by kernel_rfl) rfl (by decide) (by decide) w.heap.size w.heap.size _ rfl rfl Q.out (Nat.le_refl _) ad n cap rfl vs hsz.out h3.out H1.out (by omega) al.out.size ?_; intro v6 w6 o6 grow6)
    have O6 := hideP o6
    have B6 := hideP (al.out.grown grow6 al.out.size (fun b' hb' => by injection hb' with hb'; omega))
    obtain ⟨a6, c6, rfl, _⟩ := id o6
    clear o6 grow6
    go_ret
    exact ⟨_, rfl, O6.out, B6.out⟩
set_option maxRecDepth 100000 in
set_option maxHeartbeats 2000000 in
theorem cloneB (n : Nat) (w : World) (B : Nat) (a : Option Addr) (cap : Nat) (vs : Nat → Array Value) (h : RowAt w B a n 5 vs) (h1 : ∀ i, i < n → ∀ u ∈ (vs i).toList, u.oneCell' = true) (hn : n ≤ 8000000) :
    Calls Tryz.prog 65 #[.slice a n cap] w fun en w' => ∃ v', en = .returned v' ∧ RowOf w' w.heap.size 51 5 v' n vs ∧ Below w.heap.size w w' := by
  have nl := fun W => Lib.run_eql_slice_nil (P := Tryz.prog) W 27 51 a n cap 0 0 Tryz.underlying27
  cases a with
  | none =>
    have hn0 : n = 0 := by rcases h with h0 | ⟨b, o, ha, _⟩; exact h0; cases ha
    subst hn0
    clear h h1
    go_enter Tryz.func65, Tryz.ntmps65
    go_wp2
    go_ret
    exact ⟨_, rfl, ⟨_, _, rfl, Or.inl rfl⟩, Below.refl _ _⟩
  | some ad =>
    have h2 : Hid (∀ i, i < n → ∀ r, r < 5 → w.cell? (ad.add (i * 5 + r)) = (vs i)[r]?) := fun i hi r hr => by
      rcases h with h0 | ⟨b, o, ha, _, _, _, hc⟩
      · omega
      · cases ha
        rw [addr_add', ← Nat.add_assoc]; exact (hc i hi).2 r hr
    have hlt : Hid (0 < n → ad.block < w.heap.size) := fun h0 => by
      rcases h with h0 | ⟨b, o, ha, _, hb, _, hc⟩
      · omega
      · cases ha; exact hb
    have hsz : Hid (∀ i, i < n → (vs i).size = 5) := fun i hi => by
      rcases h with h0 | ⟨b, o, ha, _, _, _, hc⟩
      · omega
      · exact (hc i hi).1
    have H1 := hideP h1
    have al := hideP ((Below.refl w.heap.size w).alloc (Nat.le_refl _) (.cells #[] 51))
    have Q := hideP (heap_alloc_new w (.cells #[] 51))
    have h3 : Hid (∀ i, i < n → ∀ r, r < 5 → (w.alloc (.cells #[] 51)).cell? (ad.add (i * 5 + r)) = (vs i)[r]?) := fun i hi r hr => by
      rw [← h2.out i hi r hr]
      rcases h with h0 | ⟨b, o, ha, _, hb, _, hc⟩
      · omega
      · cases ha; rw [addr_add']; exact al.out.cell (p := ⟨b, _, none⟩) hb
    clear h h1 h2
    go_enter Tryz.func65, Tryz.ntmps65
    go_wp2_with (at_builtin; refine list_appR _ rfl _ _ 51 27 rfl 5 56 (.agg #[.slice none 0 0, .int .i64 0, .int .i64 0, .int .i64 0, .int .i64 0]) Tryz.underlying27 (by kernel_rfl) rfl (by decide) (by decide) w.heap.size w.heap.size _ rfl rfl Q.out (Nat.le_refl _) ad n cap rfl vs hsz.out h3.out H1.out (by omega) al.out.size ?_; intro v6 w6 o6 grow6)
    have O6 := hideP o6
    have B6 := hideP (al.out.grown grow6 al.out.size (fun b' hb' => by injection hb' with hb'; omega))
    obtain ⟨a6, c6, rfl, _⟩ := id o6
    clear o6 grow6
    go_ret
    exact ⟨_, rfl, O6.out, B6.out⟩
set_option maxRecDepth 100000 in
set_option maxHeartbeats 2000000 in
theorem cloneC (n : Nat) (w : World) (B : Nat) (a : Option Addr) (cap : Nat) (vs : Nat → Array Value) (h : RowAt w B a n 7 vs) (h1 : ∀ i, i < n → ∀ u ∈ (vs i).toList, u.oneCell' = true) (hn : n ≤ 8000000) :
    Calls Tryz.prog 116 #[.slice a n cap] w fun en w' => ∃ v', en = .returned v' ∧ RowOf w' w.heap.size 56 7 v' n vs ∧ Below w.heap.size w w' := by
  have nl := fun W => Lib.run_eql_slice_nil (P := Tryz.prog) W 49 56 a n cap 0 0 Tryz.underlying49
  cases a with
  | none =>
    have hn0 : n = 0 := by rcases h with h0 | ⟨b, o, ha, _⟩; exact h0; cases ha
    subst hn0
    clear h h1
    go_enter Tryz.func116, Tryz.ntmps116
    go_wp2
    go_ret
    exact ⟨_, rfl, ⟨_, _, rfl, Or.inl rfl⟩, Below.refl _ _⟩
  | some ad =>
    have h2 : Hid (∀ i, i < n → ∀ r, r < 7 → w.cell? (ad.add (i * 7 + r)) = (vs i)[r]?) := fun i hi r hr => by
      rcases h with h0 | ⟨b, o, ha, _, _, _, hc⟩
      · omega
      · cases ha
        rw [addr_add', ← Nat.add_assoc]; exact (hc i hi).2 r hr
    have hlt : Hid (0 < n → ad.block < w.heap.size) := fun h0 => by
      rcases h with h0 | ⟨b, o, ha, _, hb, _, hc⟩
      · omega
      · cases ha; exact hb
    have hsz : Hid (∀ i, i < n → (vs i).size = 7) := fun i hi => by
      rcases h with h0 | ⟨b, o, ha, _, _, _, hc⟩
      · omega
      · exact (hc i hi).1
    have H1 := hideP h1
    have al := hideP ((Below.refl w.heap.size w).alloc (Nat.le_refl _) (.cells #[] 56))
    have Q := hideP (heap_alloc_new w (.cells #[] 56))
    have h3 : Hid (∀ i, i < n → ∀ r, r < 7 → (w.alloc (.cells #[] 56)).cell? (ad.add (i * 7 + r)) = (vs i)[r]?) := fun i hi r hr => by
      rw [← h2.out i hi r hr]
      rcases h with h0 | ⟨b, o, ha, _, hb, _, hc⟩
      · omega
      · cases ha; rw [addr_add']; exact al.out.cell (p := ⟨b, _, none⟩) hb
    clear h h1 h2
    go_enter Tryz.func116, Tryz.ntmps116
    go_wp2_with (at_builtin; refine list_appR _ rfl _ _ 56 49 rfl 7 64 (.agg #[.int .i64 0, .int .i64 0, .int .i64 0, .int .i64 0, .int .i64 0, .int .i64 0, .string ByteArray.empty]) Tryz.underlying49 (by kernel_rfl) rfl (by decide) (by decide) w.heap.size w.heap.size _ rfl rfl Q.out (Nat.le_refl _) ad n cap rfl vs hsz.out h3.out H1.out (by omega) al.out.size ?_; intro v6 w6 o6 grow6)
    have O6 := hideP o6
    have B6 := hideP (al.out.grown grow6 al.out.size (fun b' hb' => by injection hb' with hb'; omega))
    obtain ⟨a6, c6, rfl, _⟩ := id o6
    clear o6 grow6
    go_ret
    exact ⟨_, rfl, O6.out, B6.out⟩
end Go.Proofs.YtelkpikbjfkpcaaGreat

/- 'append([]T{}, s...)' of a row of which nothing is known but its cells (s may be nil). -/
namespace Go.Proofs.YtelkpikbjfkpcaaGreat
open Go.ChangeShapes Go.WideShapes Go.ChangeAt Go.RowKit
theorem run_app_none {P : Program} (w : World) (t ty e : TypeId) (i : TypeInfo) (ht : P.underlying t = some (.slice e)) (hi : P.info? e = some i) (g0 cap2 : Nat) :
    (Builtin.append_ #[t, t] ty #[.slice (some ⟨g0, 0, none⟩) 0 0, .slice none 0 cap2]).run P w = .ok (.slice (some ⟨g0, 0, none⟩) 0 0) w := by
  simp [Builtin.append_, run_underlying ht, sizeOf, typeInfo, hi, Builtin.lenOf, Builtin.firstCells, storeCells]
theorem list_appR2 {ops : Array Oper} {o : Oper} {a : Act} {Q : Exit → Act → World → Prop} {rest : List Oper} (w : World) (hgd : o.guard = none) (s y : Operand) (T ST : TypeId) (ho : o.op = .call { callee := .builtin .append, args := #[s, y], argTypes := #[ST, ST] })
    (sz bys : Nat) (z : Value) (hu : Tryz.prog.underlying ST = some (.slice T)) (hi : (Tryz.prog.info? T).map (fun i => (i.zero, i.size, i.bytes)) = some (some z, sz, bys)) (hz : z.cells.size = sz) (hp : 0 < sz) (hf : bys ≤ 1000)
    (B g0 : Nat) (v1 : Value) (hs : a.eval s = v1) (hv1 : v1 = .slice (some ⟨g0, 0, none⟩) 0 0) (hg0 : w.heap[g0]? = some (.cells #[] T (0, 0))) (hB0 : B ≤ g0) (a2 : Option Addr) (n cap2 : Nat) (hx : a.eval y = .slice a2 n cap2) (vs : Nat → Array Value) (Bx : Nat)
    (hr : RowAt w Bx a2 n sz vs) (h1 : ∀ i, i < n → ∀ u ∈ (vs i).toList, u.oneCell' = true) (hn : n ≤ 8000000) (hB : B ≤ w.heap.size)
    (h : ∀ v' w', RowOf w' B T sz v' n vs → w.grownBy w' (some g0) → wpList Tryz.prog ops Q rest (a.put o.dst v') w') :
    wpList Tryz.prog ops Q (o :: rest) a w := by
  cases a2 with
  | none =>
    have hn0 : n = 0 := by rcases hr with h0 | ⟨b, o, ha, _⟩; exact h0; cases ha
    subst hn0
    refine wpList_plain hgd fun K hK => ?_
    obtain ⟨i0, hi, _, _, _⟩ := info_parts hi
    have hrun := run_app_none (P := Tryz.prog) w ST o.type T i0 hu hi g0 cap2
    unfold Oper.wp execOp
    rw [hv1] at hs
    simp only [ho, resolve, invoke, builtin, Sem.run_bind, Sem.run_pure, Result.andThen_ok, List.map_toArray, List.map_cons, List.map_nil, hs, hx, hrun]
    exact hK _ _ (h _ _ ⟨_, _, rfl, Or.inl rfl⟩ (World.grownBy.refl _ _))
  | some ad =>
    refine list_appR w hgd s y T ST ho sz bys z hu hi hz hp hf B g0 v1 hs hv1 hg0 hB0 ad n cap2 hx vs (fun i hi => ?_) (fun i hi r hr' => ?_) h1 hn hB h
    · rcases hr with h0 | ⟨b, o, ha, _, _, _, hc⟩
      · omega
      · exact (hc i hi).1
    · rcases hr with h0 | ⟨b, o, ha, _, _, _, hc⟩
      · omega
      · cases ha
        rw [addr_add', ← Nat.add_assoc]; exact (hc i hi).2 r hr'
end Go.Proofs.YtelkpikbjfkpcaaGreat

/- The contracts of strings.Clone and impl.codeCopy. -/
namespace Go.Proofs.YtelkpikbjfkpcaaGreat
open Go.ChangeShapes Go.WideShapes Go.ChangeAt Go.RowKit
theorem strClone_any (s : ByteArray) (w : World) (h : s.size ≤ 281474976710656) :
    Calls Tryz.prog 117 #[.string s] w fun e w' => e = .returned (.string s) ∧ Below w.heap.size w w' := by
  go_enter Tryz.func117, Tryz.ntmps117
  go_wp2_with fail
  refine (Tryz.stringslite_Clone s _ h).mono ?_
  rintro e w' ⟨rfl, bel⟩
  go_wp2
  go_ret
  exact ⟨rfl, bel⟩
def insA (x : Ins) : Array Value := #[.int .i64 x.op, .int .i64 x.d, .int .i64 x.a, .int .i64 x.b, .int .i64 x.c, .int .i64 x.n, .string x.t]
theorem insA_one (x : Ins) : ∀ u ∈ (insA x).toList, u.oneCell' = true := by
  intro u hu
  simp only [insA, List.mem_cons, List.not_mem_nil, or_false] at hu
  rcases hu with rfl | rfl | rfl | rfl | rfl | rfl | rfl <;> rfl
/-- The cells of a slice of steps. -/
theorem ins_row {w : World} {B : Nat} {u : Option Addr} {code : List Ins} (h : SlIs InsIs 7 w B u code) : RowAt w B u code.length 7 (fun i => insA (code[i]!)) := by
  obtain ⟨_, vs, hr, hx⟩ := h
  rcases hr with h0 | ⟨b, o, ha, hB, hb, hp, hc⟩
  · exact Or.inl h0
  · refine Or.inr ⟨b, o, ha, hB, hb, hp, fun i hi => ?_⟩
    have e : vs i = insA code[i] := (hx i hi).1
    simp only [getElem!_pos code i hi, ← e]
    exact hc i hi
theorem RowOf.same {w : World} {B : Nat} {T : TypeId} {sz : Nat} {v : Value} {n : Nat} {vs : Nat → Array Value} {g i r : Nat} {x : Value} {c : Nat} (h : RowOf w B T sz v n vs) (hv : v = .slice (some ⟨g, 0, none⟩) n c) (hi : i < n) (hr : r < sz) (hx : (vs i)[r]? = some x) :
    RowOf (w.setCell ⟨g, i * sz + r, none⟩ x) B T sz v n vs := by
  obtain ⟨a, c', hv', h0 | ⟨g', cur, ha, hB, hh, hs, hc⟩⟩ := h
  · exact ⟨a, c', hv', Or.inl h0⟩
  · rw [hv'] at hv
    injection hv with e1 e2 e3
    rw [ha] at e1
    injection e1 with e1
    injection e1 with e1
    subst e1
    refine ⟨a, c', hv', Or.inr ⟨g', _, ha, hB, heap_setCell_same w g' _ cur _ x hh, by simpa using hs, fun k hk q hq => ?_⟩⟩
    rw [Array.getElem?_setIfInBounds]
    split
    · rename_i e
      have hki : k = i ∧ q = r := by
        have h1 : k * sz + q = i * sz + r := e.symm
        have hd : (k * sz + q) / sz = (i * sz + r) / sz := by rw [h1]
        rw [Nat.mul_comm k, Nat.mul_comm i, Nat.mul_add_div (by omega), Nat.mul_add_div (by omega), Nat.div_eq_of_lt hq, Nat.div_eq_of_lt hr] at hd
        have : k = i := by omega
        subst this
        exact ⟨rfl, by omega⟩
      obtain ⟨rfl, rfl⟩ := hki
      have hlt : k * sz + q < cur.size := by
        have := Nat.mul_le_mul_right sz (show k + 1 ≤ n from hk)
        rw [Nat.succ_mul] at this; omega
      rw [if_pos hlt, hx]
    · exact hc k hk q hq
set_option maxRecDepth 100000 in
set_option maxHeartbeats 4000000 in
theorem codeCopy_any (code : List Ins) (w : World) (B : Nat) (u : Option Addr) (cap : Nat) (h : SlIs InsIs 7 w B u code) (hn : code.length ≤ 1048576) (ht : ∀ x ∈ code, x.t.size ≤ 1048576) :
    Calls Tryz.prog 66 #[.slice u code.length cap] w fun en w' => ∃ v', en = .returned v' ∧ RowOf w' w.heap.size 56 7 v' code.length (fun i => insA (code[i]!)) ∧ Below w.heap.size w w' := by
  have RW := hideP (ins_row h)
  have HT := hideP ht
  have hm := maxLen_lt
  clear h ht
  go_enter Tryz.func66, Tryz.ntmps66
  go_wp2_with fail
  refine (cloneC code.length _ B u cap _ RW.out (fun i hi => insA_one _) (by omega)).mono ?_
  rintro e1 w1 ⟨v1, rfl, o1, bel1⟩
  obtain ⟨a1, c1, rfl, _⟩ := id o1
  have O1 := hideP o1
  have B1 := hideP bel1
  clear o1 bel1
  go_wp2
  go_loopg [10] code.length (fun gk ix wr => ∃ j : Nat, gk + j = code.length ∧ ix = .int .i64 j ∧ Hid (RowOf wr w.heap.size 56 7 (.slice a1 code.length c1) code.length (fun i => insA (code[i]!))) ∧ Hid (Below w.heap.size w wr))
  case atStart => exact ⟨0, rfl, rfl, O1.out, B1.out⟩
  case round =>
    obtain ⟨j, hj, rfl, ho, hb⟩ := hrel
    clear O1 B1
    by_cases hlt : j < code.length
    · obtain ⟨a', c', hv', h0 | ⟨g, cur, ha, hB, hh, hs, hc⟩⟩ := id ho.out
      · omega
      · injection hv' with e1 e2 e3
        subst e1 e3 ha
        have hx := fun r (hr : r < 7) => hc j hlt r hr
        have hg : g < wr.heap.size := (Array.getElem?_eq_some_iff.1 hh).1
        simp only [getElem!_pos code j hlt] at hx
        have hts := HT.out code[j] (List.getElem_mem hlt)
        obtain ⟨⟨op, d, a, b, c, n, t⟩, he⟩ : ∃ x, code[j] = x := ⟨_, rfl⟩
        rw [he] at hx hts
        have HE := hideP he
        clear he
        simp only at hts
        have cl : ∀ r, r < 7 → wr.cell? ⟨g, j * 7 + r, none⟩ = (insA ⟨op, d, a, b, c, n, t⟩)[r]? := fun r hr => by simp only [World.cell?, hh]; exact hx r hr
        have q0 : wr.cell? ⟨g, j * 7, none⟩ = some (.int .i64 op) := cl 0 (by omega)
        have q1 : wr.cell? ⟨g, j * 7 + 1, none⟩ = some (.int .i64 d) := cl 1 (by omega)
        have q2 : wr.cell? ⟨g, j * 7 + 2, none⟩ = some (.int .i64 a) := cl 2 (by omega)
        have q3 : wr.cell? ⟨g, j * 7 + 3, none⟩ = some (.int .i64 b) := cl 3 (by omega)
        have q4 : wr.cell? ⟨g, j * 7 + 4, none⟩ = some (.int .i64 c) := cl 4 (by omega)
        have q5 : wr.cell? ⟨g, j * 7 + 5, none⟩ = some (.int .i64 n) := cl 5 (by omega)
        have q6 : wr.cell? ⟨g, j * 7 + 6, none⟩ = some (.string t) := cl 6 (by omega)
        have al := (Below.refl wr.heap.size wr).alloc (Nat.le_refl _) (.cells #[.int .i64 op, .int .i64 d, .int .i64 a, .int .i64 b, .int .i64 c, .int .i64 n, .string t] 56)
        have OA := hideP (ho.out.stays al)
        have BA := hideP (below_trans hb.out al)
        clear al cl hx hc hs hh
        go_wp2_with fail
        refine (strClone_any t _ (by omega)).mono ?_
        rintro e2 w2 ⟨rfl, bel2⟩
        replace OA := hideP (OA.out.stays bel2)
        replace BA := hideP (below_trans BA.out bel2)
        clear bel2 q0 q1 q2 q3 q4 q5 q6
        have S2 : Hid (RowOf (w2.setCell ⟨g, j * 7 + 6, none⟩ (.string t)) w.heap.size 56 7 (.slice (some ⟨g, 0, none⟩) code.length c1) code.length (fun i => insA (code[i]!))) :=
          OA.out.same rfl hlt (by omega) (by simp only [getElem!_pos code j hlt, HE.out]; rfl)
        have hf : (∃ x, w2.cell? ⟨g, j * 7 + 6, none⟩ = some x) ∧ w2.frozen? ⟨g, j * 7 + 6, none⟩ = false := by
          obtain ⟨a', c', hv', h0 | ⟨g', cur', ha, hB', hh, hs, hc⟩⟩ := OA.out
          · omega
          · injection hv' with e1
            rw [ha] at e1
            injection e1 with e1
            injection e1 with e1
            subst e1
            have := Nat.mul_le_mul_right 7 (show j + 1 ≤ code.length from hlt)
            exact ⟨⟨cur'[j * 7 + 6]'(by omega), by simp [World.cell?, hh, show j * 7 + 6 < cur'.size by omega]⟩, by simp [World.frozen?, hh]⟩
        obtain ⟨⟨x6, hx6⟩, hf6⟩ := hf
        have B2 := hideP (BA.out.setCell (p := ⟨g, j * 7 + 6, none⟩) hB (.string t))
        clear OA BA
        go_wp2
        go_roundg (code.length - (j + 1))
        case rel => exact ⟨j + 1, by omega, by go_num, S2.out, B2.out⟩
        case measure => omega
    · have hjn : j = code.length := by omega
      subst hjn
      go_wp2
      go_ret
      exact ⟨_, rfl, ho.out, hb.out⟩
end Go.Proofs.YtelkpikbjfkpcaaGreat
