/- A map from numbers to numbers, as a function of the number. -/
import Derived.Test.YtelkpikbjfkpcaaGreatFldPG
import Derived.Maps.RangeWalk
import Derived.Maps.OwnSet
import Derived.Maps.OwnOps
import Derived.DeepKeys4
import Derived.Test.YtelkpikbjfkpcaaGreatInsA
import Derived.BigQuiet
import Derived.Test.YtelkpikbjfkpcaaGreatRowA
import Derived.Test.YtelkpikbjfkpcaaGreatAliB
import Derived.Laws.Rows
import Derived.Deep.RegionHeld3
import Derived.Deep.CutRange
import Derived.Laws.EntriesVeiled
namespace Go.Proofs.YtelkpikbjfkpcaaGreat
open Go.ChangeShapes Go.WideShapes Go.ChangeAt Go.RowKit Go.Maps
theorem nmLaw : Keyed Tryz.prog 3 := int_keyed Tryz.underlying3
theorem nmKey {s : Int} (h : I64 s) : keyOf Tryz.prog 3 (.int .i64 s) = some (.int .i64 s) := keyOf_int_mk Tryz.underlying3 (WalkArith.wf_i64 h)
theorem nmLit {s : Int} (h : I64 s) : WideAt.IsKeyLit (.int .i64 s) := nmLaw.key (nmKey h)
theorem nmZero (w : World) : (zeroValue 3).run Tryz.prog w = .ok (.int .i64 0) w := by kernel_rfl
theorem nmInv : ∀ key kl, keyOf Tryz.prog 3 key = some kl → ∃ x : Int, key = Value.int .i64 x := fun key kl h => by
  obtain ⟨x, rfl, _, _⟩ := Maps.keyOf_int_inv Tryz.underlying3 h
  exact ⟨x, rfl⟩
theorem nmInvV : ∀ (v : Value) (y : DataW Unit × List MemPlace), plainElem Tryz.prog 3 v = some y → ∃ c : Int, v = Value.int .i64 c := fun v y h => by
  obtain ⟨c, rfl, _⟩ := plainElem_int_inv Tryz.underlying3 h
  exact ⟨c, rfl⟩
theorem nmIs {s : Int} {kl : Lit} (h : keyOf Tryz.prog 3 (.int .i64 s) = some kl) : I64 s ∧ kl = .int .i64 s := by
  obtain ⟨x, e, _, hw⟩ := Maps.keyOf_int_inv Tryz.underlying3 h
  have ex : s = x := by simpa using e
  subst ex
  have hs : I64 s := by
    have := hw
    simp [Lit.wf] at this
    exact this
  exact ⟨hs, Option.some.inj (h.symm.trans (nmKey hs))⟩
theorem nmNe {a b : Int} (h : a ≠ b) : (Lit.int .i64 a : Lit) ≠ .int .i64 b := fun e => h (by simpa using e)
/-- It reads as this function. -/
def ReadsN (D : DataW Unit) (K : Kn) : Prop := ∀ s, I64 s → Maps.has D (.int .i64 s) = (K s).isSome ∧ ∀ u, K s = some u → ∀ z, D.atKey (.int .i64 s) z = .lit (.int .i64 u)
/-- The map in block b is this function; it has n entries at most. -/
def NmAt (w : World) (b n : Nat) (K : Kn) : Prop := (∀ s u, K s = some u → I64 s ∧ I64 u) ∧ ∃ D : DataW Unit, w.ownsMap Tryz.prog 3 (plainElem Tryz.prog 3) b n D ∧ ReadsN D K
section
variable {w w' : World} {b n : Nat} {K K' : Kn}
theorem nmGrow {w w' : World} (h : Below w.heap.size w w') : w.grownBy w' none := ⟨h.os, h.tape, h.output, h.size, fun i hi _ => h.block i hi⟩
theorem nmBut {b : Nat} {w w' : World} (h : w.grownBy w' (some b)) : But b w w' := ⟨h.os, h.tape, h.output, h.size, fun k hk hne => h.block k hk (by simpa using hne)⟩
theorem nmGrB {b : Nat} {w w' : World} (h : But b w w') : w.grownBy w' (some b) := ⟨h.os, h.tape, h.output, h.size, fun k hk hne => h.block k hk (by simpa using hne)⟩
theorem NmAt.made (w : World) : NmAt (w.alloc (.map #[] 0)) w.heap.size 0 (fun _ => none) :=
  ⟨fun _ _ h => (by cases h), _, World.ownsMap_made _ _ _ _, fun s _ => ⟨by simp [Maps.has], fun u h => (by cases h)⟩⟩
theorem NmAt.lt (h : NmAt w b n K) : b < w.heap.size := let ⟨_, _, h1, _⟩ := h; h1.lt
theorem NmAt.kept {row : Option Nat} (h : NmAt w b n K) (hg : w.grownBy w' row) (hne : some b ≠ row) : NmAt w' b n K := let ⟨ok, D, h1, h2⟩ := h; ⟨ok, D, h1.kept hg hne, h2⟩
theorem NmAt.stays (h : NmAt w b n K) (bel : Below w.heap.size w w') : NmAt w' b n K := h.kept (nmGrow bel) (by simp)
theorem NmAt.but {k : Nat} (h : NmAt w b n K) (hb : But k w w') (hne : b ≠ k) : NmAt w' b n K := h.kept (nmGrB hb) (by simpa using hne)
theorem NmAt.blk (h : NmAt w b n K) (hb : w'.heap[b]? = w.heap[b]?) : NmAt w' b n K := let ⟨ok, D, ⟨es, clock, h1, h2⟩, h3⟩ := h; ⟨ok, D, ⟨es, clock, hb.trans h1, h2⟩, h3⟩
theorem NmAt.up {m : Nat} (h : NmAt w b n K) (hm : n ≤ m) : NmAt w b m K := let ⟨ok, D, h1, h2⟩ := h; ⟨ok, D, h1.mono hm, h2⟩
theorem NmAt.ki (h : NmAt w b n K) : KI K := fun s u e => (h.1 s u e).2
theorem NmAt.nocells (h : NmAt w b n K) (c : Array Value) (T : TypeId) (f : Nat × Nat) : w.heap[b]? ≠ some (.cells c T f) := by
  obtain ⟨_, D, ⟨es, clock, h1, _⟩, _⟩ := h
  rw [h1]; simp
/-- A slot that is put. -/
theorem NmAt.puts (h : NmAt w b n K) {s u : Int} (hs : I64 s) (hu : I64 u) : ∃ D : DataW Unit, w.ownsMap Tryz.prog 3 (plainElem Tryz.prog 3) b n D ∧ ∀ W, W.ownsMap Tryz.prog 3 (plainElem Tryz.prog 3) b (n + 1) (D.put (.int .i64 s) (.lit (.int .i64 u))) → NmAt W b (n + 1) (fun z => if z = s then some u else K z) := by
  obtain ⟨ok, D, h1, h2⟩ := h
  refine ⟨D, h1, fun W hW => ⟨fun z v e => ?_, _, hW, fun z hz => ?_⟩⟩
  · by_cases ez : z = s
    · simp only [ez, if_true] at e
      cases e
      exact ez ▸ ⟨hs, hu⟩
    · simp only [if_neg ez] at e
      exact ok z v e
  · by_cases ez : z = s
    · subst ez
      refine ⟨by rw [Maps.has_put_same h1.isMap (nmLit hs)]; simp, fun v e zd => ?_⟩
      simp only [if_true] at e
      cases e
      exact Maps.atKey_put_same h1.isMap (nmLit hs) _ _
    · have hne := nmNe ez
      refine ⟨by rw [Maps.has_put_other hne, (h2 z hz).1]; simp [ez], fun v e zd => ?_⟩
      simp only [if_neg ez] at e
      rw [Maps.atKey_put_other hne]
      exact (h2 z hz).2 v e zd
/-- A slot that goes. -/
theorem NmAt.dels (h : NmAt w b n K) {s : Int} : ∃ D : DataW Unit, w.ownsMap Tryz.prog 3 (plainElem Tryz.prog 3) b n D ∧ ∀ W, W.ownsMap Tryz.prog 3 (plainElem Tryz.prog 3) b n (D.del (.int .i64 s)) → NmAt W b n (fun z => if z = s then none else K z) := by
  obtain ⟨ok, D, h1, h2⟩ := h
  refine ⟨D, h1, fun W hW => ⟨fun z v e => ?_, _, hW, fun z hz => ?_⟩⟩
  · by_cases ez : z = s
    · simp only [ez, if_true] at e
      cases e
    · simp only [if_neg ez] at e
      exact ok z v e
  · by_cases ez : z = s
    · subst ez
      refine ⟨by rw [Maps.has_del_same]; simp, fun v e zd => ?_⟩
      simp only [if_true] at e
      cases e
    · have hne := nmNe ez
      refine ⟨by rw [Maps.has_del_other hne, (h2 z hz).1]; simp [ez], fun v e zd => ?_⟩
      simp only [if_neg ez] at e
      rw [Maps.atKey_del_other hne]
      exact (h2 z hz).2 v e zd
end
section
variable {ops : Array Oper} {rest : List Oper} {o : Oper} {a : Act} {Q : Exit → Act → World → Prop}
/-- A look into it. -/
theorem nm_look (w : World) (hg : o.guard = none) (m x : Operand) (t : TypeId) (hop : o.op = Op.lookup t m x true) (ht : Tryz.prog.underlying t = some (.map 3 3)) (b n : Nat) (K : Kn) (s : Int)
    (hm : a.eval m = .map (some b)) (hx : a.eval x = .int .i64 s) (h : NmAt w b n K) (hs : I64 s)
    (hK : ∀ c : Int, (∀ u, K s = some u → c = u) → wpList Tryz.prog ops Q rest (a.put o.dst (.tuple #[.int .i64 c, .bool (K s).isSome])) w) : wpList Tryz.prog ops Q (o :: rest) a w := by
  obtain ⟨ok, D, h1, h2⟩ := h
  refine wpList_lookup_own_ok_int w hg m x t hop 3 3 .i64 nmLaw ht Tryz.underlying3 (nmZero _) b n D hm h1 _ _ hx (nmKey hs) (fun c hc _ => ?_)
  rw [(h2 s hs).1]
  refine hK c (fun u hu => ?_)
  have := (h2 s hs).2 u hu (.lit (.int .i64 0))
  rw [hc] at this
  cases this
  rfl
/-- One more. -/
theorem nm_put (w : World) (hg : o.guard = none) (m x v : Operand) (t : TypeId) (hop : o.op = Op.mapUpdate t m x v) (ht : Tryz.prog.underlying t = some (.map 3 3)) (b n : Nat) (K : Kn) (s u : Int)
    (hm : a.eval m = .map (some b)) (hx : a.eval x = .int .i64 s) (hv : a.eval v = .int .i64 u) (h : NmAt w b n K) (hs : I64 s) (hu : I64 u) (hn : n < 1000000)
    (hK : ∀ w', NmAt w' b (n + 1) (fun z => if z = s then some u else K z) → But b w w' → wpList Tryz.prog ops Q rest (a.put o.dst undef) w') : wpList Tryz.prog ops Q (o :: rest) a w := by
  obtain ⟨D, h1, h2⟩ := h.puts hs hu
  exact wpList_mapUpdate_in w hg m x v t hop 3 3 nmLaw ht _ b n D hm h1 (by unfold maxLen; omega) _ _ _ hx hv (nmKey hs) _ [] (plainElem_int Tryz.underlying3 (WalkArith.wf_i64 hu)) (fun w' hw' ht' => hK w' (h2 w' hw') (nmBut ht'.grown))
/-- One less. -/
theorem nm_del (w : World) (hg : o.guard = none) (m x : Operand) (t : TypeId) (hop : o.op = Op.call { callee := Callee.builtin Builtin.delete, args := #[m, x], argTypes := #[t, 3] }) (ht : Tryz.prog.underlying t = some (.map 3 3)) (b n : Nat) (K : Kn) (s : Int)
    (hm : a.eval m = .map (some b)) (hx : a.eval x = .int .i64 s) (h : NmAt w b n K) (hs : I64 s)
    (hK : ∀ w', NmAt w' b n (fun z => if z = s then none else K z) → But b w w' → wpList Tryz.prog ops Q rest (a.put o.dst (.tuple #[])) w') : wpList Tryz.prog ops Q (o :: rest) a w := by
  obtain ⟨D, h1, h2⟩ := h.dels (s := s)
  exact wpList_delete_own w hg m x t 3 hop 3 nmLaw ht _ b n D hm h1 _ _ hx (nmKey hs) (fun w' hw' ht' => hK w' (h2 w' hw') (nmBut ht'.grown))
end
end Go.Proofs.YtelkpikbjfkpcaaGreat

/- The contract of impl.Bin. -/
namespace Go.Proofs.YtelkpikbjfkpcaaGreat
open Go.ChangeShapes Go.WideShapes Go.ChangeAt Go.RowKit
set_option maxHeartbeats 1000000 in
theorem implBin_any (s : ByteArray) (a b : Int) (w : World) :
    Calls Tryz.prog 135 #[.string s, .int .i64 a, .int .i64 b] w fun e w' => e = .returned (.int .i64 (binL s.toList a b)) ∧ w' = w := by
  go_enter Tryz.func135, Tryz.ntmps135
  go_wp2
  all_goals first | (simp_all; done) | skip
  all_goals go_ret
  all_goals refine ⟨ret_int ?_, rfl⟩
  all_goals simp only [binL, *, if_true, if_false, Bool.false_eq_true]
  all_goals first | rfl | (rw [if_pos (by omega)]; done) | (rw [if_neg (by omega)]; done) | skip
end Go.Proofs.YtelkpikbjfkpcaaGreat

/- The program's Fold: the contracts of its closures (written by wip/mkfoli.py). -/
namespace Go.Proofs.YtelkpikbjfkpcaaGreat
open Go.ChangeShapes Go.WideShapes Go.ChangeAt Go.RowKit Go.Maps
/-- Two boxes, nothing else. -/
structure Bx2 (w : World) (x y : Array Value) (T : TypeId) (W : World) : Prop where
  bx : W.heap[w.heap.size]? = some (.cells x T (0, 0))
  br : W.heap[w.heap.size + 1]? = some (.cells y T (0, 0))
  bel : Below w.heap.size w W
theorem Bx2.of (w : World) (x y : Array Value) (T : TypeId) : Bx2 w x y T ((w.alloc (.cells x T)).alloc (.cells y T)) :=
  ⟨(bxx2 w _ _).1, (bxx2 w _ _).2.1, ((Below.refl w.heap.size w).alloc (Nat.le_refl _) _).alloc (by simp) _⟩
theorem Bx2.stays {w W W' : World} {x y : Array Value} {T : TypeId} (h : Bx2 w x y T W) (b : Below W.heap.size W W') : Bx2 w x y T W' :=
  ⟨(b.block _ (Array.getElem?_eq_some_iff.1 h.bx).1).trans h.bx, (b.block _ (Array.getElem?_eq_some_iff.1 h.br).1).trans h.br, below_trans h.bel b⟩
theorem Bx2.boxed {w W W' : World} {x x' y : Array Value} {T : TypeId} (h : Bx2 w x y T W) (b : But w.heap.size W W') (hb : W'.heap[w.heap.size]? = some (.cells x' T (0, 0))) : Bx2 w x' y T W' :=
  ⟨hb, keepQ b h.br (by omega), h.bel.trans (b.below (Nat.le_refl _) h.bel.size)⟩
theorem Bx2.butM {w W W' : World} {x y : Array Value} {T : TypeId} {m : Nat} (h : Bx2 w x y T W) (b : But m W W') (hm : m < w.heap.size) : W'.heap[w.heap.size]? = some (.cells x T (0, 0)) ∧ W'.heap[w.heap.size + 1]? = some (.cells y T (0, 0)) ∧ But m w W' :=
  ⟨keepQ b h.bx (by omega), keepQ b h.br (by omega), ⟨b.os.trans h.bel.os, b.tape.trans h.bel.tape, b.output.trans h.bel.output, Nat.le_trans h.bel.size b.size, fun k hk hne => (b.block k (Nat.lt_of_lt_of_le hk h.bel.size) hne).trans (h.bel.block k hk)⟩⟩
theorem some_of {K : Kn} {a c : Int} (h : (K a).isSome = true) (hc : ∀ u, K a = some u → c = u) : K a = some c := by
  obtain ⟨v, hv⟩ := Option.isSome_iff_exists.1 h
  rw [hv, hc v hv]
theorem none_of {K : Kn} {a : Int} (h : (K a).isSome = false) : K a = none := by simpa using h
set_option maxRecDepth 100000 in
set_option maxHeartbeats 8000000 in
theorem folded_any (x : Ins) (K : Kn) (w : World) (m n : Nat) (h : NmAt w m n K) (hx : x.wf) :
    Calls Tryz.prog 105 #[.map (some m), .agg (insV x)] w fun e w' => e = .returned (.agg (insV (foldX K x))) ∧ Below w.heap.size w w' := by
  obtain ⟨op, d, a, b0, c0, nn, t⟩ := x
  obtain ⟨_, _, ia, ib, _, _⟩ := hx
  simp only [insV]
  have b2 := Bx2.of w #[.int .i64 op, .int .i64 d, .int .i64 a, .int .i64 b0, .int .i64 c0, .int .i64 nn, .string t] #[.int .i64 0, .int .i64 0, .int .i64 0, .int .i64 0, .int .i64 0, .int .i64 0, .string ⟨#[]⟩] 56
  obtain ⟨W2, hW2⟩ : ∃ W2, (w.alloc (.cells #[.int .i64 op, .int .i64 d, .int .i64 a, .int .i64 b0, .int .i64 c0, .int .i64 nn, .string t] 56)).alloc (.cells #[.int .i64 0, .int .i64 0, .int .i64 0, .int .i64 0, .int .i64 0, .int .i64 0, .string ⟨#[]⟩] 56) = W2 := ⟨_, rfl⟩
  rw [hW2] at b2
  have S2 := hideP b2
  have HW := hideP hW2
  have NM : NmAt W2 m n K := h.stays b2.bel
  clear b2 hW2 h
  go_enter Tryz.func105, Tryz.ntmps105
  go_upto_region 1 with fail
  rw [HW.out]
  clear HW
  have fc := (cells_of S2.out.bx).1
  have x0 := fc 0
  have x1 := fc 1
  have x2 := fc 2
  have x3 := fc 3
  have x4 := fc 4
  have x5 := fc 5
  have x6 := fc 6
  simp at x0 x1 x2 x3 x4 x5 x6
  clear fc
  have xf := (cells_of S2.out.bx).2
  have fc := (cells_of S2.out.br).1
  have r0 := fc 0
  have r1 := fc 1
  have r2 := fc 2
  have r3 := fc 3
  have r4 := fc 4
  have r5 := fc 5
  have r6 := fc 6
  simp at r0 r1 r2 r3 r4 r5 r6
  clear fc
  have rf := (cells_of S2.out.br).2
  obtain ⟨ka, hka⟩ : ∃ ka, (K a).isSome = ka := ⟨_, rfl⟩
  obtain ⟨kb, hkb⟩ : ∃ kb, (K b0).isSome = kb := ⟨_, rfl⟩
  have HKA := hideP hka
  have HKB := hideP hkb
  go_upto_region 2 with (at_lookup; refine nm_look _ rfl _ _ 130 rfl Tryz.underlying130 m n K a rfl rfl NM ia ?_; intro c1 hc1)
  go_upto_region 3 with (at_lookup; refine nm_look _ rfl _ _ 130 rfl Tryz.underlying130 m n K b0 rfl rfl NM ib ?_; intro c2 hc2)
  have HC1 := hideP hc1
  have HC2 := hideP hc2
  clear hc1 hc2 hka hkb NM
  by_cases h1 : op = 1
  · subst h1
    cases ka with
    | true =>
      have EQ : Hid (foldX K (⟨1, d, a, b0, c0, nn, t⟩ : Ins) = (⟨0, d, 0, 0, 0, c1, ⟨#[]⟩⟩ : Ins)) := by show _ = _; simp [foldX, some_of HKA.out HC1.out]
      obtain ⟨z6, bu⟩ := put7n S2.out.br rfl (.int .i64 0) (.int .i64 d) (.int .i64 0) (.int .i64 0) (.int .i64 0) (.int .i64 c1) (.string ⟨#[]⟩)
      have ZF := hideP z6
      have BU := hideP bu
      clear z6 bu
      go_wp2
      refine bodyPost_ret (results_cell_row rfl _ _ (w.heap.size + 1) 56 #[.int .i64 0, .int .i64 d, .int .i64 0, .int .i64 0, .int .i64 0, .int .i64 c1, .string ⟨#[]⟩] (0, 0) _ rfl ZF.out Tryz.underlying56 rfl (by kernel_rfl)) rfl ?_
      rw [EQ.out]
      exact ⟨rfl, S2.out.bel.trans (BU.out.below (by omega) S2.out.bel.size)⟩
    | false =>
      have EQ : Hid (foldX K (⟨1, d, a, b0, c0, nn, t⟩ : Ins) = (⟨1, d, a, b0, c0, nn, t⟩ : Ins)) := by show _ = _; simp [foldX, none_of HKA.out]
      obtain ⟨z6, bu⟩ := put7n S2.out.br rfl (.int .i64 1) (.int .i64 d) (.int .i64 a) (.int .i64 b0) (.int .i64 c0) (.int .i64 nn) (.string t)
      have ZF := hideP z6
      have BU := hideP bu
      clear z6 bu
      go_wp2
      refine bodyPost_ret (results_cell_row rfl _ _ (w.heap.size + 1) 56 #[.int .i64 1, .int .i64 d, .int .i64 a, .int .i64 b0, .int .i64 c0, .int .i64 nn, .string t] (0, 0) _ rfl ZF.out Tryz.underlying56 rfl (by kernel_rfl)) rfl ?_
      rw [EQ.out]
      exact ⟨rfl, S2.out.bel.trans (BU.out.below (by omega) S2.out.bel.size)⟩
  have h1b : (op == 1) = false := by simpa using h1
  by_cases h2 : op = 2
  · subst h2
    cases ka with
    | false =>
      have EQ : Hid (foldX K (⟨2, d, a, b0, c0, nn, t⟩ : Ins) = (⟨2, d, a, b0, c0, nn, t⟩ : Ins)) := by show _ = _; simp [foldX, none_of HKA.out]
      obtain ⟨z6, bu⟩ := put7n S2.out.br rfl (.int .i64 2) (.int .i64 d) (.int .i64 a) (.int .i64 b0) (.int .i64 c0) (.int .i64 nn) (.string t)
      have ZF := hideP z6
      have BU := hideP bu
      clear z6 bu
      go_wp2
      refine bodyPost_ret (results_cell_row rfl _ _ (w.heap.size + 1) 56 #[.int .i64 2, .int .i64 d, .int .i64 a, .int .i64 b0, .int .i64 c0, .int .i64 nn, .string t] (0, 0) _ rfl ZF.out Tryz.underlying56 rfl (by kernel_rfl)) rfl ?_
      rw [EQ.out]
      exact ⟨rfl, S2.out.bel.trans (BU.out.below (by omega) S2.out.bel.size)⟩
    | true =>
      cases kb with
      | false =>
        have EQ : Hid (foldX K (⟨2, d, a, b0, c0, nn, t⟩ : Ins) = (⟨2, d, a, b0, c0, nn, t⟩ : Ins)) := by show _ = _; simp [foldX, some_of HKA.out HC1.out, none_of HKB.out]
        obtain ⟨z6, bu⟩ := put7n S2.out.br rfl (.int .i64 2) (.int .i64 d) (.int .i64 a) (.int .i64 b0) (.int .i64 c0) (.int .i64 nn) (.string t)
        have ZF := hideP z6
        have BU := hideP bu
        clear z6 bu
        go_wp2
        refine bodyPost_ret (results_cell_row rfl _ _ (w.heap.size + 1) 56 #[.int .i64 2, .int .i64 d, .int .i64 a, .int .i64 b0, .int .i64 c0, .int .i64 nn, .string t] (0, 0) _ rfl ZF.out Tryz.underlying56 rfl (by kernel_rfl)) rfl ?_
        rw [EQ.out]
        exact ⟨rfl, S2.out.bel.trans (BU.out.below (by omega) S2.out.bel.size)⟩
      | true =>
        obtain ⟨BV, hBV⟩ : ∃ BV, binL t.toList c1 c2 = BV := ⟨_, rfl⟩
        have HBV := hideP hBV
        clear hBV
        have EQ : Hid (foldX K (⟨2, d, a, b0, c0, nn, t⟩ : Ins) = (⟨0, d, 0, 0, 0, BV, ⟨#[]⟩⟩ : Ins)) := by show _ = _; rw [← HBV.out]; simp [foldX, some_of HKA.out HC1.out, some_of HKB.out HC2.out]
        have SK : Hid (∀ W' : World, W'.heap[w.heap.size]? = W2.heap[w.heap.size]? → W'.cell? ⟨w.heap.size, 1, none⟩ = some (.int .i64 d) ∧ W'.cell? ⟨w.heap.size, 6, none⟩ = some (.string t)) := fun W' h1 => ⟨(World.cell?_of_block (a := ⟨w.heap.size, 1, none⟩) h1).trans x1, (World.cell?_of_block (a := ⟨w.heap.size, 6, none⟩) h1).trans x6⟩
        have SF : Hid (∀ W' : World, (((((((W2.setCell ⟨w.heap.size + 1, 0, none⟩ (.int .i64 0)).setCell ⟨w.heap.size + 1, 1, none⟩ (.int .i64 d)).setCell ⟨w.heap.size + 1, 2, none⟩ (.int .i64 0)).setCell ⟨w.heap.size + 1, 3, none⟩ (.int .i64 0)).setCell ⟨w.heap.size + 1, 4, none⟩ (.int .i64 0)).setCell ⟨w.heap.size + 1, 5, none⟩ (.int .i64 BV)).setCell ⟨w.heap.size + 1, 6, none⟩ (.string ⟨#[]⟩)).drew = W' → W'.heap[w.heap.size + 1]? = some (.cells #[.int .i64 0, .int .i64 d, .int .i64 0, .int .i64 0, .int .i64 0, .int .i64 BV, .string ⟨#[]⟩] 56 (0, 0)) ∧ But (w.heap.size + 1) W2 W') := fun W' hW' => put7 S2.out.br rfl _ _ _ _ _ _ _ hW'
        have SG : Hid ((((((((W2.setCell ⟨w.heap.size + 1, 0, none⟩ (.int .i64 0)).setCell ⟨w.heap.size + 1, 1, none⟩ (.int .i64 d)).setCell ⟨w.heap.size + 1, 2, none⟩ (.int .i64 0)).setCell ⟨w.heap.size + 1, 3, none⟩ (.int .i64 0)).setCell ⟨w.heap.size + 1, 4, none⟩ (.int .i64 0)).setCell ⟨w.heap.size + 1, 5, none⟩ (.int .i64 BV)).setCell ⟨w.heap.size + 1, 6, none⟩ (.string ⟨#[]⟩)).drew.heap[w.heap.size]? = W2.heap[w.heap.size]?) := (SF.out _ rfl).2.block _ (Array.getElem?_eq_some_iff.1 S2.out.bx).1 (by omega)
        have BI : Hid (∀ W, Calls Tryz.prog 135 #[.string t, .int .i64 c1, .int .i64 c2] W fun e w' => e = .returned (.int .i64 BV) ∧ w' = W) := fun W => by rw [← HBV.out]; exact implBin_any t c1 c2 W
        go_upto_region 6 with fail
        go_region_held3 (fun W' => W'.cell? ⟨w.heap.size, 1, none⟩ = some (.int .i64 d) ∧ W'.cell? ⟨w.heap.size, 6, none⟩ = some (.string t)) (first | with_reducible exact SK.out _ SG.out | with_reducible exact SK.out _ rfl) (first
          | (go_at_call 135; refine (BI.out _).mono ?_; rintro e1 w1 ⟨rfl, rfl⟩))
        obtain ⟨W3, hW3⟩ : ∃ W3, (((((((W2.setCell ⟨w.heap.size + 1, 0, none⟩ (.int .i64 0)).setCell ⟨w.heap.size + 1, 1, none⟩ (.int .i64 d)).setCell ⟨w.heap.size + 1, 2, none⟩ (.int .i64 0)).setCell ⟨w.heap.size + 1, 3, none⟩ (.int .i64 0)).setCell ⟨w.heap.size + 1, 4, none⟩ (.int .i64 0)).setCell ⟨w.heap.size + 1, 5, none⟩ (.int .i64 BV)).setCell ⟨w.heap.size + 1, 6, none⟩ (.string ⟨#[]⟩)).drew = W3 := ⟨_, rfl⟩
        rw [hW3]
        obtain ⟨z6, bq⟩ := SF.out _ hW3
        have ZF := hideP z6
        have BU := hideP bq
        clear hW3 z6 bq SF SG SK BI
        go_wp2
        refine bodyPost_ret (results_cell_row rfl _ _ (w.heap.size + 1) 56 #[.int .i64 0, .int .i64 d, .int .i64 0, .int .i64 0, .int .i64 0, .int .i64 BV, .string ⟨#[]⟩] (0, 0) _ rfl ZF.out Tryz.underlying56 rfl (by kernel_rfl)) rfl ?_
        rw [EQ.out]
        exact ⟨rfl, S2.out.bel.trans (BU.out.below (by omega) S2.out.bel.size)⟩
  have h2b : (op == 2) = false := by simpa using h2
  have EQ : Hid (foldX K (⟨op, d, a, b0, c0, nn, t⟩ : Ins) = (⟨op, d, a, b0, c0, nn, t⟩ : Ins)) := by show _ = _; simp [foldX, h1, h2]
  obtain ⟨z6, bu⟩ := put7n S2.out.br rfl (.int .i64 op) (.int .i64 d) (.int .i64 a) (.int .i64 b0) (.int .i64 c0) (.int .i64 nn) (.string t)
  have ZF := hideP z6
  have BU := hideP bu
  clear z6 bu
  go_wp2
  refine bodyPost_ret (results_cell_row rfl _ _ (w.heap.size + 1) 56 #[.int .i64 op, .int .i64 d, .int .i64 a, .int .i64 b0, .int .i64 c0, .int .i64 nn, .string t] (0, 0) _ rfl ZF.out Tryz.underlying56 rfl (by kernel_rfl)) rfl ?_
  rw [EQ.out]
  exact ⟨rfl, S2.out.bel.trans (BU.out.below (by omega) S2.out.bel.size)⟩
end Go.Proofs.YtelkpikbjfkpcaaGreat

/- The program's Fold: what is begun for each block, its step, its jump (written by wip/mkfolj.py). -/
namespace Go.Proofs.YtelkpikbjfkpcaaGreat
open Go.ChangeShapes Go.WideShapes Go.ChangeAt Go.RowKit Go.Maps
section
variable {ops : Array Oper} {o : Oper} {a : Act} {Q : Exit → Act → World → Prop} {K : Act → World → Prop} {F : Prop}
/-- One less, within a region that draws its order. -/
theorem nm_delS (w : World) (hg : o.guard = none) (m x : Operand) (t : TypeId) (hop : o.op = Op.call { callee := Callee.builtin Builtin.delete, args := #[m, x], argTypes := #[t, 3] }) (ht : Tryz.prog.underlying t = some (.map 3 3)) (b n : Nat) (K0 : Kn) (s : Int)
    (hm : a.eval m = .map (some b)) (hx : a.eval x = .int .i64 s) (h : NmAt w b n K0) (hs : I64 s)
    (hK : ∀ w', NmAt w' b n (fun z => if z = s then none else K0 z) → But b w w' → K (a.put o.dst (.tuple #[])) w') :
    if Region.wanted o (yielded ops a.tmps) = true then Oper.wp Tryz.prog o a w K Q else F := by
  have hw : Region.wanted o (yielded ops a.tmps) = true := by simp [Region.wanted, hg]
  rw [if_pos hw]
  obtain ⟨D, h1, h2⟩ := h.dels (s := s)
  obtain ⟨w', hrun, r1, r2⟩ := h1.drop nmLaw ht (nmKey hs) o.type
  unfold Oper.wp
  simp [execOp, hop, resolve, invoke, builtin, hm, hx, hrun, Result.andThen]
  exact hK w' (h2 w' r1) (nmBut r2.grown)
end
/-- The closures of one block: the variable that the closure has is in block p, its map in block m. -/
structure FgAt (p m n : Nat) (K : Kn) (w : World) : Prop where
  nm : NmAt w m n K
  bp : w.heap[p]? = some (.cells #[.map (some m)] 130 (0, 0))
  no : K (-1) = none
theorem FgAt.ne {p m n : Nat} {K : Kn} {w : World} (h : FgAt p m n K w) : p ≠ m := fun e => h.nm.nocells _ _ _ (e ▸ h.bp)
theorem FgAt.stays {p m n : Nat} {K : Kn} {w w' : World} (h : FgAt p m n K w) (b : Below w.heap.size w w') : FgAt p m n K w' := ⟨h.nm.stays b, (b.block _ (Array.getElem?_eq_some_iff.1 h.bp).1).trans h.bp, h.no⟩
theorem FgAt.blks {p m n : Nat} {K : Kn} {w w' : World} (h : FgAt p m n K w) (h1 : w'.heap[p]? = w.heap[p]?) (h2 : w'.heap[m]? = w.heap[m]?) : FgAt p m n K w' := ⟨h.nm.blk h2, h1.trans h.bp, h.no⟩
theorem set_no {K : Kn} (h : K (-1) = none) {y : Ins} (hd : ¬ (y.op = 4 ∨ y.op = 6) → y.d ≠ -1) : setK K y (-1) = none := by
  unfold setK
  split
  · exact h
  · rename_i e
    simp only
    rw [if_neg (fun e2 => hd e e2.symm)]
    exact h
theorem foldX_d (K : Kn) (x : Ins) : (foldX K x).d = x.d := by
  unfold foldX
  split
  · split <;> rfl
  · split
    · split <;> rfl
    · rfl
theorem foldX_op (K : Kn) (x : Ins) : (foldX K x).op = 4 ∨ (foldX K x).op = 6 ↔ x.op = 4 ∨ x.op = 6 := by
  unfold foldX
  split
  · split <;> simp_all
  · split
    · split <;> simp_all
    · rfl
theorem setK_zero {K : Kn} {y : Ins} (h : y.op = 0) : setK K y = fun z => if z = y.d then some y.n else K z := by
  unfold setK
  rw [if_neg (by omega)]
  funext z
  simp [h]
theorem setK_del {K : Kn} (hn : K (-1) = none) {y : Ins} (h : ¬ y.op = 0) : setK K y = fun z => if z = makesP y then none else K z := by
  unfold setK makesP
  by_cases e : y.op = 4 ∨ y.op = 6
  · rw [if_pos e, if_pos e]
    funext z
    by_cases ez : z = -1
    · rw [ez, hn]; simp
    · simp [ez]
  · rw [if_neg e, if_neg e]
    funext z
    simp [h]
theorem makesP_i64 {y : Ins} (h : y.wf) : I64 (makesP y) := by
  unfold makesP
  split
  · unfold I64; omega
  · exact h.2.1
set_option maxRecDepth 100000 in
set_option maxHeartbeats 8000000 in
theorem fold1_any (x : Ins) (K : Kn) (w : World) (p m n : Nat) (h : FgAt p m n K w) (hx : x.wf ∧ x.t.size ≤ maxLen) (hd : ¬ (x.op = 4 ∨ x.op = 6) → x.d ≠ -1) (hn : n < 1000000) :
    Calls Tryz.prog 104 #[.agg (insV x), .pointer (some ⟨p, 0, none⟩)] w fun e w' => e = .returned (.agg (insV (foldX K x))) ∧ FgAt p m (n + 1) (setK K (foldX K x)) w' ∧ But m w w' := by
  have hy := h.nm.ki.fold hx
  have hno := set_no h.no (y := foldX K x) (fun e => by rw [foldX_d]; exact hd (fun e2 => e ((foldX_op K x).2 e2)))
  have CF : Hid (∀ W, NmAt W m n K → Calls Tryz.prog 105 #[.map (some m), .agg (insV x)] W fun e w' => e = .returned (.agg (insV (foldX K x))) ∧ Below W.heap.size W w') := fun W hW => folded_any x K W m n hW hx.1
  obtain ⟨y, hyy⟩ : ∃ y, foldX K x = y := ⟨_, rfl⟩
  rw [hyy] at hy hno CF ⊢
  have MK : Hid (∀ W, Calls Tryz.prog 106 #[.agg (insV y)] W fun e w' => e = .returned (.int .i64 (makesP y)) ∧ Below W.heap.size W w') := fun W => impl_makes y W 0 (insV y) ⟨rfl, hy⟩
  have HY := hideP hy
  have HNO := hideP hno
  have HK0 := hideP h.no
  have hmp := makesP_i64 hy.1
  have hlt := h.nm.lt
  have hpl := (Array.getElem?_eq_some_iff.1 h.bp).1
  have hne := h.ne
  have SZ : Hid (y.op = 0 → setK K y = fun z => if z = y.d then some y.n else K z) := fun e => setK_zero e
  have SD : Hid (¬ y.op = 0 → setK K y = fun z => if z = makesP y then none else K z) := fun e => setK_del h.no e
  clear hyy hno
  obtain ⟨op, d, a, b0, c0, nn, t⟩ := x
  obtain ⟨yo, yd, ya, yb, yc, yn, yt⟩ := y
  simp only [insV] at CF MK ⊢
  simp only at SZ SD
  obtain ⟨mk, hmk⟩ : ∃ mk, makesP (⟨yo, yd, ya, yb, yc, yn, yt⟩ : Ins) = mk := ⟨_, rfl⟩
  rw [hmk] at MK SD hmp
  clear hmk
  have b2 := Bx2.of w #[.int .i64 op, .int .i64 d, .int .i64 a, .int .i64 b0, .int .i64 c0, .int .i64 nn, .string t] #[.int .i64 0, .int .i64 0, .int .i64 0, .int .i64 0, .int .i64 0, .int .i64 0, .string ⟨#[]⟩] 56
  obtain ⟨W2, hW2⟩ : ∃ W2, (w.alloc (.cells #[.int .i64 op, .int .i64 d, .int .i64 a, .int .i64 b0, .int .i64 c0, .int .i64 nn, .string t] 56)).alloc (.cells #[.int .i64 0, .int .i64 0, .int .i64 0, .int .i64 0, .int .i64 0, .int .i64 0, .string ⟨#[]⟩] 56) = W2 := ⟨_, rfl⟩
  rw [hW2] at b2
  have S2 := hideP b2
  have F2 := hideP (h.stays b2.bel)
  have HW := hideP hW2
  clear b2 hW2 h hx hd hy
  go_enter Tryz.func104, Tryz.ntmps104
  go_upto_region 1 with fail
  rw [HW.out]
  clear HW
  have p0 := (cells_of F2.out.bp).1 0
  simp at p0
  have fc := (cells_of S2.out.bx).1
  have x0 := fc 0
  have x1 := fc 1
  have x2 := fc 2
  have x3 := fc 3
  have x4 := fc 4
  have x5 := fc 5
  have x6 := fc 6
  simp at x0 x1 x2 x3 x4 x5 x6
  clear fc
  go_wp2_with fail
  refine (CF.out _ F2.out.nm).mono ?_
  rintro e3 w3 ⟨rfl, bel3⟩
  have S3 := hideP (S2.out.stays bel3)
  have F3 := hideP (F2.out.stays bel3)
  clear bel3 S2 F2 CF p0 x0 x1 x2 x3 x4 x5 x6
  have fc := (cells_of S3.out.bx).1
  have x0 := fc 0
  have x1 := fc 1
  have x2 := fc 2
  have x3 := fc 3
  have x4 := fc 4
  have x5 := fc 5
  have x6 := fc 6
  simp at x0 x1 x2 x3 x4 x5 x6
  clear fc
  have xf := (cells_of S3.out.bx).2
  obtain ⟨z6, bu⟩ := put7n S3.out.bx rfl (.int .i64 yo) (.int .i64 yd) (.int .i64 ya) (.int .i64 yb) (.int .i64 yc) (.int .i64 yn) (.string yt)
  go_upto_region 2 with fail
  obtain ⟨W4, hW4⟩ : ∃ W4, (((((((w3.setCell ⟨w.heap.size, 0, none⟩ (.int .i64 yo)).setCell ⟨w.heap.size, 1, none⟩ (.int .i64 yd)).setCell ⟨w.heap.size, 2, none⟩ (.int .i64 ya)).setCell ⟨w.heap.size, 3, none⟩ (.int .i64 yb)).setCell ⟨w.heap.size, 4, none⟩ (.int .i64 yc)).setCell ⟨w.heap.size, 5, none⟩ (.int .i64 yn)).setCell ⟨w.heap.size, 6, none⟩ (.string yt)) = W4 := ⟨_, rfl⟩
  rw [hW4] at z6 bu ⊢
  have S4 := hideP (S3.out.boxed bu z6)
  have F4 : Hid (FgAt p m n K W4) := F3.out.blks (bu.block p (Array.getElem?_eq_some_iff.1 F3.out.bp).1 (by omega)) (bu.block m F3.out.nm.lt (by omega))
  clear hW4 z6 bu S3 F3 xf x0 x1 x2 x3 x4 x5 x6
  have p0 := (cells_of F4.out.bp).1 0
  simp at p0
  have fc := (cells_of S4.out.bx).1
  have x0 := fc 0
  have x1 := fc 1
  have x2 := fc 2
  have x3 := fc 3
  have x4 := fc 4
  have x5 := fc 5
  have x6 := fc 6
  simp at x0 x1 x2 x3 x4 x5 x6
  clear fc
  have xf := (cells_of S4.out.bx).2
  by_cases h0 : yo = 0
  · subst h0
    have NM := F4.out.nm
    go_upto_region 5 with (at_mapUpdate; refine nm_put _ rfl _ _ _ 130 rfl Tryz.underlying130 m n K yd yn rfl rfl rfl NM HY.out.1.2.1 HY.out.1.2.2.2.2.2 hn ?_; intro w5 n5 b5)
    obtain ⟨X5, R5, B5⟩ := S4.out.butM b5 hlt
    have N6 : Hid (NmAt w5 m (n + 1) (setK K (⟨0, yd, ya, yb, yc, yn, yt⟩ : Ins))) := by
      show NmAt _ _ _ _
      rw [SZ.out rfl]
      exact n5
    have X6 := hideP X5
    have R6 := hideP R5
    have B6 := hideP B5
    have P6 := hideP (keepQ b5 F4.out.bp hne)
    clear n5 b5 X5 R5 B5 S4 F4 NM p0 xf x0 x1 x2 x3 x4 x5 x6
    have fc := (cells_of X6.out).1
    have f0 := fc 0
    have f1 := fc 1
    have f2 := fc 2
    have f3 := fc 3
    have f4 := fc 4
    have f5 := fc 5
    have f6 := fc 6
    simp at f0 f1 f2 f3 f4 f5 f6
    clear fc
    have fc := (cells_of R6.out).1
    have r0 := fc 0
    have r1 := fc 1
    have r2 := fc 2
    have r3 := fc 3
    have r4 := fc 4
    have r5 := fc 5
    have r6 := fc 6
    simp at r0 r1 r2 r3 r4 r5 r6
    clear fc
    have rf := (cells_of R6.out).2
    obtain ⟨z6, bu⟩ := put7n R6.out rfl (.int .i64 0) (.int .i64 yd) (.int .i64 ya) (.int .i64 yb) (.int .i64 yc) (.int .i64 yn) (.string yt)
    have ZF := hideP z6
    have BU := hideP bu
    clear z6 bu
    go_wp2
    refine bodyPost_ret (results_cell_row rfl _ _ (w.heap.size + 1) 56 #[.int .i64 0, .int .i64 yd, .int .i64 ya, .int .i64 yb, .int .i64 yc, .int .i64 yn, .string yt] (0, 0) _ rfl ZF.out Tryz.underlying56 rfl (by kernel_rfl)) rfl ?_
    refine ⟨rfl, ⟨?_, keepQ BU.out P6.out (by omega), HNO.out⟩, ?_⟩
    · exact (N6.out.but BU.out (by omega))
    · exact ⟨BU.out.os.trans B6.out.os, BU.out.tape.trans B6.out.tape, BU.out.output.trans B6.out.output, Nat.le_trans B6.out.size BU.out.size, fun k hk hne => (BU.out.block k (Nat.lt_of_lt_of_le hk B6.out.size) (by omega)).trans (B6.out.block k hk hne)⟩
  have h0b : (yo == 0) = false := by simpa using h0
  have SK : Hid (∀ W' : World, W'.heap[p]? = W4.heap[p]? → W'.heap[w.heap.size]? = W4.heap[w.heap.size]? → W'.cell? ⟨p, 0, none⟩ = some (.map (some m)) ∧ W'.cell? ⟨w.heap.size, 0, none⟩ = some (.int .i64 yo) ∧ W'.cell? ⟨w.heap.size, 1, none⟩ = some (.int .i64 yd) ∧ W'.cell? ⟨w.heap.size, 2, none⟩ = some (.int .i64 ya) ∧ W'.cell? ⟨w.heap.size, 3, none⟩ = some (.int .i64 yb) ∧ W'.cell? ⟨w.heap.size, 4, none⟩ = some (.int .i64 yc) ∧ W'.cell? ⟨w.heap.size, 5, none⟩ = some (.int .i64 yn) ∧ W'.cell? ⟨w.heap.size, 6, none⟩ = some (.string yt)) := fun W' h1 h2 => ⟨(World.cell?_of_block (a := ⟨p, 0, none⟩) h1).trans p0, (World.cell?_of_block (a := ⟨w.heap.size, 0, none⟩) h2).trans x0, (World.cell?_of_block (a := ⟨w.heap.size, 1, none⟩) h2).trans x1, (World.cell?_of_block (a := ⟨w.heap.size, 2, none⟩) h2).trans x2, (World.cell?_of_block (a := ⟨w.heap.size, 3, none⟩) h2).trans x3, (World.cell?_of_block (a := ⟨w.heap.size, 4, none⟩) h2).trans x4, (World.cell?_of_block (a := ⟨w.heap.size, 5, none⟩) h2).trans x5, (World.cell?_of_block (a := ⟨w.heap.size, 6, none⟩) h2).trans x6⟩
  have FIN : Hid (∀ W5 W6, Below W4.heap.size W4 W5 → NmAt W6 m n (fun z => if z = mk then none else K z) → But m W5 W6 → NmAt W6 m (n + 1) (setK K (⟨yo, yd, ya, yb, yc, yn, yt⟩ : Ins)) ∧ W6.heap[w.heap.size]? = W4.heap[w.heap.size]? ∧ W6.heap[w.heap.size + 1]? = some (.cells #[.int .i64 0, .int .i64 0, .int .i64 0, .int .i64 0, .int .i64 0, .int .i64 0, .string ⟨#[]⟩] 56 (0, 0)) ∧ W6.heap[p]? = W4.heap[p]? ∧ But m w W6) := fun W5 W6 h1 h2 h3 => by
    have S5 := S4.out.stays h1
    obtain ⟨X5, R5, B5⟩ := S5.butM h3 hlt
    have hz4 := S4.out.bel.size
    have hz5 := h1.size
    refine ⟨?_, X5.trans S4.out.bx.symm, R5, (h3.block p (by omega) hne).trans (h1.block p (by omega)), B5⟩
    rw [SD.out h0]
    exact h2.up (Nat.le_succ _)
  have NX : Hid (∀ W, Below W4.heap.size W4 W → NmAt W m n K) := fun W hW => F4.out.nm.stays hW
  go_upto_region 4 with fail
  have hp4 := (Array.getElem?_eq_some_iff.1 F4.out.bp).1
  have hx4 := (Array.getElem?_eq_some_iff.1 S4.out.bx).1
  go_region_held3 (fun W' => W'.cell? ⟨p, 0, none⟩ = some (.map (some m)) ∧ W'.cell? ⟨w.heap.size, 0, none⟩ = some (.int .i64 yo) ∧ W'.cell? ⟨w.heap.size, 1, none⟩ = some (.int .i64 yd) ∧ W'.cell? ⟨w.heap.size, 2, none⟩ = some (.int .i64 ya) ∧ W'.cell? ⟨w.heap.size, 3, none⟩ = some (.int .i64 yb) ∧ W'.cell? ⟨w.heap.size, 4, none⟩ = some (.int .i64 yc) ∧ W'.cell? ⟨w.heap.size, 5, none⟩ = some (.int .i64 yn) ∧ W'.cell? ⟨w.heap.size, 6, none⟩ = some (.string yt)) (first | with_reducible exact SK.out _ rfl rfl | with_reducible exact SK.out _ G6.out.2.2.2.1 G6.out.2.1 | with_reducible exact SK.out _ (HB5.out.block _ hp4) (HB5.out.block _ hx4)) (first
    | (go_at_call 106; refine (MK.out _).mono ?_; rintro e5 w5 ⟨rfl, bel5⟩; have HB5 := hideP ((Below.refl W4.heap.size W4).drew.trans (bel5.mono (Nat.le_refl _))); clear bel5)
    | (refine nm_delS _ rfl _ _ 130 rfl Tryz.underlying130 m n K mk rfl rfl (NX.out _ HB5.out) hmp ?_; intro w6 n6 b6; have G6 := hideP (FIN.out _ _ HB5.out n6 b6); clear n6 b6))
  have N6 := hideP G6.out.1
  have X6 := hideP (G6.out.2.1.trans S4.out.bx)
  have R6 := hideP G6.out.2.2.1
  have P6 := hideP (G6.out.2.2.2.1.trans F4.out.bp)
  have B6 := hideP G6.out.2.2.2.2
  clear G6 HB5 FIN NX SK SD SZ S4 F4 p0 xf x0 x1 x2 x3 x4 x5 x6 hp4 hx4
  have fc := (cells_of X6.out).1
  have f0 := fc 0
  have f1 := fc 1
  have f2 := fc 2
  have f3 := fc 3
  have f4 := fc 4
  have f5 := fc 5
  have f6 := fc 6
  simp at f0 f1 f2 f3 f4 f5 f6
  clear fc
  have fc := (cells_of R6.out).1
  have r0 := fc 0
  have r1 := fc 1
  have r2 := fc 2
  have r3 := fc 3
  have r4 := fc 4
  have r5 := fc 5
  have r6 := fc 6
  simp at r0 r1 r2 r3 r4 r5 r6
  clear fc
  have rf := (cells_of R6.out).2
  obtain ⟨z6, bu⟩ := put7n R6.out rfl (.int .i64 yo) (.int .i64 yd) (.int .i64 ya) (.int .i64 yb) (.int .i64 yc) (.int .i64 yn) (.string yt)
  have ZF := hideP z6
  have BU := hideP bu
  clear z6 bu
  go_wp2
  refine bodyPost_ret (results_cell_row rfl _ _ (w.heap.size + 1) 56 #[.int .i64 yo, .int .i64 yd, .int .i64 ya, .int .i64 yb, .int .i64 yc, .int .i64 yn, .string yt] (0, 0) _ rfl ZF.out Tryz.underlying56 rfl (by kernel_rfl)) rfl ?_
  refine ⟨rfl, ⟨?_, keepQ BU.out P6.out (by omega), HNO.out⟩, ?_⟩
  · exact (N6.out.but BU.out (by omega))
  · exact ⟨BU.out.os.trans B6.out.os, BU.out.tape.trans B6.out.tape, BU.out.output.trans B6.out.output, Nat.le_trans B6.out.size BU.out.size, fun k hk hne => (BU.out.block k (Nat.lt_of_lt_of_le hk B6.out.size) (by omega)).trans (B6.out.block k hk hne)⟩
end Go.Proofs.YtelkpikbjfkpcaaGreat

/- The program's Fold: a block's jump, what is begun for each block (written by wip/mkfolk.py). -/
namespace Go.Proofs.YtelkpikbjfkpcaaGreat
open Go.ChangeShapes Go.WideShapes Go.ChangeAt Go.RowKit Go.Maps
theorem arr5 (c : Array Value) (hc : c.size = 5) (v0 v1 v2 v3 v4 : Value) : ((((c.setIfInBounds 0 v0).setIfInBounds 1 v1).setIfInBounds 2 v2).setIfInBounds 3 v3).setIfInBounds 4 v4 = #[v0, v1, v2, v3, v4] := by
  match c, hc with
  | ⟨[_, _, _, _, _]⟩, _ => rfl
theorem put5n {W : World} {b : Nat} {c : Array Value} {T : TypeId} (h : W.heap[b]? = some (.cells c T (0, 0))) (hc : c.size = 5) (v0 v1 v2 v3 v4 : Value) : (((((W.setCell ⟨b, 0, none⟩ v0).setCell ⟨b, 1, none⟩ v1).setCell ⟨b, 2, none⟩ v2).setCell ⟨b, 3, none⟩ v3).setCell ⟨b, 4, none⟩ v4).heap[b]? = some (.cells #[v0, v1, v2, v3, v4] T (0, 0)) ∧ But b W (((((W.setCell ⟨b, 0, none⟩ v0).setCell ⟨b, 1, none⟩ v1).setCell ⟨b, 2, none⟩ v2).setCell ⟨b, 3, none⟩ v3).setCell ⟨b, 4, none⟩ v4) := by
  have z0 := heap_setCell_same W b 0 c T v0 h
  have z1 := heap_setCell_same _ b 1 _ T v1 z0
  have z2 := heap_setCell_same _ b 2 _ T v2 z1
  have z3 := heap_setCell_same _ b 3 _ T v3 z2
  have z4 := heap_setCell_same _ b 4 _ T v4 z3
  refine ⟨z4.trans ?_, ((((But.refl b W).set 0 v0).set 1 v1).set 2 v2).set 3 v3 |>.set 4 v4⟩
  rw [arr5 c hc]
/-- A block's jump behind its steps. -/
def foldJ (K : Kn) (b : Blk) : Blk := if b.jump = 1 then match K b.a with
    | some v => ⟨[], 0, 0, if v = 0 then b.els else b.to, 0⟩
    | none => b
  else b
theorem foldB_J (b : Blk) : foldB b = { foldJ (foldUp b.code).1 b with code := (foldUp b.code).2 } := by
  unfold foldB foldJ
  by_cases h : b.jump = 1
  · rw [if_pos h, if_pos h]
    cases (foldUp b.code).1 b.a <;> rfl
  · rw [if_neg h, if_neg h]
/-- It is told as these numbers, behind some list. -/
def JumpD (b : Blk) (w : World) (e : Ending) (w' : World) : Prop := ∃ ad n c, e = .returned (.agg #[.slice ad n c, .int .i64 b.jump, .int .i64 b.a, .int .i64 b.to, .int .i64 b.els]) ∧ Below w.heap.size w w'
theorem newB1 (w : World) (o : Obj) : (w.alloc o).heap[w.heap.size]? = some o := by show (w.heap.push o)[w.heap.size]? = _; exact Array.getElem?_push_size
set_option maxHeartbeats 4000000 in
theorem goTo_any (t0 : Int) (w : World) : Calls Tryz.prog 136 #[.int .i64 t0] w fun e w' => e = .returned (.agg #[.slice none 0 0, .int .i64 0, .int .i64 0, .int .i64 t0, .int .i64 0]) ∧ Below w.heap.size w w' := by
  have nb := newB1 w (.cells #[.slice none 0 0, .int .i64 0, .int .i64 0, .int .i64 0, .int .i64 0] 51)
  have al := (Below.refl w.heap.size w).alloc (Nat.le_refl _) (.cells #[.slice none 0 0, .int .i64 0, .int .i64 0, .int .i64 0, .int .i64 0] 51)
  obtain ⟨W1, hW1⟩ : ∃ W1, w.alloc (.cells #[.slice none 0 0, .int .i64 0, .int .i64 0, .int .i64 0, .int .i64 0] 51) = W1 := ⟨_, rfl⟩
  rw [hW1] at nb al
  have HW := hideP hW1
  have AL := hideP al
  obtain ⟨z4, bu⟩ := put5n nb rfl (.slice none 0 0) (.int .i64 0) (.int .i64 0) (.int .i64 t0) (.int .i64 0)
  have ZF := hideP z4
  have BU := hideP bu
  have rf := (cells_of nb).2
  have fc := (cells_of nb).1
  have r0 := fc 0
  have r1 := fc 1
  have r2 := fc 2
  have r3 := fc 3
  have r4 := fc 4
  simp at r0 r1 r2 r3 r4
  clear fc
  clear nb al hW1 z4 bu
  go_enter Tryz.func136, Tryz.ntmps136
  go_upto_region 1 with fail
  rw [HW.out]
  clear HW
  go_wp2
  refine bodyPost_ret (results_cell_row rfl _ _ w.heap.size 51 #[.slice none 0 0, .int .i64 0, .int .i64 0, .int .i64 t0, .int .i64 0] (0, 0) _ rfl ZF.out Tryz.underlying51 rfl (by kernel_rfl)) rfl ?_
  exact ⟨rfl, AL.out.trans (BU.out.below (Nat.le_refl _) AL.out.size)⟩
set_option maxRecDepth 100000 in
set_option maxHeartbeats 8000000 in
theorem jumpF_any (code : List Ins) (jump a t0 els : Int) (K : Kn) (w : World) (m n nc kc : Nat) (uc : Option Addr) (h : NmAt w m n K) (ia : I64 a) :
    Calls Tryz.prog 107 #[.map (some m), .agg #[.slice uc nc kc, .int .i64 jump, .int .i64 a, .int .i64 t0, .int .i64 els]] w fun e w' => JumpD (foldJ K ⟨code, jump, a, t0, els⟩) w e w' := by
  have b2 := Bx2.of w #[.slice uc nc kc, .int .i64 jump, .int .i64 a, .int .i64 t0, .int .i64 els] #[.slice none 0 0, .int .i64 0, .int .i64 0, .int .i64 0, .int .i64 0] 51
  obtain ⟨W2, hW2⟩ : ∃ W2, (w.alloc (.cells #[.slice uc nc kc, .int .i64 jump, .int .i64 a, .int .i64 t0, .int .i64 els] 51)).alloc (.cells #[.slice none 0 0, .int .i64 0, .int .i64 0, .int .i64 0, .int .i64 0] 51) = W2 := ⟨_, rfl⟩
  rw [hW2] at b2
  have S2 := hideP b2
  have HW := hideP hW2
  have NM : NmAt W2 m n K := h.stays b2.bel
  clear b2 hW2 h
  go_enter Tryz.func107, Tryz.ntmps107
  go_upto_region 1 with fail
  rw [HW.out]
  clear HW
  have fc := (cells_of S2.out.bx).1
  have x0 := fc 0
  have x1 := fc 1
  have x2 := fc 2
  have x3 := fc 3
  have x4 := fc 4
  simp at x0 x1 x2 x3 x4
  clear fc
  have fc := (cells_of S2.out.br).1
  have r0 := fc 0
  have r1 := fc 1
  have r2 := fc 2
  have r3 := fc 3
  have r4 := fc 4
  simp at r0 r1 r2 r3 r4
  clear fc
  have rf := (cells_of S2.out.br).2
  obtain ⟨ka, hka⟩ : ∃ ka, (K a).isSome = ka := ⟨_, rfl⟩
  have HKA := hideP hka
  go_upto_region 2 with (at_lookup; refine nm_look _ rfl _ _ 130 rfl Tryz.underlying130 m n K a rfl rfl NM ia ?_; intro c1 hc1)
  have HC1 := hideP hc1
  clear hc1 hka NM
  by_cases h1 : jump = 1
  · cases ka with
    | false =>
      subst h1
      have EQ : Hid (foldJ K (⟨code, 1, a, t0, els⟩ : Blk) = ⟨code, 1, a, t0, els⟩) := by show _ = _; simp [foldJ, none_of HKA.out]
      obtain ⟨z4, bu⟩ := put5n S2.out.br rfl (.slice uc nc kc) (.int .i64 1) (.int .i64 a) (.int .i64 t0) (.int .i64 els)
      have ZF := hideP z4
      have BU := hideP bu
      clear z4 bu
      go_wp2
      refine bodyPost_ret (results_cell_row rfl _ _ (w.heap.size + 1) 51 #[.slice uc nc kc, .int .i64 1, .int .i64 a, .int .i64 t0, .int .i64 els] (0, 0) _ rfl ZF.out Tryz.underlying51 rfl (by kernel_rfl)) rfl ?_
      rw [EQ.out]
      exact ⟨_, _, _, rfl, S2.out.bel.trans (BU.out.below (by omega) S2.out.bel.size)⟩
    | true =>
      subst h1
      by_cases hz : c1 = 0
      · subst hz
        have EQ : Hid (foldJ K (⟨code, 1, a, t0, els⟩ : Blk) = ⟨[], 0, 0, els, 0⟩) := by show _ = _; simp [foldJ, some_of HKA.out HC1.out]
        have GT := hideP (goTo_any els W2)
        go_wp2_with fail
        refine GT.out.mono ?_
        rintro e3 w3 ⟨rfl, bel3⟩
        have S3 := hideP (S2.out.stays bel3)
        clear bel3 S2 GT x0 x1 x2 x3 x4 r0 r1 r2 r3 r4 rf
        have fc := (cells_of S3.out.br).1
        have r0 := fc 0
        have r1 := fc 1
        have r2 := fc 2
        have r3 := fc 3
        have r4 := fc 4
        simp at r0 r1 r2 r3 r4
        clear fc
        have rf := (cells_of S3.out.br).2
        obtain ⟨z4, bu⟩ := put5n S3.out.br rfl (.slice none 0 0) (.int .i64 0) (.int .i64 0) (.int .i64 els) (.int .i64 0)
        have ZF := hideP z4
        have BU := hideP bu
        clear z4 bu
        go_wp2
        refine bodyPost_ret (results_cell_row rfl _ _ (w.heap.size + 1) 51 #[.slice none 0 0, .int .i64 0, .int .i64 0, .int .i64 els, .int .i64 0] (0, 0) _ rfl ZF.out Tryz.underlying51 rfl (by kernel_rfl)) rfl ?_
        rw [EQ.out]
        exact ⟨_, _, _, rfl, S3.out.bel.trans (BU.out.below (by omega) S3.out.bel.size)⟩
      · have hzb : (c1 == 0) = false := by simpa using hz
        have EQ : Hid (foldJ K (⟨code, 1, a, t0, els⟩ : Blk) = ⟨[], 0, 0, t0, 0⟩) := by show _ = _; simp [foldJ, some_of HKA.out HC1.out, hz]
        have GT := hideP (goTo_any t0 W2)
        go_wp2_with fail
        refine GT.out.mono ?_
        rintro e3 w3 ⟨rfl, bel3⟩
        have S3 := hideP (S2.out.stays bel3)
        clear bel3 S2 GT x0 x1 x2 x3 x4 r0 r1 r2 r3 r4 rf
        have fc := (cells_of S3.out.br).1
        have r0 := fc 0
        have r1 := fc 1
        have r2 := fc 2
        have r3 := fc 3
        have r4 := fc 4
        simp at r0 r1 r2 r3 r4
        clear fc
        have rf := (cells_of S3.out.br).2
        obtain ⟨z4, bu⟩ := put5n S3.out.br rfl (.slice none 0 0) (.int .i64 0) (.int .i64 0) (.int .i64 t0) (.int .i64 0)
        have ZF := hideP z4
        have BU := hideP bu
        clear z4 bu
        go_wp2
        refine bodyPost_ret (results_cell_row rfl _ _ (w.heap.size + 1) 51 #[.slice none 0 0, .int .i64 0, .int .i64 0, .int .i64 t0, .int .i64 0] (0, 0) _ rfl ZF.out Tryz.underlying51 rfl (by kernel_rfl)) rfl ?_
        rw [EQ.out]
        exact ⟨_, _, _, rfl, S3.out.bel.trans (BU.out.below (by omega) S3.out.bel.size)⟩
  · have h1b : (jump == 1) = false := by simpa using h1
    have EQ : Hid (foldJ K (⟨code, jump, a, t0, els⟩ : Blk) = ⟨code, jump, a, t0, els⟩) := by show _ = _; simp [foldJ, h1]
    obtain ⟨z4, bu⟩ := put5n S2.out.br rfl (.slice uc nc kc) (.int .i64 jump) (.int .i64 a) (.int .i64 t0) (.int .i64 els)
    have ZF := hideP z4
    have BU := hideP bu
    clear z4 bu
    go_wp2
    refine bodyPost_ret (results_cell_row rfl _ _ (w.heap.size + 1) 51 #[.slice uc nc kc, .int .i64 jump, .int .i64 a, .int .i64 t0, .int .i64 els] (0, 0) _ rfl ZF.out Tryz.underlying51 rfl (by kernel_rfl)) rfl ?_
    rw [EQ.out]
    exact ⟨_, _, _, rfl, S2.out.bel.trans (BU.out.below (by omega) S2.out.bel.size)⟩
set_option maxRecDepth 100000 in
set_option maxHeartbeats 8000000 in
theorem folding_any (w : World) : Calls Tryz.prog 58 #[] w fun e w' => ∃ p m, e = .returned (.agg #[.func (.func 104) #[] #[.pointer (some ⟨p, 0, none⟩)], .func (.func 107) #[.map (some m)] #[]]) ∧ FgAt p m 0 (fun _ => none) w' ∧ w.heap.size ≤ p ∧ w.heap.size ≤ m ∧ p < w'.heap.size ∧ m < w'.heap.size ∧ Below w.heap.size w w' := by
  have hmm := @run_makeMap Tryz.prog
  have al1 := (Below.refl w.heap.size w).alloc (Nat.le_refl _) (.cells #[.nilFunc, .nilFunc] 124)
  have al2 := (Below.refl (w.alloc (.cells #[.nilFunc, .nilFunc] 124)).heap.size (w.alloc (.cells #[.nilFunc, .nilFunc] 124))).alloc (Nat.le_refl _) (.map #[] 0)
  have al3 := (Below.refl ((w.alloc (.cells #[.nilFunc, .nilFunc] 124)).alloc (.map #[] 0)).heap.size ((w.alloc (.cells #[.nilFunc, .nilFunc] 124)).alloc (.map #[] 0))).alloc (Nat.le_refl _) (.cells #[.map (some (w.heap.size + 1))] 130)
  have e1 : (w.alloc (.cells #[.nilFunc, .nilFunc] 124)).heap.size = w.heap.size + 1 := by simp
  have e2 : ((w.alloc (.cells #[.nilFunc, .nilFunc] 124)).alloc (.map #[] 0)).heap.size = w.heap.size + 1 + 1 := by simp
  have n1 := (al3.block w.heap.size (by omega)).trans ((al2.block w.heap.size (by omega)).trans (newB1 w (.cells #[.nilFunc, .nilFunc] 124)))
  have n2 := (NmAt.made (w.alloc (.cells #[.nilFunc, .nilFunc] 124))).stays al3
  have n3 := newB1 ((w.alloc (.cells #[.nilFunc, .nilFunc] 124)).alloc (.map #[] 0)) (.cells #[.map (some (w.heap.size + 1))] 130)
  have bel := below_trans (below_trans al1 al2) al3
  rw [e1] at n2
  rw [e2] at n3
  obtain ⟨W3, hW3⟩ : ∃ W3, ((w.alloc (.cells #[.nilFunc, .nilFunc] 124)).alloc (.map #[] 0)).alloc (.cells #[.map (some (w.heap.size + 1))] 130) = W3 := ⟨_, rfl⟩
  rw [hW3] at n1 n2 n3 bel
  have HW := hideP hW3
  have N2 := hideP n2
  have N3 := hideP n3
  have BEL := hideP bel
  have q0 := (cells_of n3).1 0
  have r0 := (cells_of n1).1 0
  have r1 := (cells_of n1).1 1
  have rf := (cells_of n1).2
  simp at q0 r0 r1
  have z0 := heap_setCell_same W3 w.heap.size 0 _ _ (.func (.func 104) #[] #[.pointer (some ⟨w.heap.size + 1 + 1, 0, none⟩)]) n1
  have z1 : ((W3.setCell ⟨w.heap.size, 0, none⟩ (.func (.func 104) #[] #[.pointer (some ⟨w.heap.size + 1 + 1, 0, none⟩)])).setCell ⟨w.heap.size, 1, none⟩ (.func (.func 107) #[.map (some (w.heap.size + 1))] #[])).heap[w.heap.size]? = some (.cells #[.func (.func 104) #[] #[.pointer (some ⟨w.heap.size + 1 + 1, 0, none⟩)], .func (.func 107) #[.map (some (w.heap.size + 1))] #[]] 124 (0, 0)) := heap_setCell_same _ w.heap.size 1 _ _ (.func (.func 107) #[.map (some (w.heap.size + 1))] #[]) z0
  have ZF := hideP z1
  have BU : Hid (But w.heap.size W3 ((W3.setCell ⟨w.heap.size, 0, none⟩ (.func (.func 104) #[] #[.pointer (some ⟨w.heap.size + 1 + 1, 0, none⟩)])).setCell ⟨w.heap.size, 1, none⟩ (.func (.func 107) #[.map (some (w.heap.size + 1))] #[]))) := ((But.refl w.heap.size W3).set 0 _).set 1 _
  clear al1 al2 al3 e1 e2 n1 n2 n3 bel hW3 z0 z1
  go_enter Tryz.func58, Tryz.ntmps58
  go_upto_region 2 with fail
  rw [HW.out]
  clear HW
  go_wp2
  refine bodyPost_ret (results_cell_row rfl _ _ w.heap.size 124 #[.func (.func 104) #[] #[.pointer (some ⟨w.heap.size + 1 + 1, 0, none⟩)], .func (.func 107) #[.map (some (w.heap.size + 1))] #[]] (0, 0) _ rfl ZF.out Tryz.underlying124 rfl (by kernel_rfl)) rfl ?_
  have hs3 := N2.out.lt
  have hs4 := (Array.getElem?_eq_some_iff.1 N3.out).1
  have hsb := BU.out.size
  exact ⟨w.heap.size + 1 + 1, w.heap.size + 1, rfl, ⟨N2.out.but BU.out (by omega), keepQ BU.out N3.out (by omega), rfl⟩, by omega, by omega, by omega, by omega, BEL.out.trans (BU.out.below (Nat.le_refl _) BEL.out.size)⟩
end Go.Proofs.YtelkpikbjfkpcaaGreat
