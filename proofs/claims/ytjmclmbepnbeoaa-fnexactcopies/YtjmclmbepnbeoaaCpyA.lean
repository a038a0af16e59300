/- A map from numbers to numbers, as a function of the number. -/
import Derived.Test.YtjmclmbepnbeoaaFldPG
import Derived.Test.YtjmclmbepnbeoaaAliB
import Derived.Maps.RangeWalk
import Derived.Maps.OwnSet
import Derived.Maps.OwnOps
import Derived.DeepKeys4
import Derived.Test.YtjmclmbepnbeoaaFgB
import Derived.Test.YtjmclmbepnbeoaaChAll
import Derived.Laws.EntriesVeiled
namespace Go.Proofs.Ytjmclmbepnbeoaa
open Go.ChangeShapes Go.WideShapes Go.ChangeAt Go.RowKit Go.Maps
theorem nmLaw : Keyed Try.prog 3 := int_keyed Try.underlying3
theorem nmKey {s : Int} (h : I64 s) : keyOf Try.prog 3 (.int .i64 s) = some (.int .i64 s) := keyOf_int_mk Try.underlying3 (WalkArith.wf_i64 h)
theorem nmLit {s : Int} (h : I64 s) : WideAt.IsKeyLit (.int .i64 s) := nmLaw.key (nmKey h)
theorem nmZero (w : World) : (zeroValue 3).run Try.prog w = .ok (.int .i64 0) w := by kernel_rfl
theorem nmInv : ∀ key kl, keyOf Try.prog 3 key = some kl → ∃ x : Int, key = Value.int .i64 x := fun key kl h => by
  obtain ⟨x, rfl, _, _⟩ := Maps.keyOf_int_inv Try.underlying3 h
  exact ⟨x, rfl⟩
theorem nmInvV : ∀ (v : Value) (y : DataW Unit × List MemPlace), plainElem Try.prog 3 v = some y → ∃ c : Int, v = Value.int .i64 c := fun v y h => by
  obtain ⟨c, rfl, _⟩ := plainElem_int_inv Try.underlying3 h
  exact ⟨c, rfl⟩
theorem nmIs {s : Int} {kl : Lit} (h : keyOf Try.prog 3 (.int .i64 s) = some kl) : I64 s ∧ kl = .int .i64 s := by
  obtain ⟨x, e, _, hw⟩ := Maps.keyOf_int_inv Try.underlying3 h
  have ex : s = x := by simpa using e
  subst ex
  have hs : I64 s := by
    have := hw
    simp [Lit.wf] at this
    exact this
  exact ⟨hs, Option.some.inj (h.symm.trans (nmKey hs))⟩
theorem nmNe {a b : Int} (h : a ≠ b) : (Lit.int .i64 a : Lit) ≠ .int .i64 b := fun e => h (by simpa using e)
/-- It reads as this function. -/
def ReadsN (D : DataW Unit) (K : Kn) : Prop := ∀ s, I64 s → Maps.has D (.int .i64 s) = (K s).isSome ∧ ∀ u, K s = some u → ∀ z, D.atKey (.int .i64 s) z = .lit (.int .i64 u)
/-- The map in block b is this function; it has n entries at most. -/
def NmAt (w : World) (b n : Nat) (K : Kn) : Prop := (∀ s u, K s = some u → I64 s ∧ I64 u) ∧ ∃ D : DataW Unit, w.ownsMap Try.prog 3 (plainElem Try.prog 3) b n D ∧ ReadsN D K
section
variable {w w' : World} {b n : Nat} {K K' : Kn}
theorem nmGrow {w w' : World} (h : Below w.heap.size w w') : w.grownBy w' none := ⟨h.os, h.tape, h.output, h.size, fun i hi _ => h.block i hi⟩
theorem nmBut {b : Nat} {w w' : World} (h : w.grownBy w' (some b)) : But b w w' := ⟨h.os, h.tape, h.output, h.size, fun k hk hne => h.block k hk (by simpa using hne)⟩
theorem nmGrB {b : Nat} {w w' : World} (h : But b w w') : w.grownBy w' (some b) := ⟨h.os, h.tape, h.output, h.size, fun k hk hne => h.block k hk (by simpa using hne)⟩
theorem NmAt.made (w : World) : NmAt (w.alloc (.map #[] 0)) w.heap.size 0 (fun _ => none) :=
  ⟨fun _ _ h => (by cases h), _, World.ownsMap_made _ _ _ _, fun s _ => ⟨by simp [Maps.has], fun u h => (by cases h)⟩⟩
theorem NmAt.lt (h : NmAt w b n K) : b < w.heap.size := let ⟨_, _, h1, _⟩ := h; h1.lt
theorem NmAt.kept {row : Option Nat} (h : NmAt w b n K) (hg : w.grownBy w' row) (hne : some b ≠ row) : NmAt w' b n K := let ⟨ok, D, h1, h2⟩ := h; ⟨ok, D, h1.kept hg hne, h2⟩
theorem NmAt.stays (h : NmAt w b n K) (bel : Below w.heap.size w w') : NmAt w' b n K := h.kept (nmGrow bel) (by simp)
theorem NmAt.but {k : Nat} (h : NmAt w b n K) (hb : But k w w') (hne : b ≠ k) : NmAt w' b n K := h.kept (nmGrB hb) (by simpa using hne)
theorem NmAt.blk (h : NmAt w b n K) (hb : w'.heap[b]? = w.heap[b]?) : NmAt w' b n K := let ⟨ok, D, ⟨es, clock, h1, h2⟩, h3⟩ := h; ⟨ok, D, ⟨es, clock, hb.trans h1, h2⟩, h3⟩
theorem NmAt.up {m : Nat} (h : NmAt w b n K) (hm : n ≤ m) : NmAt w b m K := let ⟨ok, D, h1, h2⟩ := h; ⟨ok, D, h1.mono hm, h2⟩
theorem NmAt.ki (h : NmAt w b n K) : KI K := fun s u e => (h.1 s u e).2
theorem NmAt.nocells (h : NmAt w b n K) (c : Array Value) (T : TypeId) (f : Nat × Nat) : w.heap[b]? ≠ some (.cells c T f) := by
  obtain ⟨_, D, ⟨es, clock, h1, _⟩, _⟩ := h
  rw [h1]; simp
/-- A slot that is put. -/
theorem NmAt.puts (h : NmAt w b n K) {s u : Int} (hs : I64 s) (hu : I64 u) : ∃ D : DataW Unit, w.ownsMap Try.prog 3 (plainElem Try.prog 3) b n D ∧ ∀ W, W.ownsMap Try.prog 3 (plainElem Try.prog 3) b (n + 1) (D.put (.int .i64 s) (.lit (.int .i64 u))) → NmAt W b (n + 1) (fun z => if z = s then some u else K z) := by
  obtain ⟨ok, D, h1, h2⟩ := h
  refine ⟨D, h1, fun W hW => ⟨fun z v e => ?_, _, hW, fun z hz => ?_⟩⟩
  · by_cases ez : z = s
    · simp only [ez, if_true] at e
      cases e
      exact ez ▸ ⟨hs, hu⟩
    · simp only [if_neg ez] at e
      exact ok z v e
  · by_cases ez : z = s
    · subst ez
      refine ⟨by rw [Maps.has_put_same h1.isMap (nmLit hs)]; simp, fun v e zd => ?_⟩
      simp only [if_true] at e
      cases e
      exact Maps.atKey_put_same h1.isMap (nmLit hs) _ _
    · have hne := nmNe ez
      refine ⟨by rw [Maps.has_put_other hne, (h2 z hz).1]; simp [ez], fun v e zd => ?_⟩
      simp only [if_neg ez] at e
      rw [Maps.atKey_put_other hne]
      exact (h2 z hz).2 v e zd
/-- A slot that goes. -/
theorem NmAt.dels (h : NmAt w b n K) {s : Int} : ∃ D : DataW Unit, w.ownsMap Try.prog 3 (plainElem Try.prog 3) b n D ∧ ∀ W, W.ownsMap Try.prog 3 (plainElem Try.prog 3) b n (D.del (.int .i64 s)) → NmAt W b n (fun z => if z = s then none else K z) := by
  obtain ⟨ok, D, h1, h2⟩ := h
  refine ⟨D, h1, fun W hW => ⟨fun z v e => ?_, _, hW, fun z hz => ?_⟩⟩
  · by_cases ez : z = s
    · simp only [ez, if_true] at e
      cases e
    · simp only [if_neg ez] at e
      exact ok z v e
  · by_cases ez : z = s
    · subst ez
      refine ⟨by rw [Maps.has_del_same]; simp, fun v e zd => ?_⟩
      simp only [if_true] at e
      cases e
    · have hne := nmNe ez
      refine ⟨by rw [Maps.has_del_other hne, (h2 z hz).1]; simp [ez], fun v e zd => ?_⟩
      simp only [if_neg ez] at e
      rw [Maps.atKey_del_other hne]
      exact (h2 z hz).2 v e zd
end
section
variable {ops : Array Oper} {rest : List Oper} {o : Oper} {a : Act} {Q : Exit → Act → World → Prop}
/-- A look into it. -/
theorem nm_look (w : World) (hg : o.guard = none) (m x : Operand) (t : TypeId) (hop : o.op = Op.lookup t m x true) (ht : Try.prog.underlying t = some (.map 3 3)) (b n : Nat) (K : Kn) (s : Int)
    (hm : a.eval m = .map (some b)) (hx : a.eval x = .int .i64 s) (h : NmAt w b n K) (hs : I64 s)
    (hK : ∀ c : Int, (∀ u, K s = some u → c = u) → wpList Try.prog ops Q rest (a.put o.dst (.tuple #[.int .i64 c, .bool (K s).isSome])) w) : wpList Try.prog ops Q (o :: rest) a w := by
  obtain ⟨ok, D, h1, h2⟩ := h
  refine wpList_lookup_own_ok_int w hg m x t hop 3 3 .i64 nmLaw ht Try.underlying3 (nmZero _) b n D hm h1 _ _ hx (nmKey hs) (fun c hc _ => ?_)
  rw [(h2 s hs).1]
  refine hK c (fun u hu => ?_)
  have := (h2 s hs).2 u hu (.lit (.int .i64 0))
  rw [hc] at this
  cases this
  rfl
/-- One more. -/
theorem nm_put (w : World) (hg : o.guard = none) (m x v : Operand) (t : TypeId) (hop : o.op = Op.mapUpdate t m x v) (ht : Try.prog.underlying t = some (.map 3 3)) (b n : Nat) (K : Kn) (s u : Int)
    (hm : a.eval m = .map (some b)) (hx : a.eval x = .int .i64 s) (hv : a.eval v = .int .i64 u) (h : NmAt w b n K) (hs : I64 s) (hu : I64 u) (hn : n < 1000000)
    (hK : ∀ w', NmAt w' b (n + 1) (fun z => if z = s then some u else K z) → But b w w' → wpList Try.prog ops Q rest (a.put o.dst undef) w') : wpList Try.prog ops Q (o :: rest) a w := by
  obtain ⟨D, h1, h2⟩ := h.puts hs hu
  exact wpList_mapUpdate_in w hg m x v t hop 3 3 nmLaw ht _ b n D hm h1 (by unfold maxLen; omega) _ _ _ hx hv (nmKey hs) _ [] (plainElem_int Try.underlying3 (WalkArith.wf_i64 hu)) (fun w' hw' ht' => hK w' (h2 w' hw') (nmBut ht'.grown))
/-- One less. -/
theorem nm_del (w : World) (hg : o.guard = none) (m x : Operand) (t : TypeId) (hop : o.op = Op.call { callee := Callee.builtin Builtin.delete, args := #[m, x], argTypes := #[t, 3] }) (ht : Try.prog.underlying t = some (.map 3 3)) (b n : Nat) (K : Kn) (s : Int)
    (hm : a.eval m = .map (some b)) (hx : a.eval x = .int .i64 s) (h : NmAt w b n K) (hs : I64 s)
    (hK : ∀ w', NmAt w' b n (fun z => if z = s then none else K z) → But b w w' → wpList Try.prog ops Q rest (a.put o.dst (.tuple #[])) w') : wpList Try.prog ops Q (o :: rest) a w := by
  obtain ⟨D, h1, h2⟩ := h.dels (s := s)
  exact wpList_delete_own w hg m x t 3 hop 3 nmLaw ht _ b n D hm h1 _ _ hx (nmKey hs) (fun w' hw' ht' => hK w' (h2 w' hw') (nmBut ht'.grown))
end
theorem makesP_i64 {y : Ins} (h : y.wf) : I64 (makesP y) := by
  unfold makesP
  split
  · unfold I64; omega
  · exact h.2.1
end Go.Proofs.Ytjmclmbepnbeoaa

/- The program's Copies: the contract of maps.DeleteFunc at its map, of (impl.sources).source. -/
namespace Go.Proofs.Ytjmclmbepnbeoaa
open Go.ChangeShapes Go.WideShapes Go.ChangeAt Go.RowKit Go.Maps
/-- Of a range that deletes what has this value: those that stay, and those that have not come yet. -/
def kpN (md : Int) (left : Lit → Bool) (K : Kn) : Kn := fun s => match K s with
  | some u => if u ≠ md ∨ left (.int .i64 s) = true then some u else none
  | none => none
theorem kpN_start {md : Int} {D : DataW Unit} {K : Kn} (ok : ∀ s u, K s = some u → I64 s ∧ I64 u) (h : ReadsN D K) : kpN md (Maps.has D) K = K := by
  funext s
  unfold kpN
  cases e : K s with
  | none => rfl
  | some u =>
    have h1 := (h s (ok s u e).1).1
    rw [e] at h1
    simp [h1]
theorem kpN_end {md : Int} {left : Lit → Bool} {K : Kn} (h : ∀ kl, left kl = false) : kpN md left K = fun s => if K s = some md then none else K s := by
  funext s
  unfold kpN
  cases e : K s with
  | none => simp
  | some u =>
    by_cases hu : u = md
    · simp [h, hu]
    · simp [h, hu]
theorem kpN_stay {md : Int} {left : Lit → Bool} {K : Kn} {x c : Int} (hx : K x = some c) (hc : c ≠ md) : kpN md (fun z => left z && !z.sameKey (.int .i64 x)) K = kpN md left K := by
  funext s
  unfold kpN
  cases e : K s with
  | none => rfl
  | some u =>
    by_cases es : s = x
    · subst es
      rw [hx] at e
      cases e
      simp [hc]
    · have hs : (Lit.int .i64 s).sameKey (.int .i64 x) = false := by
        cases h2 : (Lit.int .i64 s).sameKey (.int .i64 x)
        · rfl
        · exact absurd (WideAt.sameKey_eq h2) (nmNe es)
      simp [hs]
theorem kpN_strike {md : Int} {left : Lit → Bool} {K : Kn} {D : DataW Unit} {x : Int} (hi : I64 x) (h : ReadsN D (kpN md left K)) (hx : K x = some md) : ReadsN (D.del (.int .i64 x)) (kpN md (fun z => left z && !z.sameKey (.int .i64 x)) K) := by
  intro s hs
  by_cases es : s = x
  · subst es
    have hsk : (Lit.int .i64 s).sameKey (.int .i64 s) = true := WideAt.sameKey_self (nmLit hs)
    have e0 : kpN md (fun z => left z && !z.sameKey (.int .i64 s)) K s = none := by
      unfold kpN
      rw [hx]
      simp [hsk]
    rw [e0, Maps.has_del_same]
    exact ⟨rfl, fun u e => (by cases e)⟩
  · have hs2 : (Lit.int .i64 s).sameKey (.int .i64 x) = false := by
      cases h2 : (Lit.int .i64 s).sameKey (.int .i64 x)
      · rfl
      · exact absurd (WideAt.sameKey_eq h2) (nmNe es)
    have e0 : kpN md (fun z => left z && !z.sameKey (.int .i64 x)) K s = kpN md left K s := by
      unfold kpN
      cases K s <;> simp [hs2]
    rw [e0, Maps.has_del_other (nmNe es)]
    refine ⟨(h s hs).1, fun u e z => ?_⟩
    rw [Maps.atKey_del_other (nmNe es)]
    exact (h s hs).2 u e z
theorem kpN_some {md : Int} {left : Lit → Bool} {K : Kn} {x c : Int} (h : kpN md left K x = some c) : K x = some c := by
  unfold kpN at h
  cases e : K x with
  | none => rw [e] at h; cases h
  | some u =>
    rw [e] at h
    simp only at h
    split at h
    · exact h
    · cases h
/-- The entry that has come. -/
theorem kpN_entry {md : Int} {left : Lit → Bool} {K : Kn} {D : DataW Unit} (h : ReadsN D (kpN md left K)) {x c : Int} {kl : Lit} {y : DataW Unit × List MemPlace} (hkey : keyOf Try.prog 3 (.int .i64 x) = some kl) (hv : plainElem Try.prog 3 (.int .i64 c) = some y) (hat : ∀ zd, D.atKey kl zd = y.1) : I64 x ∧ kl = .int .i64 x ∧ K x = some c := by
  obtain ⟨hx, rfl⟩ := nmIs hkey
  obtain ⟨c', e', rfl, _⟩ := plainElem_int_inv Try.underlying3 hv
  have ec : c = c' := by simpa using e'
  subst ec
  have hh := (h x hx).1
  rw [has_true_of_atKey hat] at hh
  obtain ⟨u, hu⟩ := Option.isSome_iff_exists.1 hh.symm
  have h2 := (h x hx).2 u hu (.lit (.int .i64 0))
  rw [hat] at h2
  cases h2
  exact ⟨hx, rfl, kpN_some hu⟩
set_option maxHeartbeats 4000000 in
theorem del1_any (key val md : Int) (w : World) (c : Nat) (h : w.heap[c]? = some (.cells #[.int .i64 md] 3 (0, 0))) :
    Calls Try.prog 111 #[.int .i64 key, .int .i64 val, .pointer (some ⟨c, 0, none⟩)] w fun e w' => e = .returned (.bool (val == md)) ∧ w' = w := by
  have c0 := (cells_of h).1 0
  simp at c0
  go_enter Try.func111, Try.ntmps111
  go_wp2
  go_ret
  exact ⟨rfl, rfl⟩
set_option maxRecDepth 100000 in
set_option maxHeartbeats 8000000 in
theorem delFunc_any (K : Kn) (md : Int) (w : World) (b n c : Nat) (h : NmAt w b n K) (hc : w.heap[c]? = some (.cells #[.int .i64 md] 3 (0, 0))) :
    Calls Try.prog 110 #[.map (some b), .func (.func 111) #[] #[.pointer (some ⟨c, 0, none⟩)]] w fun e w' => e = .returned (.tuple #[]) ∧ NmAt w' b n (fun s => if K s = some md then none else K s) ∧ But b w w' := by
  have hcb : c ≠ b := fun e => h.nocells _ _ _ (e ▸ hc)
  obtain ⟨ok, D, hown, hrd⟩ := h
  have OK := hideP ok
  have HR := hideP hrd
  have HC := hideP hc
  have hcl := (Array.getElem?_eq_some_iff.1 hc).1
  have hb0 := hown.lt
  have C1 : Hid (∀ (x v : Int) W, W.heap[c]? = some (.cells #[.int .i64 md] 3 (0, 0)) → Calls Try.prog 111 #[.int .i64 x, .int .i64 v, .pointer (some ⟨c, 0, none⟩)] W fun e w' => e = .returned (.bool (v == md)) ∧ w' = W) := fun x v W hW => del1_any x v md W c hW
  clear ok hrd hc
  go_enter Try.func110, Try.ntmps110
  go_wp2_with (first
    | (at_range; refine wpList_range_own _ rfl _ 97 rfl 3 3 nmLaw Try.underlying97 _ b n _ rfl hown ?_; intro w0 hrg0 hg0 hs0)
    | go_in)
  go_frame
  go_loopw [8] (fun _ wr => ∃ (left : Lit → Bool) (cnt : Nat) (D' : DataW Unit), wr.ranges Try.prog 3 (plainElem Try.prog 3) b w.heap.size n D' left cnt ∧ Hid (ReadsN D' (kpN md left K)) ∧ w.grownBy wr (some b) ∧ Hid (wr.heap[c]? = some (.cells #[.int .i64 md] 3 (0, 0)))) (fun _ wr => wr.rangeLeft b w.heap.size)
  case atStart => exact ⟨_, _, _, hrg0, by rw [kpN_start OK.out HR.out]; exact HR.out, hg0.but _, (hg0.block _ hcl (by simp)).trans HC.out⟩
  case round =>
    obtain ⟨left, cnt, D', hrg, hrd, hgw, hcx⟩ := hrel
    clear hrg0 hg0 hs0 hown
    go_wp2_with (first
      | (at_next; refine wpList_next_ranges _ rfl _ rfl 3 nmLaw _ (fun x : Int => Value.int .i64 x) (fun c : Int => Value.int .i64 c) nmInv nmInvV b w.heap.size n _ _ _ rfl hrg ?_ ?_)
      | go_in)
    · intro _ hl0
      have E : Hid (kpN md left K = fun s => if K s = some md then none else K s) := kpN_end hl0
      go_wp2
      go_end0
      refine ⟨rfl, ⟨fun s u e => ?_, _, hrg.owns, by rw [← E.out]; exact hrd.out⟩, nmBut hgw⟩
      by_cases hs : K s = some md
      · simp [hs] at e
      · exact OK.out s u (by simpa [hs] using e)
    · intro x v kl y yp w1 cnt1 hkey hlk hv hat hrg1 hlt hg1 hs1 hen
      obtain ⟨hx, rfl, hKx⟩ := kpN_entry (y := (y, yp)) hrd.out hkey hv hat
      have hgw1 := hgw.andThen hg1 (fun j hj => by cases hj; exact Or.inl (Nat.le_refl _))
      have HXI := hideP hx
      have HKX := hideP hKx
      have hcx1 := (hg1.block c (Array.getElem?_eq_some_iff.1 hcx.out).1 (by simp; omega)).trans hcx.out
      have HCX := hideP hcx1
      have CX := hideP (C1.out x v w1 hcx1)
      clear hx hKx hv hat hcx hcx1
      go_upto_region 3 with fail
      obtain ⟨kl, hkl⟩ : ∃ kl, Lit.int .i64 x = kl := ⟨_, rfl⟩
      rw [hkl] at hkey hlk hrg1
      have HKL := hideP hkl
      clear hkl hen
      by_cases hvm : v = md
      · subst hvm
        go_wp2_with (first
          | (go_at_call 111; refine CX.out.mono ?_; rintro e5 w5 ⟨rfl, rfl⟩)
          | (at_delete; refine wpList_delete_ranges _ rfl _ _ 97 3 rfl 3 nmLaw Try.underlying97 _ b w.heap.size n _ _ _ rfl hrg1 _ _ rfl hkey ?_; intro w2 cnt2 hrg2 hle hturn; go_frame)
          | go_in)
        rw [strike_twice] at hrg2
        go_roundw
        case rel =>
          refine ⟨_, cnt2, _, hrg2, ?_, hgw1.andThen hturn.grown (fun j hj => by cases hj; exact Or.inr rfl), ?_⟩
          · rw [← HKL.out]
            exact kpN_strike HXI.out hrd.out HKX.out
          · exact (hturn.grown.block _ (Array.getElem?_eq_some_iff.1 HCX.out).1 (by simp; omega)).trans HCX.out
        case measure => rw [hrg2.left_eq, hrg.left_eq]; omega
      · have hvb : (v == md) = false := by simpa using hvm
        go_wp2_with (first
          | (go_at_call 111; refine CX.out.mono ?_; rintro e5 w5 ⟨rfl, rfl⟩)
          | go_in)
        go_roundw
        case rel =>
          refine ⟨_, cnt1, _, hrg1, ?_, hgw1, HCX.out⟩
          rw [← HKL.out]
          have e := kpN_stay (left := left) HKX.out hvm
          show ReadsN _ (kpN md (fun z => left z && !z.sameKey (.int .i64 x)) K)
          rw [e]
          exact hrd.out
        case measure => rw [hrg1.left_eq, hrg.left_eq]; exact hlt
end Go.Proofs.Ytjmclmbepnbeoaa

/- The program's Copies: slots told as what they are copies of, and what is a copy behind a step (written by wip/mkcpyi.py). -/
namespace Go.Proofs.Ytjmclmbepnbeoaa
open Go.ChangeShapes Go.WideShapes Go.ChangeAt Go.RowKit Go.Maps
/-- Of which slot each one is a copy. -/
def ofK (K : Kn) : Int → Int := fun s => (K s).getD s
/-- Behind a step that is told so. -/
def mdK (K : Kn) (y : Ins) : Kn := if y.op = 4 ∨ y.op = 6 ∨ (y.op = 1 ∧ y.a = y.d) then K else fun s => if s = y.d then (if y.op = 1 then some y.a else none) else if K s = some y.d then none else K s
def copK (K : Kn) (x : Ins) : Kn × Ins := (mdK K (useX (ofK K) x), useX (ofK K) x)
def copJ (K : Kn) (b : Blk) : Blk := if b.jump = 0 then b else { b with a := ofK K b.a }
/-- The closures of one block. -/
structure SrAt (p m n : Nat) (K : Kn) (w : World) : Prop where
  nm : NmAt w m n K
  bp : w.heap[p]? = some (.cells #[.map (some m)] 97 (0, 0))
  no : (∀ s, s < 0 → K s = none) ∧ ∀ s u, K s = some u → 0 ≤ u
theorem SrAt.ne {p m n : Nat} {K : Kn} {w : World} (h : SrAt p m n K w) : p ≠ m := fun e => h.nm.nocells _ _ _ (e ▸ h.bp)
theorem SrAt.stays {p m n : Nat} {K : Kn} {w w' : World} (h : SrAt p m n K w) (b : Below w.heap.size w w') : SrAt p m n K w' := ⟨h.nm.stays b, (b.block _ (Array.getElem?_eq_some_iff.1 h.bp).1).trans h.bp, h.no⟩
theorem SrAt.blks {p m n : Nat} {K : Kn} {w w' : World} (h : SrAt p m n K w) (h1 : w'.heap[p]? = w.heap[p]?) (h2 : w'.heap[m]? = w.heap[m]?) : SrAt p m n K w' := ⟨h.nm.blk h2, h1.trans h.bp, h.no⟩
theorem ofK_neg {K : Kn} (h : ∀ s, s < 0 → K s = none) {s : Int} (hs : s < 0) : ofK K s = s := by unfold ofK; rw [h s hs]; rfl
theorem ofK_i64 {K : Kn} (h : ∀ s u, K s = some u → I64 s ∧ I64 u) {s : Int} (hs : I64 s) : I64 (ofK K s) := by
  unfold ofK
  cases e : K s with
  | none => exact hs
  | some u => exact (h s u e).2
theorem ofK_pos {K : Kn} (h : ∀ s u, K s = some u → 0 ≤ u) {s : Int} (hs : 0 ≤ s) : 0 ≤ ofK K s := by
  unfold ofK
  cases e : K s with
  | none => exact hs
  | some u => exact h s u e
set_option maxHeartbeats 4000000 in
theorem source_any (K : Kn) (s : Int) (w : World) (m n : Nat) (h : NmAt w m n K) (hs : I64 s) :
    Calls Try.prog 72 #[.map (some m), .int .i64 s] w fun e w' => e = .returned (.int .i64 (ofK K s)) ∧ w' = w := by
  obtain ⟨ks, hks⟩ : ∃ ks, (K s).isSome = ks := ⟨_, rfl⟩
  have HKS := hideP hks
  go_enter Try.func72, Try.ntmps72
  go_upto_region 2 with (at_lookup; refine nm_look _ rfl _ _ 97 rfl Try.underlying97 m n K s rfl rfl h hs ?_; intro c1 hc1)
  have HC1 := hideP hc1
  clear hc1 hks
  cases ks with
  | true =>
    have EQ : Hid (ofK K s = c1) := by show _ = _; unfold ofK; rw [some_of HKS.out HC1.out]; rfl
    go_wp2
    go_ret
    exact ⟨by rw [EQ.out]; rfl, rfl⟩
  | false =>
    have EQ : Hid (ofK K s = s) := by show _ = _; unfold ofK; rw [none_of HKS.out]; rfl
    go_wp2
    go_ret
    exact ⟨by rw [EQ.out]; rfl, rfl⟩
set_option maxRecDepth 100000 in
set_option maxHeartbeats 8000000 in
theorem withUses_any (x : Ins) (K : Kn) (w : World) (m n : Nat) (h : NmAt w m n K) (hno : ∀ s, s < 0 → K s = none) (hx : x.wf) :
    Calls Try.prog 71 #[.agg (insV x), .func (.func 72) #[.map (some m)] #[]] w fun e w' => e = .returned (.agg (insV (useX (ofK K) x))) ∧ Below w.heap.size w w' := by
  obtain ⟨op, d, a, b0, c0, nn, t⟩ := x
  obtain ⟨_, _, ia, ib, ic, _⟩ := hx
  simp only at ia ib ic
  simp only [insV]
  have b2 := Bx2.of w #[.int .i64 op, .int .i64 d, .int .i64 a, .int .i64 b0, .int .i64 c0, .int .i64 nn, .string t] #[.int .i64 0, .int .i64 0, .int .i64 0, .int .i64 0, .int .i64 0, .int .i64 0, .string ⟨#[]⟩] 48
  obtain ⟨W2, hW2⟩ : ∃ W2, (w.alloc (.cells #[.int .i64 op, .int .i64 d, .int .i64 a, .int .i64 b0, .int .i64 c0, .int .i64 nn, .string t] 48)).alloc (.cells #[.int .i64 0, .int .i64 0, .int .i64 0, .int .i64 0, .int .i64 0, .int .i64 0, .string ⟨#[]⟩] 48) = W2 := ⟨_, rfl⟩
  rw [hW2] at b2
  have S2 := hideP b2
  have HW := hideP hW2
  have NM := hideP (h.stays b2.bel)
  have hml := h.lt
  have SR : Hid (∀ W s, NmAt W m n K → I64 s → Calls Try.prog 72 #[.map (some m), .int .i64 s] W fun e w' => e = .returned (.int .i64 (ofK K s)) ∧ w' = W) := fun W s hW hs => source_any K s W m n hW hs
  have HNO := hideP hno
  have aneg : Hid (¬ 0 ≤ a → ofK K a = a) := fun ha => ofK_neg hno (by omega)
  obtain ⟨oa, hoa⟩ : ∃ oa, ofK K a = oa := ⟨_, rfl⟩
  obtain ⟨ob, hob⟩ : ∃ ob, ofK K b0 = ob := ⟨_, rfl⟩
  obtain ⟨oc, hoc⟩ : ∃ oc, ofK K c0 = oc := ⟨_, rfl⟩
  have SA : Hid (∀ W, NmAt W m n K → Calls Try.prog 72 #[.map (some m), .int .i64 a] W fun e w' => e = .returned (.int .i64 oa) ∧ w' = W) := fun W hW => by rw [← hoa]; exact SR.out W a hW ia
  have SB : Hid (∀ W, NmAt W m n K → Calls Try.prog 72 #[.map (some m), .int .i64 b0] W fun e w' => e = .returned (.int .i64 ob) ∧ w' = W) := fun W hW => by rw [← hob]; exact SR.out W b0 hW ib
  have SC : Hid (∀ W, NmAt W m n K → Calls Try.prog 72 #[.map (some m), .int .i64 c0] W fun e w' => e = .returned (.int .i64 oc) ∧ w' = W) := fun W hW => by rw [← hoc]; exact SR.out W c0 hW ic
  have HOA := hideP hoa
  have HOB := hideP hob
  have HOC := hideP hoc
  have AN : Hid ((if 0 ≤ a then oa else a) = oa) := by
    show _ = _
    by_cases ha : 0 ≤ a
    · rw [if_pos ha]
    · rw [if_neg ha, ← hoa]; exact (aneg.out ha).symm
  clear b2 hW2 h hno SR aneg hoa hob hoc
  go_enter Try.func71, Try.ntmps71
  go_upto_region 1 with fail
  rw [HW.out]
  clear HW
  by_cases h4 : op = 4
  · subst h4
    have EQ : Hid (useX (ofK K) (⟨4, d, a, b0, c0, nn, t⟩ : Ins) = (⟨4, d, oa, ob, oc, nn, t⟩ : Ins)) := by show _ = _; simp [useX, HOA.out, HOB.out, HOC.out]; exact fun h => by have := AN.out; rw [if_neg (by omega)] at this; exact this
    have fc := (cells_of S2.out.bx).1
    have x0 := fc 0
    have x1 := fc 1
    have x2 := fc 2
    have x3 := fc 3
    have x4 := fc 4
    have x5 := fc 5
    have x6 := fc 6
    simp at x0 x1 x2 x3 x4 x5 x6
    clear fc
    have xf := (cells_of S2.out.bx).2
    go_upto_region 7 with fail
    go_wp2_with fail
    refine (SC.out _ NM.out).mono ?_
    rintro e24 w3 ⟨rfl, rfl⟩
    have z := heap_setCell_same w3 w.heap.size 4 _ _ (.int .i64 oc) S2.out.bx
    have bu : But w.heap.size w3 (w3.setCell ⟨w.heap.size, 4, none⟩ (.int .i64 oc)) := (But.refl _ _).set _ _
    go_upto_region 8 with fail
    obtain ⟨W3, hW3⟩ : ∃ W3, w3.setCell ⟨w.heap.size, 4, none⟩ (.int .i64 oc) = W3 := ⟨_, rfl⟩
    rw [hW3] at z bu ⊢
    have S3 : Hid (Bx2 w #[.int .i64 4, .int .i64 d, .int .i64 a, .int .i64 b0, .int .i64 oc, .int .i64 nn, .string t] #[.int .i64 0, .int .i64 0, .int .i64 0, .int .i64 0, .int .i64 0, .int .i64 0, .string ⟨#[]⟩] 48 W3) := S2.out.boxed bu z
    replace NM := hideP (NM.out.but bu (by omega))
    clear hW3 z bu xf x0 x1 x2 x3 x4 x5 x6
    have fc := (cells_of S3.out.bx).1
    have x0 := fc 0
    have x1 := fc 1
    have x2 := fc 2
    have x3 := fc 3
    have x4 := fc 4
    have x5 := fc 5
    have x6 := fc 6
    simp at x0 x1 x2 x3 x4 x5 x6
    clear fc
    have xf := (cells_of S3.out.bx).2
    skip
    go_wp2_with fail
    refine (SB.out _ NM.out).mono ?_
    rintro e33 w3 ⟨rfl, rfl⟩
    have z := heap_setCell_same w3 w.heap.size 3 _ _ (.int .i64 ob) S3.out.bx
    have bu : But w.heap.size w3 (w3.setCell ⟨w.heap.size, 3, none⟩ (.int .i64 ob)) := (But.refl _ _).set _ _
    go_upto_region 9 with fail
    obtain ⟨W4, hW4⟩ : ∃ W4, w3.setCell ⟨w.heap.size, 3, none⟩ (.int .i64 ob) = W4 := ⟨_, rfl⟩
    rw [hW4] at z bu ⊢
    have S4 : Hid (Bx2 w #[.int .i64 4, .int .i64 d, .int .i64 a, .int .i64 ob, .int .i64 oc, .int .i64 nn, .string t] #[.int .i64 0, .int .i64 0, .int .i64 0, .int .i64 0, .int .i64 0, .int .i64 0, .string ⟨#[]⟩] 48 W4) := S3.out.boxed bu z
    replace NM := hideP (NM.out.but bu (by omega))
    clear hW4 z bu xf x0 x1 x2 x3 x4 x5 x6
    have fc := (cells_of S4.out.bx).1
    have x0 := fc 0
    have x1 := fc 1
    have x2 := fc 2
    have x3 := fc 3
    have x4 := fc 4
    have x5 := fc 5
    have x6 := fc 6
    simp at x0 x1 x2 x3 x4 x5 x6
    clear fc
    have xf := (cells_of S4.out.bx).2
    skip
    go_wp2_with fail
    refine (SA.out _ NM.out).mono ?_
    rintro e42 w3 ⟨rfl, rfl⟩
    have z := heap_setCell_same w3 w.heap.size 2 _ _ (.int .i64 oa) S4.out.bx
    have bu : But w.heap.size w3 (w3.setCell ⟨w.heap.size, 2, none⟩ (.int .i64 oa)) := (But.refl _ _).set _ _
    go_upto_region 10 with fail
    obtain ⟨W5, hW5⟩ : ∃ W5, w3.setCell ⟨w.heap.size, 2, none⟩ (.int .i64 oa) = W5 := ⟨_, rfl⟩
    rw [hW5] at z bu ⊢
    have S5 : Hid (Bx2 w #[.int .i64 4, .int .i64 d, .int .i64 oa, .int .i64 ob, .int .i64 oc, .int .i64 nn, .string t] #[.int .i64 0, .int .i64 0, .int .i64 0, .int .i64 0, .int .i64 0, .int .i64 0, .string ⟨#[]⟩] 48 W5) := S4.out.boxed bu z
    replace NM := hideP (NM.out.but bu (by omega))
    clear hW5 z bu xf x0 x1 x2 x3 x4 x5 x6
    have fc := (cells_of S5.out.bx).1
    have x0 := fc 0
    have x1 := fc 1
    have x2 := fc 2
    have x3 := fc 3
    have x4 := fc 4
    have x5 := fc 5
    have x6 := fc 6
    simp at x0 x1 x2 x3 x4 x5 x6
    clear fc
    have fc := (cells_of S5.out.br).1
    have r0 := fc 0
    have r1 := fc 1
    have r2 := fc 2
    have r3 := fc 3
    have r4 := fc 4
    have r5 := fc 5
    have r6 := fc 6
    simp at r0 r1 r2 r3 r4 r5 r6
    clear fc
    have rf := (cells_of S5.out.br).2
    obtain ⟨z6, bu⟩ := put7n S5.out.br rfl (.int .i64 4) (.int .i64 d) (.int .i64 oa) (.int .i64 ob) (.int .i64 oc) (.int .i64 nn) (.string t)
    have ZF := hideP z6
    have BU := hideP bu
    clear z6 bu
    go_wp2
    refine bodyPost_ret (results_cell_row rfl _ _ (w.heap.size + 1) 48 #[.int .i64 4, .int .i64 d, .int .i64 oa, .int .i64 ob, .int .i64 oc, .int .i64 nn, .string t] (0, 0) _ rfl ZF.out Try.underlying48 rfl (by kernel_rfl)) rfl ?_
    rw [EQ.out]
    exact ⟨rfl, S5.out.bel.trans (BU.out.below (by omega) S5.out.bel.size)⟩
  have h4b : (op == 4) = false := by simpa using h4
  by_cases h2 : op = 2
  · subst h2
    have EQ : Hid (useX (ofK K) (⟨2, d, a, b0, c0, nn, t⟩ : Ins) = (⟨2, d, oa, ob, c0, nn, t⟩ : Ins)) := by show _ = _; simp [useX, HOA.out, HOB.out]
    have fc := (cells_of S2.out.bx).1
    have x0 := fc 0
    have x1 := fc 1
    have x2 := fc 2
    have x3 := fc 3
    have x4 := fc 4
    have x5 := fc 5
    have x6 := fc 6
    simp at x0 x1 x2 x3 x4 x5 x6
    clear fc
    have xf := (cells_of S2.out.bx).2
    go_upto_region 8 with fail
    go_wp2_with fail
    refine (SB.out _ NM.out).mono ?_
    rintro e23 w3 ⟨rfl, rfl⟩
    have z := heap_setCell_same w3 w.heap.size 3 _ _ (.int .i64 ob) S2.out.bx
    have bu : But w.heap.size w3 (w3.setCell ⟨w.heap.size, 3, none⟩ (.int .i64 ob)) := (But.refl _ _).set _ _
    go_upto_region 9 with fail
    obtain ⟨W3, hW3⟩ : ∃ W3, w3.setCell ⟨w.heap.size, 3, none⟩ (.int .i64 ob) = W3 := ⟨_, rfl⟩
    rw [hW3] at z bu ⊢
    have S3 : Hid (Bx2 w #[.int .i64 2, .int .i64 d, .int .i64 a, .int .i64 ob, .int .i64 c0, .int .i64 nn, .string t] #[.int .i64 0, .int .i64 0, .int .i64 0, .int .i64 0, .int .i64 0, .int .i64 0, .string ⟨#[]⟩] 48 W3) := S2.out.boxed bu z
    replace NM := hideP (NM.out.but bu (by omega))
    clear hW3 z bu xf x0 x1 x2 x3 x4 x5 x6
    have fc := (cells_of S3.out.bx).1
    have x0 := fc 0
    have x1 := fc 1
    have x2 := fc 2
    have x3 := fc 3
    have x4 := fc 4
    have x5 := fc 5
    have x6 := fc 6
    simp at x0 x1 x2 x3 x4 x5 x6
    clear fc
    have xf := (cells_of S3.out.bx).2
    skip
    go_wp2_with fail
    refine (SA.out _ NM.out).mono ?_
    rintro e32 w3 ⟨rfl, rfl⟩
    have z := heap_setCell_same w3 w.heap.size 2 _ _ (.int .i64 oa) S3.out.bx
    have bu : But w.heap.size w3 (w3.setCell ⟨w.heap.size, 2, none⟩ (.int .i64 oa)) := (But.refl _ _).set _ _
    go_upto_region 10 with fail
    obtain ⟨W4, hW4⟩ : ∃ W4, w3.setCell ⟨w.heap.size, 2, none⟩ (.int .i64 oa) = W4 := ⟨_, rfl⟩
    rw [hW4] at z bu ⊢
    have S4 : Hid (Bx2 w #[.int .i64 2, .int .i64 d, .int .i64 oa, .int .i64 ob, .int .i64 c0, .int .i64 nn, .string t] #[.int .i64 0, .int .i64 0, .int .i64 0, .int .i64 0, .int .i64 0, .int .i64 0, .string ⟨#[]⟩] 48 W4) := S3.out.boxed bu z
    replace NM := hideP (NM.out.but bu (by omega))
    clear hW4 z bu xf x0 x1 x2 x3 x4 x5 x6
    have fc := (cells_of S4.out.bx).1
    have x0 := fc 0
    have x1 := fc 1
    have x2 := fc 2
    have x3 := fc 3
    have x4 := fc 4
    have x5 := fc 5
    have x6 := fc 6
    simp at x0 x1 x2 x3 x4 x5 x6
    clear fc
    have fc := (cells_of S4.out.br).1
    have r0 := fc 0
    have r1 := fc 1
    have r2 := fc 2
    have r3 := fc 3
    have r4 := fc 4
    have r5 := fc 5
    have r6 := fc 6
    simp at r0 r1 r2 r3 r4 r5 r6
    clear fc
    have rf := (cells_of S4.out.br).2
    obtain ⟨z6, bu⟩ := put7n S4.out.br rfl (.int .i64 2) (.int .i64 d) (.int .i64 oa) (.int .i64 ob) (.int .i64 c0) (.int .i64 nn) (.string t)
    have ZF := hideP z6
    have BU := hideP bu
    clear z6 bu
    go_wp2
    refine bodyPost_ret (results_cell_row rfl _ _ (w.heap.size + 1) 48 #[.int .i64 2, .int .i64 d, .int .i64 oa, .int .i64 ob, .int .i64 c0, .int .i64 nn, .string t] (0, 0) _ rfl ZF.out Try.underlying48 rfl (by kernel_rfl)) rfl ?_
    rw [EQ.out]
    exact ⟨rfl, S4.out.bel.trans (BU.out.below (by omega) S4.out.bel.size)⟩
  have h2b : (op == 2) = false := by simpa using h2
  by_cases h3 : op = 3
  · subst h3
    have EQ : Hid (useX (ofK K) (⟨3, d, a, b0, c0, nn, t⟩ : Ins) = (⟨3, d, oa, ob, c0, nn, t⟩ : Ins)) := by show _ = _; simp [useX, HOA.out, HOB.out]; exact fun h => by have := AN.out; rw [if_neg (by omega)] at this; exact this
    have fc := (cells_of S2.out.bx).1
    have x0 := fc 0
    have x1 := fc 1
    have x2 := fc 2
    have x3 := fc 3
    have x4 := fc 4
    have x5 := fc 5
    have x6 := fc 6
    simp at x0 x1 x2 x3 x4 x5 x6
    clear fc
    have xf := (cells_of S2.out.bx).2
    go_upto_region 8 with fail
    go_wp2_with fail
    refine (SB.out _ NM.out).mono ?_
    rintro e23 w3 ⟨rfl, rfl⟩
    have z := heap_setCell_same w3 w.heap.size 3 _ _ (.int .i64 ob) S2.out.bx
    have bu : But w.heap.size w3 (w3.setCell ⟨w.heap.size, 3, none⟩ (.int .i64 ob)) := (But.refl _ _).set _ _
    go_upto_region 9 with fail
    obtain ⟨W3, hW3⟩ : ∃ W3, w3.setCell ⟨w.heap.size, 3, none⟩ (.int .i64 ob) = W3 := ⟨_, rfl⟩
    rw [hW3] at z bu ⊢
    have S3 : Hid (Bx2 w #[.int .i64 3, .int .i64 d, .int .i64 a, .int .i64 ob, .int .i64 c0, .int .i64 nn, .string t] #[.int .i64 0, .int .i64 0, .int .i64 0, .int .i64 0, .int .i64 0, .int .i64 0, .string ⟨#[]⟩] 48 W3) := S2.out.boxed bu z
    replace NM := hideP (NM.out.but bu (by omega))
    clear hW3 z bu xf x0 x1 x2 x3 x4 x5 x6
    have fc := (cells_of S3.out.bx).1
    have x0 := fc 0
    have x1 := fc 1
    have x2 := fc 2
    have x3 := fc 3
    have x4 := fc 4
    have x5 := fc 5
    have x6 := fc 6
    simp at x0 x1 x2 x3 x4 x5 x6
    clear fc
    have xf := (cells_of S3.out.bx).2
    skip
    go_wp2_with fail
    refine (SA.out _ NM.out).mono ?_
    rintro e32 w3 ⟨rfl, rfl⟩
    have z := heap_setCell_same w3 w.heap.size 2 _ _ (.int .i64 oa) S3.out.bx
    have bu : But w.heap.size w3 (w3.setCell ⟨w.heap.size, 2, none⟩ (.int .i64 oa)) := (But.refl _ _).set _ _
    go_upto_region 10 with fail
    obtain ⟨W4, hW4⟩ : ∃ W4, w3.setCell ⟨w.heap.size, 2, none⟩ (.int .i64 oa) = W4 := ⟨_, rfl⟩
    rw [hW4] at z bu ⊢
    have S4 : Hid (Bx2 w #[.int .i64 3, .int .i64 d, .int .i64 oa, .int .i64 ob, .int .i64 c0, .int .i64 nn, .string t] #[.int .i64 0, .int .i64 0, .int .i64 0, .int .i64 0, .int .i64 0, .int .i64 0, .string ⟨#[]⟩] 48 W4) := S3.out.boxed bu z
    replace NM := hideP (NM.out.but bu (by omega))
    clear hW4 z bu xf x0 x1 x2 x3 x4 x5 x6
    have fc := (cells_of S4.out.bx).1
    have x0 := fc 0
    have x1 := fc 1
    have x2 := fc 2
    have x3 := fc 3
    have x4 := fc 4
    have x5 := fc 5
    have x6 := fc 6
    simp at x0 x1 x2 x3 x4 x5 x6
    clear fc
    have fc := (cells_of S4.out.br).1
    have r0 := fc 0
    have r1 := fc 1
    have r2 := fc 2
    have r3 := fc 3
    have r4 := fc 4
    have r5 := fc 5
    have r6 := fc 6
    simp at r0 r1 r2 r3 r4 r5 r6
    clear fc
    have rf := (cells_of S4.out.br).2
    obtain ⟨z6, bu⟩ := put7n S4.out.br rfl (.int .i64 3) (.int .i64 d) (.int .i64 oa) (.int .i64 ob) (.int .i64 c0) (.int .i64 nn) (.string t)
    have ZF := hideP z6
    have BU := hideP bu
    clear z6 bu
    go_wp2
    refine bodyPost_ret (results_cell_row rfl _ _ (w.heap.size + 1) 48 #[.int .i64 3, .int .i64 d, .int .i64 oa, .int .i64 ob, .int .i64 c0, .int .i64 nn, .string t] (0, 0) _ rfl ZF.out Try.underlying48 rfl (by kernel_rfl)) rfl ?_
    rw [EQ.out]
    exact ⟨rfl, S4.out.bel.trans (BU.out.below (by omega) S4.out.bel.size)⟩
  have h3b : (op == 3) = false := by simpa using h3
  by_cases h1 : op = 1
  · subst h1
    have EQ : Hid (useX (ofK K) (⟨1, d, a, b0, c0, nn, t⟩ : Ins) = (⟨1, d, oa, b0, c0, nn, t⟩ : Ins)) := by show _ = _; simp [useX, HOA.out]
    have fc := (cells_of S2.out.bx).1
    have x0 := fc 0
    have x1 := fc 1
    have x2 := fc 2
    have x3 := fc 3
    have x4 := fc 4
    have x5 := fc 5
    have x6 := fc 6
    simp at x0 x1 x2 x3 x4 x5 x6
    clear fc
    have xf := (cells_of S2.out.bx).2
    go_upto_region 9 with fail
    go_wp2_with fail
    refine (SA.out _ NM.out).mono ?_
    rintro e22 w3 ⟨rfl, rfl⟩
    have z := heap_setCell_same w3 w.heap.size 2 _ _ (.int .i64 oa) S2.out.bx
    have bu : But w.heap.size w3 (w3.setCell ⟨w.heap.size, 2, none⟩ (.int .i64 oa)) := (But.refl _ _).set _ _
    go_upto_region 10 with fail
    obtain ⟨W3, hW3⟩ : ∃ W3, w3.setCell ⟨w.heap.size, 2, none⟩ (.int .i64 oa) = W3 := ⟨_, rfl⟩
    rw [hW3] at z bu ⊢
    have S3 : Hid (Bx2 w #[.int .i64 1, .int .i64 d, .int .i64 oa, .int .i64 b0, .int .i64 c0, .int .i64 nn, .string t] #[.int .i64 0, .int .i64 0, .int .i64 0, .int .i64 0, .int .i64 0, .int .i64 0, .string ⟨#[]⟩] 48 W3) := S2.out.boxed bu z
    replace NM := hideP (NM.out.but bu (by omega))
    clear hW3 z bu xf x0 x1 x2 x3 x4 x5 x6
    have fc := (cells_of S3.out.bx).1
    have x0 := fc 0
    have x1 := fc 1
    have x2 := fc 2
    have x3 := fc 3
    have x4 := fc 4
    have x5 := fc 5
    have x6 := fc 6
    simp at x0 x1 x2 x3 x4 x5 x6
    clear fc
    have fc := (cells_of S3.out.br).1
    have r0 := fc 0
    have r1 := fc 1
    have r2 := fc 2
    have r3 := fc 3
    have r4 := fc 4
    have r5 := fc 5
    have r6 := fc 6
    simp at r0 r1 r2 r3 r4 r5 r6
    clear fc
    have rf := (cells_of S3.out.br).2
    obtain ⟨z6, bu⟩ := put7n S3.out.br rfl (.int .i64 1) (.int .i64 d) (.int .i64 oa) (.int .i64 b0) (.int .i64 c0) (.int .i64 nn) (.string t)
    have ZF := hideP z6
    have BU := hideP bu
    clear z6 bu
    go_wp2
    refine bodyPost_ret (results_cell_row rfl _ _ (w.heap.size + 1) 48 #[.int .i64 1, .int .i64 d, .int .i64 oa, .int .i64 b0, .int .i64 c0, .int .i64 nn, .string t] (0, 0) _ rfl ZF.out Try.underlying48 rfl (by kernel_rfl)) rfl ?_
    rw [EQ.out]
    exact ⟨rfl, S3.out.bel.trans (BU.out.below (by omega) S3.out.bel.size)⟩
  have h1b : (op == 1) = false := by simpa using h1
  by_cases h6 : op = 6
  · subst h6
    have EQ : Hid (useX (ofK K) (⟨6, d, a, b0, c0, nn, t⟩ : Ins) = (⟨6, d, oa, b0, c0, nn, t⟩ : Ins)) := by show _ = _; simp [useX, HOA.out]
    have fc := (cells_of S2.out.bx).1
    have x0 := fc 0
    have x1 := fc 1
    have x2 := fc 2
    have x3 := fc 3
    have x4 := fc 4
    have x5 := fc 5
    have x6 := fc 6
    simp at x0 x1 x2 x3 x4 x5 x6
    clear fc
    have xf := (cells_of S2.out.bx).2
    go_upto_region 9 with fail
    go_wp2_with fail
    refine (SA.out _ NM.out).mono ?_
    rintro e22 w3 ⟨rfl, rfl⟩
    have z := heap_setCell_same w3 w.heap.size 2 _ _ (.int .i64 oa) S2.out.bx
    have bu : But w.heap.size w3 (w3.setCell ⟨w.heap.size, 2, none⟩ (.int .i64 oa)) := (But.refl _ _).set _ _
    go_upto_region 10 with fail
    obtain ⟨W3, hW3⟩ : ∃ W3, w3.setCell ⟨w.heap.size, 2, none⟩ (.int .i64 oa) = W3 := ⟨_, rfl⟩
    rw [hW3] at z bu ⊢
    have S3 : Hid (Bx2 w #[.int .i64 6, .int .i64 d, .int .i64 oa, .int .i64 b0, .int .i64 c0, .int .i64 nn, .string t] #[.int .i64 0, .int .i64 0, .int .i64 0, .int .i64 0, .int .i64 0, .int .i64 0, .string ⟨#[]⟩] 48 W3) := S2.out.boxed bu z
    replace NM := hideP (NM.out.but bu (by omega))
    clear hW3 z bu xf x0 x1 x2 x3 x4 x5 x6
    have fc := (cells_of S3.out.bx).1
    have x0 := fc 0
    have x1 := fc 1
    have x2 := fc 2
    have x3 := fc 3
    have x4 := fc 4
    have x5 := fc 5
    have x6 := fc 6
    simp at x0 x1 x2 x3 x4 x5 x6
    clear fc
    have fc := (cells_of S3.out.br).1
    have r0 := fc 0
    have r1 := fc 1
    have r2 := fc 2
    have r3 := fc 3
    have r4 := fc 4
    have r5 := fc 5
    have r6 := fc 6
    simp at r0 r1 r2 r3 r4 r5 r6
    clear fc
    have rf := (cells_of S3.out.br).2
    obtain ⟨z6, bu⟩ := put7n S3.out.br rfl (.int .i64 6) (.int .i64 d) (.int .i64 oa) (.int .i64 b0) (.int .i64 c0) (.int .i64 nn) (.string t)
    have ZF := hideP z6
    have BU := hideP bu
    clear z6 bu
    go_wp2
    refine bodyPost_ret (results_cell_row rfl _ _ (w.heap.size + 1) 48 #[.int .i64 6, .int .i64 d, .int .i64 oa, .int .i64 b0, .int .i64 c0, .int .i64 nn, .string t] (0, 0) _ rfl ZF.out Try.underlying48 rfl (by kernel_rfl)) rfl ?_
    rw [EQ.out]
    exact ⟨rfl, S3.out.bel.trans (BU.out.below (by omega) S3.out.bel.size)⟩
  have h6b : (op == 6) = false := by simpa using h6
  have EQ : Hid (useX (ofK K) (⟨op, d, a, b0, c0, nn, t⟩ : Ins) = (⟨op, d, a, b0, c0, nn, t⟩ : Ins)) := by show _ = _; simp [useX, h1, h2, h3, h4, h6]
  have fc := (cells_of S2.out.bx).1
  have x0 := fc 0
  have x1 := fc 1
  have x2 := fc 2
  have x3 := fc 3
  have x4 := fc 4
  have x5 := fc 5
  have x6 := fc 6
  simp at x0 x1 x2 x3 x4 x5 x6
  clear fc
  have fc := (cells_of S2.out.br).1
  have r0 := fc 0
  have r1 := fc 1
  have r2 := fc 2
  have r3 := fc 3
  have r4 := fc 4
  have r5 := fc 5
  have r6 := fc 6
  simp at r0 r1 r2 r3 r4 r5 r6
  clear fc
  have rf := (cells_of S2.out.br).2
  obtain ⟨z6, bu⟩ := put7n S2.out.br rfl (.int .i64 op) (.int .i64 d) (.int .i64 a) (.int .i64 b0) (.int .i64 c0) (.int .i64 nn) (.string t)
  have ZF := hideP z6
  have BU := hideP bu
  clear z6 bu
  go_wp2
  refine bodyPost_ret (results_cell_row rfl _ _ (w.heap.size + 1) 48 #[.int .i64 op, .int .i64 d, .int .i64 a, .int .i64 b0, .int .i64 c0, .int .i64 nn, .string t] (0, 0) _ rfl ZF.out Try.underlying48 rfl (by kernel_rfl)) rfl ?_
  rw [EQ.out]
  exact ⟨rfl, S2.out.bel.trans (BU.out.below (by omega) S2.out.bel.size)⟩
end Go.Proofs.Ytjmclmbepnbeoaa

/- The program's Copies: what is a copy behind a step, a step (written by wip/mkcpyj.py). -/
namespace Go.Proofs.Ytjmclmbepnbeoaa
open Go.ChangeShapes Go.WideShapes Go.ChangeAt Go.RowKit Go.Maps
theorem md_del {K : Kn} {y : Ins} (h1 : ∀ s, s < 0 → K s = none) (h2 : ∀ s u, K s = some u → 0 ≤ u) (ho : ¬ y.op = 1) : (fun z => if z = makesP y then none else if K z = some (makesP y) then none else K z) = mdK K y := by
  funext z
  by_cases e : y.op = 4 ∨ y.op = 6
  · have em : makesP y = -1 := by unfold makesP; rw [if_pos e]
    have ed : mdK K y = K := by unfold mdK; rw [if_pos (by omega)]
    rw [em, ed]
    by_cases ez : z = -1
    · subst ez
      rw [h1 _ (by omega)]
      simp
    · rw [if_neg ez]
      split
      · rename_i e2
        have := h2 z _ e2
        omega
      · rfl
  · have em : makesP y = y.d := by unfold makesP; rw [if_neg e]
    have ed : mdK K y = fun s => if s = y.d then (if y.op = 1 then some y.a else none) else if K s = some y.d then none else K s := by unfold mdK; rw [if_neg (by omega)]
    rw [em, ed]
    simp only [ho, if_false]
theorem md_put {K : Kn} {y : Ins} (ho : y.op = 1) (hn : ¬ y.a = y.d) : (fun z => if z = makesP y then some y.a else if z = makesP y then none else if K z = some (makesP y) then none else K z) = mdK K y := by
  have e : makesP y = y.d := by unfold makesP; rw [if_neg (by omega)]
  have ed : mdK K y = fun s => if s = y.d then (if y.op = 1 then some y.a else none) else if K s = some y.d then none else K s := by unfold mdK; rw [if_neg (by omega)]
  rw [e, ed]
  funext z
  by_cases ez : z = y.d
  · simp [ez, ho]
  · simp [ez]
theorem md_no {K : Kn} {y : Ins} (h1 : ∀ s, s < 0 → K s = none) (h2 : ∀ s u, K s = some u → 0 ≤ u) (hd : ¬ (y.op = 4 ∨ y.op = 6) → 0 ≤ y.d) (ha : y.op = 1 → 0 ≤ y.a) : (∀ s, s < 0 → mdK K y s = none) ∧ ∀ s u, mdK K y s = some u → 0 ≤ u := by
  unfold mdK
  split
  · exact ⟨h1, h2⟩
  · rename_i e
    have hd' := hd (by omega)
    refine ⟨fun s hs => ?_, fun s u hu => ?_⟩
    · simp only
      rw [if_neg (by omega), h1 s hs]
      simp
    · simp only at hu
      split at hu
      · split at hu
        · rename_i e1
          cases hu
          exact ha e1
        · cases hu
      · split at hu
        · cases hu
        · exact h2 s u hu
set_option maxRecDepth 100000 in
set_option maxHeartbeats 8000000 in
theorem makeAnewS_any (y : Ins) (K : Kn) (w : World) (m n : Nat) (h : NmAt w m n K) (hno : (∀ s, s < 0 → K s = none) ∧ ∀ s u, K s = some u → 0 ≤ u) (hy : y.wf ∧ y.t.size ≤ maxLen) (hn : n < 1000000) :
    Calls Try.prog 73 #[.map (some m), .agg (insV y)] w fun e w' => e = .returned (.tuple #[]) ∧ NmAt w' m (n + 1) (mdK K y) ∧ But m w w' := by
  have MK : Hid (∀ W, Calls Try.prog 94 #[.agg (insV y)] W fun e w' => e = .returned (.int .i64 (makesP y)) ∧ Below W.heap.size W w') := fun W => impl_makes y W 0 (insV y) ⟨rfl, hy⟩
  have hmp := makesP_i64 hy.1
  have hml := h.lt
  have MD := hideP (fun ho => md_del (y := y) hno.1 hno.2 ho)
  have MP := hideP (fun ho hne => md_put (K := K) (y := y) ho hne)
  have MS : Hid (y.op = 1 → y.a = y.d → mdK K y = K) := fun h1 h2 => by unfold mdK; rw [if_pos (by omega)]
  have MO : Hid (y.op = 1 → makesP y = y.d) := fun h1 => by unfold makesP; rw [if_neg (by omega)]
  have HA := hideP hy.1.2.2.1
  obtain ⟨mk, hmk⟩ : ∃ mk, makesP y = mk := ⟨_, rfl⟩
  rw [hmk] at MK hmp MO
  simp only [hmk] at MD MP
  clear hmk hno hy
  obtain ⟨op, d, a, b0, c0, nn, t⟩ := y
  simp only [insV] at MK ⊢
  simp only at MD MP MS MO HA
  have nb := newB1 w (.cells #[.int .i64 op, .int .i64 d, .int .i64 a, .int .i64 b0, .int .i64 c0, .int .i64 nn, .string t] 48)
  have al := (Below.refl w.heap.size w).alloc (Nat.le_refl _) (.cells #[.int .i64 op, .int .i64 d, .int .i64 a, .int .i64 b0, .int .i64 c0, .int .i64 nn, .string t] 48)
  obtain ⟨W1, hW1⟩ : ∃ W1, w.alloc (.cells #[.int .i64 op, .int .i64 d, .int .i64 a, .int .i64 b0, .int .i64 c0, .int .i64 nn, .string t] 48) = W1 := ⟨_, rfl⟩
  rw [hW1] at nb al
  have HW := hideP hW1
  have NB := hideP nb
  have AL := hideP al
  have N1 := hideP (h.stays al)
  clear nb al hW1 h
  go_enter Try.func73, Try.ntmps73
  go_upto_region 1 with fail
  rw [HW.out]
  clear HW
  have fc := (cells_of NB.out).1
  have x0 := fc 0
  have x1 := fc 1
  have x2 := fc 2
  have x3 := fc 3
  have x4 := fc 4
  have x5 := fc 5
  have x6 := fc 6
  simp at x0 x1 x2 x3 x4 x5 x6
  clear fc
  go_wp2_with fail
  refine (MK.out _).mono ?_
  rintro e3 w3 ⟨rfl, bel3⟩
  have al3 := (Below.refl w3.heap.size w3).alloc (Nat.le_refl _) (.cells #[.int .i64 mk] 3)
  have NB4 := hideP ((al3.block _ (by have := bel3.size; have := (Array.getElem?_eq_some_iff.1 NB.out).1; omega)).trans ((bel3.block _ (Array.getElem?_eq_some_iff.1 NB.out).1).trans NB.out))
  have C4 := hideP (newB1 w3 (.cells #[.int .i64 mk] 3))
  have N4 := hideP ((N1.out.stays bel3).stays al3)
  have BL4 := hideP (below_trans (below_trans AL.out bel3) al3)
  clear bel3 al3 NB N1 AL MK x0 x1 x2 x3 x4 x5 x6
  go_upto_region 2 with fail
  obtain ⟨w4, hw4⟩ : ∃ w4, w3.alloc (.cells #[.int .i64 mk] 3) = w4 := ⟨_, rfl⟩
  obtain ⟨cc, hcc⟩ : ∃ cc, w3.heap.size = cc := ⟨_, rfl⟩
  rw [hw4] at NB4 C4 N4 BL4 ⊢
  rw [hcc] at C4 ⊢
  clear hw4 hcc
  have hcm : cc ≠ m := fun e => N4.out.nocells _ _ _ (e ▸ C4.out)
  have hbm : w.heap.size ≠ m := by omega
  have k0 := (cells_of C4.out).1 0
  simp at k0
  have BW : Hid (∀ W, But m w4 W → But m w W) := fun W hb => ⟨hb.os.trans BL4.out.os, hb.tape.trans BL4.out.tape, hb.output.trans BL4.out.output, Nat.le_trans BL4.out.size hb.size, fun k hk hne => (hb.block k (Nat.lt_of_lt_of_le hk BL4.out.size) hne).trans (BL4.out.block k hk)⟩
  have fc := (cells_of NB4.out).1
  have x0 := fc 0
  have x1 := fc 1
  have x2 := fc 2
  have x3 := fc 3
  have x4 := fc 4
  have x5 := fc 5
  have x6 := fc 6
  simp at x0 x1 x2 x3 x4 x5 x6
  clear fc
  by_cases hsame : op = 1 ∧ a = d
  · obtain ⟨rfl, rfl⟩ := hsame
    have e1 := (MO.out rfl).symm
    subst e1
    have e2 := MS.out rfl rfl
    have R : Hid (NmAt w4 m (n + 1) (mdK K (⟨1, a, a, b0, c0, nn, t⟩ : Ins))) := by
      show NmAt _ _ _ _
      rw [e2]
      exact N4.out.up (Nat.le_succ _)
    clear e2
    go_wp2
    refine bodyPost_ret (results_none rfl _ _ _) rfl ?_
    exact ⟨rfl, R.out, BW.out _ (But.refl m w4)⟩
  have DF := hideP (delFunc_any K mk w4 m n cc N4.out C4.out)
  by_cases h1 : op = 1
  · subst h1
    have hne : ¬ a = d := fun e => hsame ⟨rfl, e⟩
    have e1 := MO.out rfl
    subst e1
    have hab : (a == mk) = false := by simpa using hne
    go_wp2_with fail
    refine DF.out.mono ?_
    rintro e5 w5 ⟨rfl, n5, b5⟩
    have k5 := (cells_of (keepQ b5 C4.out hcm)).1 0
    simp at k5
    go_upto_region 5 with (at_delete; refine nm_del _ rfl _ _ 97 rfl Try.underlying97 m n _ mk rfl rfl n5 hmp ?_; intro w6 n6 b6)
    have NB6 := hideP (keepQ b6 (keepQ b5 NB4.out hbm) hbm)
    have k6 := (cells_of (keepQ b6 (keepQ b5 C4.out hcm) hcm)).1 0
    simp at k6
    clear x0 x1 x2 x3 x4 x5 x6
    have fc := (cells_of NB6.out).1
    have x0 := fc 0
    have x1 := fc 1
    have x2 := fc 2
    have x3 := fc 3
    have x4 := fc 4
    have x5 := fc 5
    have x6 := fc 6
    simp at x0 x1 x2 x3 x4 x5 x6
    clear fc
    have B6 := hideP (twQ b5 b6)
    clear b5 b6 n5 DF k0 k5
    go_wp2_with (at_mapUpdate; refine nm_put _ rfl _ _ _ 97 rfl Try.underlying97 m n _ mk a rfl rfl rfl n6 hmp HA.out hn ?_; intro w7 n7 b7)
    have R : Hid (NmAt w7 m (n + 1) (mdK K (⟨1, mk, a, b0, c0, nn, t⟩ : Ins))) := by
      show NmAt _ _ _ _
      rw [← MP.out trivial hne]
      exact n7
    have B7 := hideP (BW.out _ (twQ B6.out b7))
    clear n7 b7 n6
    go_end0
    exact ⟨rfl, R.out, B7.out⟩
  · have h1b : (op == 1) = false := by simpa using h1
    go_wp2_with fail
    refine DF.out.mono ?_
    rintro e5 w5 ⟨rfl, n5, b5⟩
    have k5 := (cells_of (keepQ b5 C4.out hcm)).1 0
    simp at k5
    go_upto_region 5 with (at_delete; refine nm_del _ rfl _ _ 97 rfl Try.underlying97 m n _ mk rfl rfl n5 hmp ?_; intro w6 n6 b6)
    have NB6 := hideP (keepQ b6 (keepQ b5 NB4.out hbm) hbm)
    clear x0 x1 x2 x3 x4 x5 x6
    have fc := (cells_of NB6.out).1
    have x0 := fc 0
    have x1 := fc 1
    have x2 := fc 2
    have x3 := fc 3
    have x4 := fc 4
    have x5 := fc 5
    have x6 := fc 6
    simp at x0 x1 x2 x3 x4 x5 x6
    clear fc
    have R : Hid (NmAt w6 m (n + 1) (mdK K (⟨op, d, a, b0, c0, nn, t⟩ : Ins))) := by
      show NmAt _ _ _ _
      rw [← MD.out h1]
      exact n6.up (Nat.le_succ _)
    have B7 := hideP (BW.out _ (twQ b5 b6))
    clear n6 b5 b6 n5 DF k0 k5
    go_wp2
    go_end0
    exact ⟨rfl, R.out, B7.out⟩
theorem useX_wf {K : Kn} (h : ∀ s u, K s = some u → I64 s ∧ I64 u) {x : Ins} (hx : x.wf ∧ x.t.size ≤ maxLen) : (useX (ofK K) x).wf ∧ (useX (ofK K) x).t.size ≤ maxLen := by
  obtain ⟨⟨w1, w2, w3, w4, w5, w6⟩, w7⟩ := hx
  have ka := ofK_i64 h w3
  have kb := ofK_i64 h w4
  have kc := ofK_i64 h w5
  have ka2 : I64 (if 0 ≤ x.a then ofK K x.a else x.a) := by split <;> assumption
  unfold useX
  split
  · exact ⟨⟨w1, w2, ka, w4, w5, w6⟩, w7⟩
  · split
    · exact ⟨⟨w1, w2, ka, kb, w5, w6⟩, w7⟩
    · split
      · exact ⟨⟨w1, w2, ka2, kb, w5, w6⟩, w7⟩
      · split
        · exact ⟨⟨w1, w2, ka2, kb, kc, w6⟩, w7⟩
        · exact ⟨⟨w1, w2, w3, w4, w5, w6⟩, w7⟩
theorem useX_od (f : Int → Int) (x : Ins) : (useX f x).op = x.op ∧ (useX f x).d = x.d ∧ (x.op = 1 → (useX f x).a = f x.a) := by
  unfold useX
  refine ⟨?_, ?_, fun h => ?_⟩
  · split
    · rfl
    · split
      · rfl
      · split
        · rfl
        · split <;> rfl
  · split
    · rfl
    · split
      · rfl
      · split
        · rfl
        · split <;> rfl
  · rw [if_pos (Or.inl h)]
set_option maxRecDepth 100000 in
set_option maxHeartbeats 8000000 in
theorem stepC_any (x : Ins) (K : Kn) (w : World) (p m n : Nat) (h : SrAt p m n K w) (hz : OkZ x) (hn : n < 1000000) :
    Calls Try.prog 70 #[.agg (insV x), .pointer (some ⟨p, 0, none⟩)] w fun e w' => e = .returned (.agg (insV (copK K x).2)) ∧ SrAt p m (n + 1) (copK K x).1 w' ∧ But m w w' := by
  obtain ⟨hx, hd, ha⟩ := hz
  have hy := useX_wf h.nm.1 hx
  obtain ⟨u1, u2, u3⟩ := useX_od (ofK K) x
  have hno := md_no (y := useX (ofK K) x) h.no.1 h.no.2 (by rw [u1, u2]; exact hd) (fun e => by rw [u1] at e; rw [u3 e]; exact ofK_pos h.no.2 (ha e))
  have CU : Hid (∀ W, NmAt W m n K → Calls Try.prog 71 #[.agg (insV x), .func (.func 72) #[.map (some m)] #[]] W fun e w' => e = .returned (.agg (insV (useX (ofK K) x))) ∧ Below W.heap.size W w') := fun W hW => withUses_any x K W m n hW h.no.1 hx.1
  have CM : Hid (∀ W, NmAt W m n K → Calls Try.prog 73 #[.map (some m), .agg (insV (useX (ofK K) x))] W fun e w' => e = .returned (.tuple #[]) ∧ NmAt w' m (n + 1) (mdK K (useX (ofK K) x)) ∧ But m W w') := fun W hW => makeAnewS_any (useX (ofK K) x) K W m n hW h.no hy hn
  simp only [copK]
  obtain ⟨y, hyy⟩ : ∃ y, useX (ofK K) x = y := ⟨_, rfl⟩
  rw [hyy] at hno CU CM ⊢
  have HNO := hideP hno
  have hlt := h.nm.lt
  have hpl := (Array.getElem?_eq_some_iff.1 h.bp).1
  have hne := h.ne
  obtain ⟨K', hK'⟩ : ∃ K', mdK K y = K' := ⟨_, rfl⟩
  rw [hK'] at HNO CM ⊢
  clear hyy hno u1 u2 u3 hy hx hd ha hK'
  obtain ⟨op, d, a, b0, c0, nn, t⟩ := x
  obtain ⟨yo, yd, ya, yb, yc, yn, yt⟩ := y
  simp only [insV] at CU CM ⊢
  have b2 := Bx2.of w #[.int .i64 op, .int .i64 d, .int .i64 a, .int .i64 b0, .int .i64 c0, .int .i64 nn, .string t] #[.int .i64 0, .int .i64 0, .int .i64 0, .int .i64 0, .int .i64 0, .int .i64 0, .string ⟨#[]⟩] 48
  obtain ⟨W2, hW2⟩ : ∃ W2, (w.alloc (.cells #[.int .i64 op, .int .i64 d, .int .i64 a, .int .i64 b0, .int .i64 c0, .int .i64 nn, .string t] 48)).alloc (.cells #[.int .i64 0, .int .i64 0, .int .i64 0, .int .i64 0, .int .i64 0, .int .i64 0, .string ⟨#[]⟩] 48) = W2 := ⟨_, rfl⟩
  rw [hW2] at b2
  have S2 := hideP b2
  have F2 := hideP (h.stays b2.bel)
  have HW := hideP hW2
  clear b2 hW2 h
  go_enter Try.func70, Try.ntmps70
  go_upto_region 1 with fail
  rw [HW.out]
  clear HW
  have p0 := (cells_of F2.out.bp).1 0
  simp at p0
  have fc := (cells_of S2.out.bx).1
  have x0 := fc 0
  have x1 := fc 1
  have x2 := fc 2
  have x3 := fc 3
  have x4 := fc 4
  have x5 := fc 5
  have x6 := fc 6
  simp at x0 x1 x2 x3 x4 x5 x6
  clear fc
  go_wp2_with fail
  refine (CU.out _ F2.out.nm).mono ?_
  rintro e3 w3 ⟨rfl, bel3⟩
  have S3 := hideP (S2.out.stays bel3)
  have F3 := hideP (F2.out.stays bel3)
  clear bel3 S2 F2 CU p0 x0 x1 x2 x3 x4 x5 x6
  have fc := (cells_of S3.out.bx).1
  have x0 := fc 0
  have x1 := fc 1
  have x2 := fc 2
  have x3 := fc 3
  have x4 := fc 4
  have x5 := fc 5
  have x6 := fc 6
  simp at x0 x1 x2 x3 x4 x5 x6
  clear fc
  have xf := (cells_of S3.out.bx).2
  obtain ⟨z6, bu⟩ := put7n S3.out.bx rfl (.int .i64 yo) (.int .i64 yd) (.int .i64 ya) (.int .i64 yb) (.int .i64 yc) (.int .i64 yn) (.string yt)
  go_upto_region 2 with fail
  obtain ⟨W4, hW4⟩ : ∃ W4, (((((((w3.setCell ⟨w.heap.size, 0, none⟩ (.int .i64 yo)).setCell ⟨w.heap.size, 1, none⟩ (.int .i64 yd)).setCell ⟨w.heap.size, 2, none⟩ (.int .i64 ya)).setCell ⟨w.heap.size, 3, none⟩ (.int .i64 yb)).setCell ⟨w.heap.size, 4, none⟩ (.int .i64 yc)).setCell ⟨w.heap.size, 5, none⟩ (.int .i64 yn)).setCell ⟨w.heap.size, 6, none⟩ (.string yt)) = W4 := ⟨_, rfl⟩
  rw [hW4] at z6 bu ⊢
  have S4 := hideP (S3.out.boxed bu z6)
  have F4 : Hid (SrAt p m n K W4) := F3.out.blks (bu.block p (Array.getElem?_eq_some_iff.1 F3.out.bp).1 (by omega)) (bu.block m F3.out.nm.lt (by omega))
  clear hW4 z6 bu S3 F3 xf x0 x1 x2 x3 x4 x5 x6
  have p0 := (cells_of F4.out.bp).1 0
  simp at p0
  have fc := (cells_of S4.out.bx).1
  have x0 := fc 0
  have x1 := fc 1
  have x2 := fc 2
  have x3 := fc 3
  have x4 := fc 4
  have x5 := fc 5
  have x6 := fc 6
  simp at x0 x1 x2 x3 x4 x5 x6
  clear fc
  go_wp2_with fail
  refine (CM.out _ F4.out.nm).mono ?_
  rintro e5 w5 ⟨rfl, n5, b5⟩
  obtain ⟨X5, R5, B5⟩ := S4.out.butM b5 hlt
  have N6 := hideP n5
  have X6 := hideP X5
  have R6 := hideP R5
  have B6 := hideP B5
  have P6 := hideP (keepQ b5 F4.out.bp hne)
  clear n5 b5 X5 R5 B5 S4 F4 CM p0 x0 x1 x2 x3 x4 x5 x6
  have fc := (cells_of X6.out).1
  have f0 := fc 0
  have f1 := fc 1
  have f2 := fc 2
  have f3 := fc 3
  have f4 := fc 4
  have f5 := fc 5
  have f6 := fc 6
  simp at f0 f1 f2 f3 f4 f5 f6
  clear fc
  have fc := (cells_of R6.out).1
  have r0 := fc 0
  have r1 := fc 1
  have r2 := fc 2
  have r3 := fc 3
  have r4 := fc 4
  have r5 := fc 5
  have r6 := fc 6
  simp at r0 r1 r2 r3 r4 r5 r6
  clear fc
  have rf := (cells_of R6.out).2
  obtain ⟨z6, bu⟩ := put7n R6.out rfl (.int .i64 yo) (.int .i64 yd) (.int .i64 ya) (.int .i64 yb) (.int .i64 yc) (.int .i64 yn) (.string yt)
  have ZF := hideP z6
  have BU := hideP bu
  clear z6 bu
  go_wp2
  refine bodyPost_ret (results_cell_row rfl _ _ (w.heap.size + 1) 48 #[.int .i64 yo, .int .i64 yd, .int .i64 ya, .int .i64 yb, .int .i64 yc, .int .i64 yn, .string yt] (0, 0) _ rfl ZF.out Try.underlying48 rfl (by kernel_rfl)) rfl ?_
  refine ⟨rfl, ⟨?_, keepQ BU.out P6.out (by omega), HNO.out⟩, ?_⟩
  · exact (N6.out.but BU.out (by omega))
  · exact ⟨BU.out.os.trans B6.out.os, BU.out.tape.trans B6.out.tape, BU.out.output.trans B6.out.output, Nat.le_trans B6.out.size BU.out.size, fun k hk hne => (BU.out.block k (Nat.lt_of_lt_of_le hk B6.out.size) (by omega)).trans (B6.out.block k hk hne)⟩
end Go.Proofs.Ytjmclmbepnbeoaa

/- The program's Copies: a block's jump, what is begun for each block (written by wip/mkcpyj.py). -/
namespace Go.Proofs.Ytjmclmbepnbeoaa
open Go.ChangeShapes Go.WideShapes Go.ChangeAt Go.RowKit Go.Maps
set_option maxRecDepth 100000 in
set_option maxHeartbeats 8000000 in
theorem jumpC_all (code : List Ins) (jump a t0 els : Int) (K : Kn) (w : World) (p m n nc kc : Nat) (uc : Option Addr) (h : SrAt p m n K w) (ia : I64 a) :
    Calls Try.prog 74 #[.agg #[.slice uc nc kc, .int .i64 jump, .int .i64 a, .int .i64 t0, .int .i64 els], .pointer (some ⟨p, 0, none⟩)] w fun e w' => JumpD (copJ K ⟨code, jump, a, t0, els⟩) w e w' := by
  have b2 := Bx2.of w #[.slice uc nc kc, .int .i64 jump, .int .i64 a, .int .i64 t0, .int .i64 els] #[.slice none 0 0, .int .i64 0, .int .i64 0, .int .i64 0, .int .i64 0] 44
  obtain ⟨W2, hW2⟩ : ∃ W2, (w.alloc (.cells #[.slice uc nc kc, .int .i64 jump, .int .i64 a, .int .i64 t0, .int .i64 els] 44)).alloc (.cells #[.slice none 0 0, .int .i64 0, .int .i64 0, .int .i64 0, .int .i64 0] 44) = W2 := ⟨_, rfl⟩
  rw [hW2] at b2
  have S2 := hideP b2
  have HW := hideP hW2
  have F2 := hideP (h.stays b2.bel)
  clear b2 hW2 h
  go_enter Try.func74, Try.ntmps74
  go_upto_region 1 with fail
  rw [HW.out]
  clear HW
  have fc := (cells_of S2.out.bx).1
  have x0 := fc 0
  have x1 := fc 1
  have x2 := fc 2
  have x3 := fc 3
  have x4 := fc 4
  simp at x0 x1 x2 x3 x4
  clear fc
  by_cases h0 : jump = 0
  · subst h0
    have EQ : Hid (copJ K (⟨code, 0, a, t0, els⟩ : Blk) = ⟨code, 0, a, t0, els⟩) := by show _ = _; simp [copJ]
    go_upto_region 3 with fail
    clear x0 x1 x2 x3 x4
    have fc := (cells_of S2.out.bx).1
    have x0 := fc 0
    have x1 := fc 1
    have x2 := fc 2
    have x3 := fc 3
    have x4 := fc 4
    simp at x0 x1 x2 x3 x4
    clear fc
    have fc := (cells_of S2.out.br).1
    have r0 := fc 0
    have r1 := fc 1
    have r2 := fc 2
    have r3 := fc 3
    have r4 := fc 4
    simp at r0 r1 r2 r3 r4
    clear fc
    have rf := (cells_of S2.out.br).2
    obtain ⟨z4, bu⟩ := put5n S2.out.br rfl (.slice uc nc kc) (.int .i64 0) (.int .i64 a) (.int .i64 t0) (.int .i64 els)
    have ZF := hideP z4
    have BU := hideP bu
    clear z4 bu
    go_wp2
    refine bodyPost_ret (results_cell_row rfl _ _ (w.heap.size + 1) 44 #[.slice uc nc kc, .int .i64 0, .int .i64 a, .int .i64 t0, .int .i64 els] (0, 0) _ rfl ZF.out Try.underlying44 rfl (by kernel_rfl)) rfl ?_
    rw [EQ.out]
    exact ⟨_, _, _, rfl, S2.out.bel.trans (BU.out.below (by omega) S2.out.bel.size)⟩
  have h0b : (jump == 0) = false := by simpa using h0
  have p0 := (cells_of F2.out.bp).1 0
  simp at p0
  have xf := (cells_of S2.out.bx).2
  have SR := hideP (source_any K a W2 m n F2.out.nm ia)
  obtain ⟨oa, hoa⟩ : ∃ oa, ofK K a = oa := ⟨_, rfl⟩
  rw [hoa] at SR
  have EQ : Hid (copJ K (⟨code, jump, a, t0, els⟩ : Blk) = ⟨code, jump, oa, t0, els⟩) := by show _ = _; simp [copJ, h0, hoa]
  clear hoa
  go_wp2_with fail
  refine SR.out.mono ?_
  rintro e3 w3 ⟨rfl, rfl⟩
  have z := heap_setCell_same w3 w.heap.size 2 _ _ (.int .i64 oa) S2.out.bx
  have bu : But w.heap.size w3 (w3.setCell ⟨w.heap.size, 2, none⟩ (.int .i64 oa)) := (But.refl _ _).set _ _
  go_upto_region 3 with fail
  obtain ⟨W4, hW4⟩ : ∃ W4, w3.setCell ⟨w.heap.size, 2, none⟩ (.int .i64 oa) = W4 := ⟨_, rfl⟩
  rw [hW4] at z bu ⊢
  have S4 : Hid (Bx2 w #[.slice uc nc kc, .int .i64 jump, .int .i64 oa, .int .i64 t0, .int .i64 els] #[.slice none 0 0, .int .i64 0, .int .i64 0, .int .i64 0, .int .i64 0] 44 W4) := S2.out.boxed bu z
  clear hW4 z bu xf x0 x1 x2 x3 x4 p0 SR
  have fc := (cells_of S4.out.bx).1
  have x0 := fc 0
  have x1 := fc 1
  have x2 := fc 2
  have x3 := fc 3
  have x4 := fc 4
  simp at x0 x1 x2 x3 x4
  clear fc
  have fc := (cells_of S4.out.br).1
  have r0 := fc 0
  have r1 := fc 1
  have r2 := fc 2
  have r3 := fc 3
  have r4 := fc 4
  simp at r0 r1 r2 r3 r4
  clear fc
  have rf := (cells_of S4.out.br).2
  obtain ⟨z4, bu⟩ := put5n S4.out.br rfl (.slice uc nc kc) (.int .i64 jump) (.int .i64 oa) (.int .i64 t0) (.int .i64 els)
  have ZF := hideP z4
  have BU := hideP bu
  clear z4 bu
  go_wp2
  refine bodyPost_ret (results_cell_row rfl _ _ (w.heap.size + 1) 44 #[.slice uc nc kc, .int .i64 jump, .int .i64 oa, .int .i64 t0, .int .i64 els] (0, 0) _ rfl ZF.out Try.underlying44 rfl (by kernel_rfl)) rfl ?_
  rw [EQ.out]
  exact ⟨_, _, _, rfl, S4.out.bel.trans (BU.out.below (by omega) S4.out.bel.size)⟩
set_option maxRecDepth 100000 in
set_option maxHeartbeats 8000000 in
theorem copying_any (w : World) : Calls Try.prog 43 #[] w fun e w' => ∃ p m, e = .returned (.agg #[.func (.func 70) #[] #[.pointer (some ⟨p, 0, none⟩)], .func (.func 74) #[] #[.pointer (some ⟨p, 0, none⟩)]]) ∧ SrAt p m 0 (fun _ => none) w' ∧ w.heap.size ≤ p ∧ w.heap.size ≤ m ∧ p < w'.heap.size ∧ m < w'.heap.size ∧ Below w.heap.size w w' := by
  have hmm := @run_makeMap Try.prog
  have al1 := (Below.refl w.heap.size w).alloc (Nat.le_refl _) (.cells #[.nilFunc, .nilFunc] 56)
  have al2 := (Below.refl (w.alloc (.cells #[.nilFunc, .nilFunc] 56)).heap.size (w.alloc (.cells #[.nilFunc, .nilFunc] 56))).alloc (Nat.le_refl _) (.map #[] 0)
  have al3 := (Below.refl ((w.alloc (.cells #[.nilFunc, .nilFunc] 56)).alloc (.map #[] 0)).heap.size ((w.alloc (.cells #[.nilFunc, .nilFunc] 56)).alloc (.map #[] 0))).alloc (Nat.le_refl _) (.cells #[.map (some (w.heap.size + 1))] 97)
  have e1 : (w.alloc (.cells #[.nilFunc, .nilFunc] 56)).heap.size = w.heap.size + 1 := by simp
  have e2 : ((w.alloc (.cells #[.nilFunc, .nilFunc] 56)).alloc (.map #[] 0)).heap.size = w.heap.size + 1 + 1 := by simp
  have n1 := (al3.block w.heap.size (by omega)).trans ((al2.block w.heap.size (by omega)).trans (newB1 w (.cells #[.nilFunc, .nilFunc] 56)))
  have n2 := (NmAt.made (w.alloc (.cells #[.nilFunc, .nilFunc] 56))).stays al3
  have n3 := newB1 ((w.alloc (.cells #[.nilFunc, .nilFunc] 56)).alloc (.map #[] 0)) (.cells #[.map (some (w.heap.size + 1))] 97)
  have bel := below_trans (below_trans al1 al2) al3
  rw [e1] at n2
  rw [e2] at n3
  obtain ⟨W3, hW3⟩ : ∃ W3, ((w.alloc (.cells #[.nilFunc, .nilFunc] 56)).alloc (.map #[] 0)).alloc (.cells #[.map (some (w.heap.size + 1))] 97) = W3 := ⟨_, rfl⟩
  rw [hW3] at n1 n2 n3 bel
  have HW := hideP hW3
  have N2 := hideP n2
  have N3 := hideP n3
  have BEL := hideP bel
  have q0 := (cells_of n3).1 0
  have r0 := (cells_of n1).1 0
  have r1 := (cells_of n1).1 1
  have rf := (cells_of n1).2
  simp at q0 r0 r1
  have z0 := heap_setCell_same W3 w.heap.size 0 _ _ (.func (.func 70) #[] #[.pointer (some ⟨w.heap.size + 1 + 1, 0, none⟩)]) n1
  have z1 : ((W3.setCell ⟨w.heap.size, 0, none⟩ (.func (.func 70) #[] #[.pointer (some ⟨w.heap.size + 1 + 1, 0, none⟩)])).setCell ⟨w.heap.size, 1, none⟩ (.func (.func 74) #[] #[.pointer (some ⟨w.heap.size + 1 + 1, 0, none⟩)])).heap[w.heap.size]? = some (.cells #[.func (.func 70) #[] #[.pointer (some ⟨w.heap.size + 1 + 1, 0, none⟩)], .func (.func 74) #[] #[.pointer (some ⟨w.heap.size + 1 + 1, 0, none⟩)]] 56 (0, 0)) := heap_setCell_same _ w.heap.size 1 _ _ (.func (.func 74) #[] #[.pointer (some ⟨w.heap.size + 1 + 1, 0, none⟩)]) z0
  have ZF := hideP z1
  have BU : Hid (But w.heap.size W3 ((W3.setCell ⟨w.heap.size, 0, none⟩ (.func (.func 70) #[] #[.pointer (some ⟨w.heap.size + 1 + 1, 0, none⟩)])).setCell ⟨w.heap.size, 1, none⟩ (.func (.func 74) #[] #[.pointer (some ⟨w.heap.size + 1 + 1, 0, none⟩)]))) := ((But.refl w.heap.size W3).set 0 _).set 1 _
  clear al1 al2 al3 e1 e2 n1 n2 n3 bel hW3 z0 z1
  go_enter Try.func43, Try.ntmps43
  go_upto_region 2 with fail
  rw [HW.out]
  clear HW
  go_wp2
  refine bodyPost_ret (results_cell_row rfl _ _ w.heap.size 56 #[.func (.func 70) #[] #[.pointer (some ⟨w.heap.size + 1 + 1, 0, none⟩)], .func (.func 74) #[] #[.pointer (some ⟨w.heap.size + 1 + 1, 0, none⟩)]] (0, 0) _ rfl ZF.out Try.underlying56 rfl (by kernel_rfl)) rfl ?_
  have hs3 := N2.out.lt
  have hs4 := (Array.getElem?_eq_some_iff.1 N3.out).1
  have hsb := BU.out.size
  exact ⟨w.heap.size + 1 + 1, w.heap.size + 1, rfl, ⟨N2.out.but BU.out (by omega), keepQ BU.out N3.out (by omega), ⟨fun _ _ => rfl, fun _ _ e => (by cases e)⟩⟩, by omega, by omega, by omega, by omega, BEL.out.trans (BU.out.below (Nat.le_refl _) BEL.out.size)⟩
end Go.Proofs.Ytjmclmbepnbeoaa

/- The change that tells copies: its own memory. -/
namespace Go.Proofs.Ytjmclmbepnbeoaa
open Go.ChangeShapes Go.WideShapes Go.ChangeAt Go.RowKit
structure KpM (D : Nat) (W W' : World) : Prop where
  os : W'.os = W.os
  tape : W'.tape = W.tape
  output : W'.output = W.output
  size : W.heap.size ≤ W'.heap.size
  block : ∀ k, k < W.heap.size → (k < D ∨ ∃ c T, W.heap[k]? = some (.cells c T (0, 0))) → W'.heap[k]? = W.heap[k]?
theorem KpM.below {D : Nat} {W W1 : World} (h : KpM D W W1) {B : Nat} (hB : B ≤ D) (hw : D ≤ W.heap.size) : Below B W W1 := ⟨h.os, h.tape, h.output, h.size, fun k hk => h.block k (by omega) (Or.inl (by omega))⟩
structure SrD (D pp m n : Nat) (K : Kn) (W : World) : Prop where
  sr : SrAt pp m n K W
  lo : D ≤ pp ∧ D ≤ m
theorem SrD.stays {D pp m n : Nat} {K : Kn} {W W' : World} (h : SrD D pp m n K W) (b : Below W.heap.size W W') : SrD D pp m n K W' := ⟨h.sr.stays b, h.lo⟩
theorem SrD.other {D pp m n k : Nat} {K : Kn} {W W' : World} (h : SrD D pp m n K W) (b : But k W W') (hk : k < D) : SrD D pp m n K W' :=
  ⟨h.sr.blks (b.block _ (hltP h.sr.bp) (by have := h.lo; omega)) (b.block _ h.sr.nm.lt (by have := h.lo; omega)), h.lo⟩
theorem stepCz (x : Ins) (K : Kn) (W : World) (D pp m n : Nat) (h : SrD D pp m n K W) (hz : OkZ x) (hn : n < 1000) (_ : D ≤ W.heap.size) :
    Calls Try.prog 70 #[.agg (insV x), .pointer (some ⟨pp, 0, none⟩)] W fun e w' => e = .returned (.agg (insV (copK K x).2)) ∧ SrD D pp m (n + 1) (copK K x).1 w' ∧ KpM D W w' :=
  (stepC_any x K W pp m n h.sr hz (by omega)).mono fun e w' ⟨h1, h2, b⟩ => ⟨h1, ⟨h2, h.lo⟩, ⟨b.os, b.tape, b.output, b.size, fun k hk hc => b.block k hk (fun e => by
    subst e
    rcases hc with hc | ⟨c, T, hc⟩
    · have := h.lo; omega
    · exact h.sr.nm.nocells _ _ _ hc)⟩⟩
end Go.Proofs.Ytjmclmbepnbeoaa

/- The program's Copies against the plain one. -/
namespace Go.Proofs.Ytjmclmbepnbeoaa
open Go.ChangeShapes Go.WideShapes Go.ChangeAt Go.RowKit
theorem ofK_md (K : Kn) (y : Ins) : ofK (mdK K y) = madeX (ofK K) y := by
  unfold mdK madeX
  by_cases e : y.op = 4 ∨ y.op = 6 ∨ (y.op = 1 ∧ y.a = y.d)
  · rw [if_pos e, if_pos e]
  · rw [if_neg e, if_neg e]
    funext s
    unfold ofK
    by_cases es : s = y.d
    · subst es
      by_cases e1 : y.op = 1 <;> simp [e1]
    · simp only [if_neg es]
      cases eK : K s with
      | none => simp [es]
      | some u =>
        by_cases eu : u = y.d
        · simp [eu]
        · simp [eu]
theorem copUp_K (code : List Ins) : ∀ j, j ≤ code.length → (scanUp copF (fun s => s) code j).1 = ofK (scanUp copK s0 code j).1 ∧ (scanUp copF (fun s => s) code j).2 = (scanUp copK s0 code j).2
  | 0, _ => ⟨rfl, rfl⟩
  | j + 1, h => by
    obtain ⟨h1, h2⟩ := copUp_K code j (by omega)
    rw [scanUp_at (by omega), scanUp_at (by omega)]
    simp only [copF, copK, h1, h2, ofK_md]
    exact ⟨trivial, trivial⟩
theorem chB_cop (b : Blk) : chB copK s0 copJ b = copB b := by
  obtain ⟨h1, h2⟩ := copUp_K b.code b.code.length (Nat.le_refl _)
  unfold chB copB copJ copUp
  rw [h1, h2]
  by_cases e : b.jump = 0
  · rw [if_pos e, if_pos e]
  · rw [if_neg e, if_neg e]
theorem copK_ki {code : List Ins} (hw : ∀ x ∈ code, x.wf ∧ x.t.size ≤ maxLen) : ∀ j, (∀ s u, (scanUp copK s0 code j).1 s = some u → I64 s ∧ I64 u) ∧ ∀ y ∈ (scanUp copK s0 code j).2, y.wf ∧ y.t.size ≤ maxLen
  | 0 => ⟨fun _ _ e => (by cases e), fun y hy => (by simp [scanUp] at hy)⟩
  | j + 1 => by
    obtain ⟨h1, h2⟩ := copK_ki hw j
    by_cases h : j < code.length
    · rw [scanUp_at h]
      have hx := useX_wf h1 (hw _ (List.getElem_mem h))
      refine ⟨fun s u e => ?_, fun y hy => ?_⟩
      · simp only [copK] at e
        unfold mdK at e
        split at e
        · exact h1 s u e
        · simp only at e
          split at e
          · rename_i es
            split at e
            · cases e
              exact ⟨es ▸ hx.1.2.1, hx.1.2.2.1⟩
            · cases e
          · split at e
            · cases e
            · exact h1 s u e
      · rcases List.mem_append.1 hy with hy | hy
        · exact h2 y hy
        · rw [List.mem_singleton.1 hy]; exact hx
    · have e : scanUp copK s0 code (j + 1) = scanUp copK s0 code j := by
        show (match code[j]? with | some x => _ | none => _) = _
        rw [List.getElem?_eq_none (by omega)]
      rw [e]; exact ⟨h1, h2⟩
theorem copWn {w : World} {B : Nat} {v : Array Value} {x : Gr} (h : GrIs w B v x) : grOk x = true → ∀ b ∈ x.blocks, (chB copK s0 copJ b).wf ∧ ∀ z ∈ (chB copK s0 copJ b).code, z.wf ∧ z.t.size ≤ maxLen := fun _ b hb => by
  obtain ⟨k1, k2⟩ := gr_wf h b hb
  obtain ⟨h1, h2⟩ := copK_ki k2 b.code.length
  refine ⟨?_, h2⟩
  unfold chB copJ
  by_cases e : b.jump = 0
  · simp only [if_pos e]
    exact ⟨k1.1, k1.2.1, k1.2.2.1, k1.2.2.2⟩
  · simp only [if_neg e]
    exact ⟨k1.1, ofK_i64 h1 k1.2.1, k1.2.2.1, k1.2.2.2⟩
end Go.Proofs.Ytjmclmbepnbeoaa
