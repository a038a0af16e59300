/- Lists of structs that a call owns: literals, append of one. -/
import Derived.Test.YtobpcfelgobedabOwnIntL
import Derived.Test.YtobpcfelgobedabNextP
import Derived.Test.YtobpcfelgobedabGrOkP
import Derived.Lib.SlicesCompact
namespace Go.Proofs.Ytobpcfelgobedab
open Go.ChangeShapes Go.WideShapes Go.ChangeAt Go.RowKit
/-- How a thing's cells stand in a list. -/
structure Elem (α : Type) where
  T : TypeId
  ST : TypeId
  sz : Nat
  bys : Nat
  z : Value
  cs : α → List Value
structure Elem.Ok {α : Type} (E : Elem α) : Prop where
  und : Try.prog.underlying E.ST = some (.slice E.T)
  info : (Try.prog.info? E.T).map (fun i => (i.zero, i.size, i.bytes)) = some (some E.z, E.sz, E.bys)
  zs : E.z.cells.size = E.sz
  pos : 0 < E.sz
  few : E.bys ≤ 1000
  len : ∀ x, (E.cs x).length = E.sz
  one : ∀ x, ∀ u ∈ E.cs x, u.oneCell' = true
section
variable {α : Type} {E : Elem α}
/-- The value is a slice of these things, in a block of its own from B on. -/
def OwnE (E : Elem α) (w : World) (B : Nat) (v : Value) (l : List α) : Prop := ∃ g cap, v = .slice (some ⟨g, 0, none⟩) l.length cap ∧ w.ownsRow B E.T E.sz v l.length (l.flatMap E.cs)
theorem flatE_len (O : E.Ok) (l : List α) : (l.flatMap E.cs).length = l.length * E.sz := by
  induction l with
  | nil => simp
  | cons x l ih => rw [List.flatMap_cons, List.length_append, ih, O.len, List.length_cons, Nat.succ_mul]; omega
theorem flatE_at (O : E.Ok) : ∀ (l : List α) (j r : Nat) (hj : j < l.length), r < E.sz → (l.flatMap E.cs)[j * E.sz + r]? = (E.cs l[j])[r]?
  | [], _, _, hj, _ => absurd hj (Nat.not_lt_zero _)
  | x :: l, 0, r, _, hr => by
    rw [List.flatMap_cons, List.getElem?_append_left (by rw [O.len]; omega)]; simp
  | x :: l, j + 1, r, hj, hr => by
    have := flatE_at O l j r (by simpa using hj) hr
    have e : (j + 1) * E.sz + r - E.sz = j * E.sz + r := by rw [Nat.succ_mul]; omega
    rw [List.flatMap_cons, List.getElem?_append_right (by rw [O.len, Nat.succ_mul]; omega), O.len, e, this]; simp
theorem mul_stepE (j n sz : Nat) (h : j < n) : j * sz + sz ≤ n * sz := by
  have := Nat.mul_le_mul_right sz (show j + 1 ≤ n from h)
  rw [Nat.succ_mul] at this; exact this
theorem OwnE.parts (O : E.Ok) {w : World} {B : Nat} {v : Value} {l : List α} (h : OwnE E w B v l) : ∃ g cap cur, v = .slice (some ⟨g, 0, none⟩) l.length cap ∧ B ≤ g ∧ w.heap[g]? = some (.cells cur E.T (0, 0)) ∧ l.length ≤ cap ∧ cap ≤ maxLen ∧ cur.size = cap * E.sz ∧ ∀ j (hj : j < l.length) r, r < E.sz → cur[j * E.sz + r]? = (E.cs l[j])[r]? := by
  obtain ⟨g0, cap0, hv0, hl, ⟨h0, _⟩ | ⟨g, cap, cur, hv, hB, hh, hc, hm, hs, ht⟩⟩ := h
  · rw [hv0] at h0; cases h0
  · refine ⟨g, cap, cur, hv, hB, hh, hc, hm, hs, fun j hj r hr => ?_⟩
    have hlt : j * E.sz + r < l.length * E.sz := by have := mul_stepE j l.length E.sz hj; omega
    have h1 : (cur.toList.take (l.length * E.sz))[j * E.sz + r]? = (l.flatMap E.cs)[j * E.sz + r]? := by rw [ht]
    rw [List.getElem?_take_of_lt hlt, flatE_at O l j r hj hr] at h1
    simpa using h1
theorem OwnE.of_parts (O : E.Ok) {w : World} {B g cap : Nat} {cur : Array Value} {l : List α} (hB : B ≤ g) (hh : w.heap[g]? = some (.cells cur E.T (0, 0))) (hc : l.length ≤ cap) (hm : cap ≤ maxLen) (hs : cur.size = cap * E.sz) (hx : ∀ j (hj : j < l.length) r, r < E.sz → cur[j * E.sz + r]? = (E.cs l[j])[r]?) : OwnE E w B (.slice (some ⟨g, 0, none⟩) l.length cap) l := by
  refine ⟨g, cap, rfl, flatE_len O l, Or.inr ⟨g, cap, cur, rfl, hB, hh, hc, hm, hs, ?_⟩⟩
  apply List.ext_getElem?
  intro i
  by_cases hi : i < l.length * E.sz
  · rw [List.getElem?_take_of_lt hi]
    have hp := O.pos
    have hj : i / E.sz < l.length := Nat.div_lt_of_lt_mul (by rw [Nat.mul_comm]; exact hi)
    have hr : i % E.sz < E.sz := Nat.mod_lt _ hp
    have e : i / E.sz * E.sz + i % E.sz = i := by rw [Nat.mul_comm]; exact Nat.div_add_mod _ _
    have h1 := hx (i / E.sz) hj (i % E.sz) hr
    have h2 := flatE_at O l (i / E.sz) (i % E.sz) hj hr
    rw [e] at h1 h2
    rw [h2, ← h1]; simp
  · rw [List.getElem?_eq_none (by simp; omega), List.getElem?_eq_none (by rw [flatE_len O]; omega)]
theorem OwnE.stays {w w' : World} {B : Nat} {v : Value} {l : List α} (h : OwnE E w B v l) (bel : Below w.heap.size w w') : OwnE E w' B v l :=
  let ⟨g, cap, hv, ho⟩ := h
  ⟨g, cap, hv, ownsI_stays ho bel⟩
theorem OwnE.mono {w : World} {B B' : Nat} {v : Value} {l : List α} (h : OwnE E w B v l) (hB : B' ≤ B) : OwnE E w B' v l := by
  obtain ⟨g, cap, hv, hl, h0 | ⟨g', cap', cur, hv', hB', hr⟩⟩ := h
  · exact ⟨g, cap, hv, hl, Or.inl h0⟩
  · exact ⟨g, cap, hv, hl, Or.inr ⟨g', cap', cur, hv', Nat.le_trans hB hB', hr⟩⟩
theorem OwnE.low {w : World} {B : Nat} {v : Value} {l : List α} (h : OwnE E w B v l) : ∀ b, v.ownBlock = some b → B ≤ b ∧ b < w.heap.size := fun b hb => h.choose_spec.choose_spec.2.lt b hb
theorem OwnE.kept {w w' : World} {B : Nat} {v : Value} {l : List α} {row : Option Nat} (h : OwnE E w B v l) (hg : w.grownBy w' row) (hne : v.ownBlock ≠ row) : OwnE E w' B v l := by
  obtain ⟨g, cap, hv, hl, h0 | ⟨g', cap', cur, hv', hB', hh, hr⟩⟩ := h
  · exact ⟨g, cap, hv, hl, Or.inl h0⟩
  · refine ⟨g, cap, hv, hl, Or.inr ⟨g', cap', cur, hv', hB', (hg.block g' (Array.getElem?_eq_some_iff.1 hh).1 ?_).trans hh, hr⟩⟩
    intro e; apply hne; rw [← e, hv']; rfl
/-- It stays where its own block does. -/
theorem OwnE.blk {w w' : World} {B : Nat} {v : Value} {l : List α} (h : OwnE E w B v l) (hb : ∀ g, v.ownBlock = some g → g < w.heap.size → w'.heap[g]? = w.heap[g]?) : OwnE E w' B v l := by
  obtain ⟨g0, cap, hv, hl, h0 | ⟨g', cap', cur, hv', hB', hh, hr⟩⟩ := h
  · exact ⟨g0, cap, hv, hl, Or.inl h0⟩
  · exact ⟨g0, cap, hv, hl, Or.inr ⟨g', cap', cur, hv', hB', (hb g' (by rw [hv']; rfl) (Array.getElem?_eq_some_iff.1 hh).1).trans hh, hr⟩⟩
theorem OwnE.butG {w w' : World} {B g : Nat} {v : Value} {l : List α} (h : OwnE E w B v l) (hb : But g w w') (hne : v.ownBlock ≠ some g) : OwnE E w' B v l :=
  h.blk (fun k hk hlt => hb.block k hlt (fun e => hne (by rw [hk, e])))
theorem own_nil (O : E.Ok) (w : World) (n : Nat) (hn : n = w.heap.size) : OwnE E (w.alloc (.cells #[] E.T)) w.heap.size (.slice (some ⟨n, 0, none⟩) 0 0) ([] : List α) := by
  subst hn
  exact OwnE.of_parts O (l := []) (Nat.le_refl _) (by show (w.heap.push _)[w.heap.size]? = _; exact Array.getElem?_push_size) (Nat.le_refl _) (Nat.zero_le _) (by simp) (fun j hj => absurd hj (Nat.not_lt_zero _))
theorem run_appE (O : E.Ok) {w : World} {B : Nat} {v1 : Value} {l1 : List α} {x : α} {b o cap2 : Nat} (ty : TypeId) (h1 : OwnE E w B v1 l1) (h2 : ∀ r, r < E.sz → w.cell? ⟨b, o + r, none⟩ = (E.cs x)[r]?) (hn : l1.length + 1 ≤ 8000000) (hB : B ≤ w.heap.size) :
    ∃ v' w', (Builtin.append_ #[E.ST, E.ST] ty #[v1, .slice (some ⟨b, o, none⟩) 1 cap2]).run Try.prog w = .ok v' w' ∧ OwnE E w' B v' (l1 ++ [x]) ∧ w.grownBy w' v1.ownBlock ∧ (v'.ownBlock = v1.ownBlock ∨ v'.ownBlock = some w.heap.size) := by
  obtain ⟨i0, hi, hz0, hz1, hz2⟩ := info_parts O.info
  obtain ⟨g, cap, hv, hown⟩ := h1
  have hf := O.few
  have hbn : (l1.length + 1) * E.bys ≤ 8000000 * 1000 := Nat.mul_le_mul hn hf
  obtain ⟨v', w', hr, ho, hg, hnil, hloc⟩ := run_append_own_at (P := Try.prog) w B E.ST ty E.T i0 E.z E.sz E.bys O.und hi hz0 hz1 hz2 O.zs O.pos v1 l1.length (l1.flatMap E.cs) hown ⟨b, o, none⟩ 1 cap2 (E.cs x) (by rw [O.len]; omega) (fun j u hj => by rw [addr_add', h2 j (by have := (List.getElem?_eq_some_iff.1 hj).1; rwa [O.len] at this), hj]) (O.one x) (by unfold maxLen; omega) (by omega) hB
  refine ⟨v', w', hr, ?_, hg, hloc⟩
  unfold OwnE
  rw [List.length_append, List.flatMap_append]
  have ho' := ho
  obtain ⟨_, ⟨h0, _⟩ | ⟨g', cap', _, hv', _⟩⟩ := ho'
  · have := (hnil.1 h0).1; rw [hv] at this; cases this
  · exact ⟨g', cap', hv', by simpa using ho⟩
theorem list_appE (O : E.Ok) {ops : Array Oper} {o : Oper} {a : Act} {Q : Exit → Act → World → Prop} {rest : List Oper} (w : World) (hgd : o.guard = none) (s y : Operand) (ho : o.op = .call { callee := .builtin .append, args := #[s, y], argTypes := #[E.ST, E.ST] })
    (B : Nat) (v1 : Value) (l1 : List α) (x : α) (b o2 cap2 : Nat) (hs : a.eval s = v1) (hx : a.eval y = .slice (some ⟨b, o2, none⟩) 1 cap2) (h1 : OwnE E w B v1 l1) (h2 : ∀ r, r < E.sz → w.cell? ⟨b, o2 + r, none⟩ = (E.cs x)[r]?) (hn : l1.length + 1 ≤ 8000000) (hB : B ≤ w.heap.size)
    (h : ∀ v' w', OwnE E w' B v' (l1 ++ [x]) → w.grownBy w' v1.ownBlock → (v'.ownBlock = v1.ownBlock ∨ v'.ownBlock = some w.heap.size) → wpList Try.prog ops Q rest (a.put o.dst v') w') :
    wpList Try.prog ops Q (o :: rest) a w := by
  refine wpList_plain hgd fun K hK => ?_
  obtain ⟨v', w', hr, r1, r2, r3⟩ := run_appE O (cap2 := cap2) o.type h1 h2 hn hB
  unfold Oper.wp execOp
  simp only [ho, resolve, invoke, builtin, Sem.run_bind, Sem.run_pure, Result.andThen_ok, List.map_toArray, List.map_cons, List.map_nil, hs, hx, hr]
  exact hK _ _ (h v' w' r1 r2 r3)
theorem step_appE (O : E.Ok) {ops : Array Oper} {o : Oper} {a : Act} {Q : Exit → Act → World → Prop} {K : Act → World → Prop} {F : Prop} (w : World) (hgd : o.guard = none) (s y : Operand) (ho : o.op = .call { callee := .builtin .append, args := #[s, y], argTypes := #[E.ST, E.ST] })
    (B : Nat) (v1 : Value) (l1 : List α) (x : α) (b o2 cap2 : Nat) (hs : a.eval s = v1) (hx : a.eval y = .slice (some ⟨b, o2, none⟩) 1 cap2) (h1 : OwnE E w B v1 l1) (h2 : ∀ r, r < E.sz → w.cell? ⟨b, o2 + r, none⟩ = (E.cs x)[r]?) (hn : l1.length + 1 ≤ 8000000) (hB : B ≤ w.heap.size)
    (h : ∀ v' w', OwnE E w' B v' (l1 ++ [x]) → w.grownBy w' v1.ownBlock → (v'.ownBlock = v1.ownBlock ∨ v'.ownBlock = some w.heap.size) → K (a.put o.dst v') w') :
    if Region.wanted o (yielded ops a.tmps) = true then Oper.wp Try.prog o a w K Q else F := by
  have hw : Region.wanted o (yielded ops a.tmps) = true := by simp [Region.wanted, hgd]
  rw [if_pos hw]
  obtain ⟨v', w', hr, r1, r2, r3⟩ := run_appE O (cap2 := cap2) o.type h1 h2 hn hB
  unfold Oper.wp execOp
  simp only [ho, resolve, invoke, builtin, Sem.run_bind, Sem.run_pure, Result.andThen_ok, List.map_toArray, List.map_cons, List.map_nil, hs, hx, hr]
  exact h v' w' r1 r2 r3
/-- The cells of element j. -/
theorem OwnE.at (O : E.Ok) {w : World} {B g n cap : Nat} {l : List α} (h : OwnE E w B (.slice (some ⟨g, 0, none⟩) n cap) l) (j : Nat) (hj : j < l.length) (r : Nat) (hr : r < E.sz) : w.cell? ⟨g, 0 + j * E.sz + r, none⟩ = (E.cs l[j])[r]? := by
  obtain ⟨g', cap', cur, hv, _, hh, _, _, _, hx⟩ := h.parts O
  cases hv
  simp only [World.cell?, hh, Nat.zero_add]
  exact hx j hj r hr
end
end Go.Proofs.Ytobpcfelgobedab

/- The order in which blocks are gone to: plain. A stack of blocks to go to, and those that were gone to. -/
namespace Go.Proofs.Ytobpcfelgobedab
open Go.ChangeShapes Go.WideShapes Go.ChangeAt Go.RowKit
/-- The blocks that block a goes to. -/
def nxt (xs : List Blk) (a : Int) : List Int := match xs[a.toNat]? with
  | some x => nextP x
  | none => []
theorem nxt_at {xs : List Blk} {i : Nat} (h : i < xs.length) : nxt xs (i : Int) = nextP xs[i] := by simp [nxt, h]
theorem nxt_len (xs : List Blk) (a : Int) : (nxt xs a).length ≤ 2 := by
  unfold nxt
  split
  · exact nextP_len _
  · simp
def InR (n : Nat) (y : Int) : Prop := 0 ≤ y ∧ y < (n : Int)
def AllIn (xs : List Blk) : Prop := ∀ x ∈ xs, ∀ y ∈ nextP x, InR xs.length y
theorem nxt_in {xs : List Blk} (h : AllIn xs) (a : Int) : ∀ y ∈ nxt xs a, InR xs.length y := by
  intro y hy
  unfold nxt at hy
  split at hy
  · rename_i x hx
    exact h x (List.mem_of_getElem? hx) y hy
  · simp at hy
theorem allIn_of {g : Gr} (h : grOk g = true) : AllIn g.blocks := by
  intro x hx y hy
  simp only [grOk, Bool.and_eq_true, List.all_eq_true] at h
  have h1 := h.2 x hx
  unfold jmpOk at h1
  unfold nextP at hy
  by_cases h0 : x.jump = 0
  · simp only [h0, if_true, List.mem_singleton] at hy
    subst hy
    simp [h0, vOk] at h1
    exact h1.2
  · by_cases h2 : x.jump = 1
    · simp [h2] at hy
      simp [h2, vOk] at h1
      rcases hy with rfl | rfl
      · exact h1.1.2
      · exact h1.2
    · simp [h0, h2] at hy
/-- From a stack and what was gone to so far to all that is gone to. -/
inductive Run (xs : List Blk) : List Int → List Int → List Int → Prop
  | nil (out : List Int) : Run xs [] out out
  | skip {a : Int} {W out r : List Int} : a ∈ out → Run xs W out r → Run xs (a :: W) out r
  | go {a : Int} {W out r : List Int} : ¬ a ∈ out → Run xs (nxt xs a ++ W) (out ++ [a]) r → Run xs (a :: W) out r
theorem Run.nil_inv {xs : List Blk} {out r : List Int} (h : Run xs [] out r) : out = r := by cases h; rfl
theorem Run.skip_inv {xs : List Blk} {a : Int} {W out r : List Int} (h : Run xs (a :: W) out r) (ha : a ∈ out) : Run xs W out r := by
  cases h with
  | skip _ h => exact h
  | go hn _ => exact absurd ha hn
theorem Run.go_inv {xs : List Blk} {a : Int} {W out r : List Int} (h : Run xs (a :: W) out r) (ha : ¬ a ∈ out) : Run xs (nxt xs a ++ W) (out ++ [a]) r := by
  cases h with
  | skip hn _ => exact absurd hn ha
  | go _ h => exact h
theorem Run.det {xs : List Blk} {W out r : List Int} (h : Run xs W out r) : ∀ {r' : List Int}, Run xs W out r' → r = r' := by
  induction h with
  | nil out => intro r' h'; exact h'.nil_inv
  | skip ha _ ih => intro r' h'; exact ih (h'.skip_inv ha)
  | go ha _ ih => intro r' h'; exact ih (h'.go_inv ha)
theorem filt_le {α : Type} {p q : α → Bool} : ∀ (l : List α), (∀ x, q x = true → p x = true) → (l.filter q).length ≤ (l.filter p).length
  | [], _ => by simp
  | x :: l, h => by
    have ih := filt_le l h
    cases hq : q x
    · rw [List.filter_cons_of_neg (by simp [hq])]
      cases hp : p x
      · rw [List.filter_cons_of_neg (by simp [hp])]; exact ih
      · rw [List.filter_cons_of_pos hp]; simp; omega
    · rw [List.filter_cons_of_pos hq, List.filter_cons_of_pos (h x hq)]; simp; exact ih
theorem filt_lt {α : Type} {p q : α → Bool} {a : α} : ∀ (l : List α), (∀ x, q x = true → p x = true) → a ∈ l → p a = true → q a = false → (l.filter q).length + 1 ≤ (l.filter p).length
  | [], _, h, _, _ => by simp at h
  | x :: l, h, hm, hp, hq => by
    rcases List.mem_cons.1 hm with rfl | hm
    · rw [List.filter_cons_of_neg (by simp [hq]), List.filter_cons_of_pos hp]
      have := filt_le l h
      simp; exact this
    · have ih := filt_lt l h hm hp hq
      cases hq' : q x
      · rw [List.filter_cons_of_neg (by simp [hq'])]
        cases hp' : p x
        · rw [List.filter_cons_of_neg (by simp [hp'])]; exact ih
        · rw [List.filter_cons_of_pos hp']; simp; omega
      · rw [List.filter_cons_of_pos hq', List.filter_cons_of_pos (h x hq')]; simp; omega
/-- How many of the first n blocks were not gone to. -/
def free (n : Nat) (out : List Int) : Nat := ((List.range n).filter fun (i : Nat) => !decide ((i : Int) ∈ out)).length
theorem free_le (n : Nat) (out : List Int) : free n out ≤ n := by
  unfold free
  exact Nat.le_trans (List.length_filter_le _ _) (by simp)
theorem free_step {n : Nat} {out : List Int} {a : Int} (h : ¬ a ∈ out) (hr : InR n a) : free n (out ++ [a]) + 1 ≤ free n out := by
  unfold free
  obtain ⟨h0, h1⟩ := hr
  refine filt_lt (a := a.toNat) _ (fun x hx => ?_) (List.mem_range.2 (by omega)) ?_ ?_
  · simp at hx ⊢; exact hx.1
  · have : ((a.toNat : Nat) : Int) = a := by omega
    rw [this]; simpa using h
  · have : ((a.toNat : Nat) : Int) = a := by omega
    rw [this]; simp
/-- No more than there are. -/
def Few (n : Nat) (out : List Int) : Prop := out.length + free n out ≤ n
theorem few_nil (n : Nat) : Few n [] := by unfold Few; have := free_le n []; simpa using this
theorem Few.step {n : Nat} {out : List Int} {a : Int} (h : Few n out) (ha : ¬ a ∈ out) (hr : InR n a) : Few n (out ++ [a]) := by
  have := free_step ha hr
  unfold Few at *
  rw [List.length_append]; simp; omega
theorem run_ex {xs : List Blk} (hn : AllIn xs) : ∀ (m : Nat) (W out : List Int), free xs.length out * 3 + W.length ≤ m → (∀ y ∈ W, InR xs.length y) → Few xs.length out → ∃ r, Run xs W out r ∧ r.length ≤ xs.length
  | _, [], out, _, _, hf => ⟨out, Run.nil out, by unfold Few at hf; omega⟩
  | 0, a :: W, out, hm, _, _ => by simp at hm
  | m + 1, a :: W, out, hm, hW, hf => by
    by_cases ha : a ∈ out
    · obtain ⟨r, h1, h2⟩ := run_ex hn m W out (by simp at hm; omega) (fun y hy => hW y (List.mem_cons_of_mem _ hy)) hf
      exact ⟨r, Run.skip ha h1, h2⟩
    · have hr := hW a List.mem_cons_self
      have hs := free_step ha hr
      have hl := nxt_len xs a
      obtain ⟨r, h1, h2⟩ := run_ex hn m (nxt xs a ++ W) (out ++ [a]) (by simp at hm ⊢; omega) (fun y hy => by
        rcases List.mem_append.1 hy with hy | hy
        · exact nxt_in hn a y hy
        · exact hW y (List.mem_cons_of_mem _ hy)) (hf.step ha hr)
      exact ⟨r, Run.go ha h1, h2⟩
theorem order_ex {g : Gr} (h : grOk g = true) : ∃ r, Run g.blocks [0] [] r ∧ r.length ≤ g.blocks.length := by
  have hb : 1 ≤ g.blocks.length := by
    simp only [grOk, frOk, Bool.and_eq_true, decide_eq_true_eq] at h
    omega
  exact run_ex (allIn_of h) _ [0] [] (Nat.le_refl _) (fun y hy => by simp at hy; subst hy; exact ⟨by omega, by omega⟩) (few_nil _)
open Classical in
noncomputable def orderP (g : Gr) : List Int := if h : grOk g = true then Classical.choose (order_ex h) else []
theorem orderP_run {g : Gr} (h : grOk g = true) : Run g.blocks [0] [] (orderP g) := by
  unfold orderP; rw [dif_pos h]; exact (Classical.choose_spec (order_ex h)).1
theorem orderP_none {g : Gr} (h : ¬ grOk g = true) : orderP g = [] := by unfold orderP; rw [dif_neg h]
theorem orderP_len (g : Gr) : (orderP g).length ≤ g.blocks.length := by
  unfold orderP
  split
  · rename_i h; exact (Classical.choose_spec (order_ex h)).2
  · simp
theorem orderP_few (g : Gr) : (orderP g).length ≤ 300 := by
  by_cases h : grOk g = true
  · refine Nat.le_trans (orderP_len g) ?_
    simp only [grOk, frOk, Bool.and_eq_true, decide_eq_true_eq] at h
    omega
  · rw [orderP_none h]; simp
end Go.Proofs.Ytobpcfelgobedab

/- A graph with some of its blocks, in some order: plain. -/
namespace Go.Proofs.Ytobpcfelgobedab
open Go.ChangeShapes Go.WideShapes Go.ChangeAt Go.RowKit
/-- The new numbers of n blocks, after j of the list L. -/
def numF (n : Nat) (L : List Int) : Nat → List Int
  | 0 => List.replicate n 0
  | j + 1 => (numF n L j).set (L[j]!).toNat (j : Int)
theorem numF_len (n : Nat) (L : List Int) : ∀ j, (numF n L j).length = n
  | 0 => by simp [numF]
  | j + 1 => by simp [numF, numF_len n L j]
theorem numF_i64 (n : Nat) (L : List Int) : ∀ j, j ≤ 1000 → ∀ z ∈ numF n L j, I64 z
  | 0, _, z, hz => by
    have : z = 0 := by simp only [numF] at hz; exact (List.mem_replicate.1 hz).2
    subst this; exact ⟨by omega, by omega⟩
  | j + 1, h, z, hz => by
    simp only [numF] at hz
    rcases List.mem_or_eq_of_mem_set hz with hz | rfl
    · exact numF_i64 n L j (by omega) z hz
    · exact ⟨by omega, by omega⟩
/-- A block that goes to the new numbers. -/
def reB (N : List Int) (b : Blk) : Blk :=
  if b.jump = 1 then { b with to := N[b.to.toNat]!, els := N[b.els.toNat]! } else if b.jump = 0 then { b with to := N[b.to.toNat]! } else b
theorem reB_code (N : List Int) (b : Blk) : (reB N b).code = b.code := by unfold reB; split; · rfl
                                                                          split <;> rfl
def rowB (bs : List Blk) (L : List Int) : List Blk := L.map fun y => reB (numF bs.length L L.length) (bs[y.toNat]!)
/-- A list of blocks that are there. -/
def Inn (n : Nat) (L : List Int) : Prop := ∀ y ∈ L, InR n y
/-- What a block that is right goes to. -/
theorem jump_to {g : Gr} (h : grOk g = true) {b : Blk} (hb : b ∈ g.blocks) (hj : b.jump = 0 ∨ b.jump = 1) : InR g.blocks.length b.to := by
  have := allIn_of h b hb
  unfold nextP at this
  rcases hj with hj | hj <;> simp [hj] at this
  · exact this
  · exact this.1
theorem jump_els {g : Gr} (h : grOk g = true) {b : Blk} (hb : b ∈ g.blocks) (hj : b.jump = 1) : InR g.blocks.length b.els := by
  have := allIn_of h b hb
  unfold nextP at this
  simp [hj] at this
  exact this.2
theorem jump_three {g : Gr} (h : grOk g = true) {b : Blk} (hb : b ∈ g.blocks) : b.jump = 0 ∨ b.jump = 1 ∨ b.jump = 2 := by
  simp only [grOk, Bool.and_eq_true, List.all_eq_true] at h
  have h1 := h.2 b hb
  unfold jmpOk at h1
  by_cases h0 : b.jump = 0
  · exact Or.inl h0
  · by_cases h2 : b.jump = 1
    · exact Or.inr (Or.inl h2)
    · by_cases h3 : b.jump = 2
      · exact Or.inr (Or.inr h3)
      · simp [h0, h2, h3] at h1
/-- How a block's cells stand in a list: where its code lies, and the block. -/
abbrev BRow := Option Addr × Nat × Blk
def BlE : Elem BRow := { T := 40, ST := 27, sz := 5, bys := 56, z := .agg #[.slice none 0 0, .int .i64 0, .int .i64 0, .int .i64 0, .int .i64 0], cs := fun x => [.slice x.1 x.2.2.code.length x.2.1, .int .i64 x.2.2.jump, .int .i64 x.2.2.a, .int .i64 x.2.2.to, .int .i64 x.2.2.els] }
theorem BlE_ok : BlE.Ok where
  und := Try.underlying27
  info := by kernel_rfl
  zs := by decide
  pos := by decide
  few := by decide
  len := fun _ => rfl
  one := fun x u hu => by
    simp only [BlE, List.mem_cons, List.not_mem_nil, or_false] at hu
    rcases hu with rfl | rfl | rfl | rfl | rfl <;> rfl
/-- The new numbers lie in block g. -/
def NumIs (w : World) (g : Nat) (l : List Int) : Prop := ∃ cur, w.heap[g]? = some (.cells cur 3 (0, 0)) ∧ cur.size = l.length ∧ ∀ i (h : i < l.length), cur[i]? = some (.int .i64 l[i])
theorem NumIs.at {w : World} {g : Nat} {l : List Int} (h : NumIs w g l) {i : Nat} (hi : i < l.length) : w.cell? ⟨g, i, none⟩ = some (.int .i64 (l[i]!)) ∧ w.frozen? ⟨g, i, none⟩ = false := by
  obtain ⟨cur, h1, h2, h3⟩ := h
  exact ⟨by simp only [World.cell?, h1, getElem!_pos l i hi]; exact h3 i hi, by simp [World.frozen?, h1]⟩
theorem NumIs.set {w : World} {g : Nat} {l : List Int} (h : NumIs w g l) (k : Nat) (z : Int) : NumIs (w.setCell ⟨g, k, none⟩ (.int .i64 z)) g (l.set k z) := by
  obtain ⟨cur, h1, h2, h3⟩ := h
  refine ⟨cur.setIfInBounds k (.int .i64 z), heap_setCell_same w g k cur _ _ h1, by simpa using h2, fun i hi => ?_⟩
  rw [List.length_set] at hi
  rw [Array.getElem?_setIfInBounds, List.getElem_set]
  split
  · rename_i e
    subst e
    rw [if_pos (by omega)]
  · exact h3 i hi
theorem NumIs.keep {w w' : World} {g : Nat} {l : List Int} (h : NumIs w g l) (hk : w'.heap[g]? = w.heap[g]?) : NumIs w' g l :=
  let ⟨cur, h1, h2⟩ := h
  ⟨cur, hk.trans h1, h2⟩
theorem num_made (w : World) (n : Nat) : NumIs (w.alloc (.cells (madeCells #[Value.int .i64 0] n) 3)) w.heap.size (List.replicate n 0) := by
  refine ⟨_, by show (w.heap.push _)[w.heap.size]? = _; exact Array.getElem?_push_size, by simp [size_madeCells], fun i hi => ?_⟩
  rw [List.length_replicate] at hi
  simp [madeCells, hi, Nat.mod_one]
end Go.Proofs.Ytobpcfelgobedab

/- Plain: a list of numbers kept rising, each once, is the sorted list with runs taken out. -/
namespace Go.Proofs.Ytobpcfelgobedab

/-- n put into its place, if it isn't there. -/
def addTo : List Int → Int → List Int
  | [], n => [n]
  | x :: l, n => if x < n then x :: addTo l n else if x = n then x :: l else n :: x :: l
def Rising (l : List Int) : Prop := l.Pairwise (· < ·)
theorem addTo_mem (n y : Int) : ∀ l : List Int, y ∈ addTo l n ↔ y = n ∨ y ∈ l
  | [] => by simp [addTo]
  | x :: l => by
    unfold addTo
    split
    · simp [addTo_mem n y l]
      constructor
      · rintro (h | h | h) <;> simp [h]
      · rintro (h | h | h) <;> simp [h]
    · split
      · rename_i h; subst h; simp
      · simp
theorem addTo_rising (n : Int) : ∀ l : List Int, Rising l → Rising (addTo l n)
  | [], _ => by simp [addTo, Rising]
  | x :: l, h => by
    unfold Rising at h
    rw [List.pairwise_cons] at h
    unfold addTo
    split
    · rename_i hx
      refine List.pairwise_cons.2 ⟨fun y hy => ?_, addTo_rising n l h.2⟩
      rcases (addTo_mem n y l).1 hy with rfl | hy
      · exact hx
      · exact h.1 y hy
    · split
      · exact List.pairwise_cons.2 h
      · rename_i hx hne
        have hlt : n < x := by omega
        refine List.pairwise_cons.2 ⟨fun y hy => ?_, List.pairwise_cons.2 h⟩
        rcases List.mem_cons.1 hy with rfl | hy
        · exact hlt
        · have := h.1 y hy; omega
/-- A rising list is told by its members. -/
theorem rising_eq : ∀ (l m : List Int), Rising l → Rising m → (∀ y, y ∈ l ↔ y ∈ m) → l = m
  | [], [], _, _, _ => rfl
  | [], y :: m, _, _, h => by have := (h y).2 (by simp); simp at this
  | x :: l, [], _, _, h => by have := (h x).1 (by simp); simp at this
  | x :: l, y :: m, hl, hm, h => by
    unfold Rising at hl hm
    rw [List.pairwise_cons] at hl hm
    have hxy : x = y := by
      have h1 := (h x).1 (by simp)
      have h2 := (h y).2 (by simp)
      rcases List.mem_cons.1 h1 with e | h1
      · exact e
      · rcases List.mem_cons.1 h2 with e | h2
        · exact e.symm
        · have := hm.1 x h1
          have := hl.1 y h2
          omega
    subst hxy
    rw [rising_eq l m hl.2 hm.2 fun z => ?_]
    have hz := h z
    simp only [List.mem_cons] at hz
    constructor
    · intro hzl
      rcases hz.1 (Or.inr hzl) with e | e
      · subst e; exact absurd (hl.1 z hzl) (Int.lt_irrefl _)
      · exact e
    · intro hzm
      rcases hz.2 (Or.inr hzm) with e | e
      · subst e; exact absurd (hm.1 z hzm) (Int.lt_irrefl _)
      · exact e
theorem foldl_addTo (xs : List Int) : ∀ l : List Int, Rising l → Rising (xs.foldl addTo l) ∧ ∀ y, y ∈ xs.foldl addTo l ↔ y ∈ xs ∨ y ∈ l := by
  induction xs with
  | nil => intro l h; exact ⟨h, fun y => by simp⟩
  | cons x xs ih =>
    intro l h
    obtain ⟨h1, h2⟩ := ih (addTo l x) (addTo_rising x l h)
    refine ⟨h1, fun y => ?_⟩
    rw [List.foldl_cons, h2, addTo_mem, List.mem_cons]
    constructor
    · rintro (h | h | h) <;> simp [h]
    · rintro ((h | h) | h) <;> simp [h]
def addAll (xs : List Int) : List Int := xs.foldl addTo []
theorem addAll_rising (xs : List Int) : Rising (addAll xs) := (foldl_addTo xs [] (by simp [Rising])).1
theorem addAll_mem (xs : List Int) (y : Int) : y ∈ addAll xs ↔ y ∈ xs := by simpa [addAll] using (foldl_addTo xs [] (by simp [Rising])).2 y
/-- Runs taken out of a list that goes up. -/
theorem compactUpTo_up (d : Array Int) (hd : ∀ i j, i ≤ j → j < d.size → d[i]! ≤ d[j]!) : ∀ m, m ≤ d.size → Rising (Lib.compactUpTo d m) ∧ (∀ y, y ∈ Lib.compactUpTo d m ↔ ∃ i, i < m ∧ d[i]! = y) := by
  intro m
  induction m with
  | zero => intro _; exact ⟨by simp [Lib.compactUpTo, Rising], fun y => by simp [Lib.compactUpTo]⟩
  | succ m ih =>
    intro hm
    obtain ⟨h1, h2⟩ := ih (by omega)
    rw [Lib.compactUpTo_succ]
    by_cases hk : Lib.keeps d m = true
    · rw [if_pos hk]
      refine ⟨List.pairwise_append.2 ⟨h1, by simp, fun a ha b hb => ?_⟩, fun y => ?_⟩
      · obtain ⟨i, hi, rfl⟩ := (h2 a).1 ha
        have : b = d[m]! := by simpa using hb
        subst this
        have hne : d[m]! ≠ d[m - 1]! := by
          have : m = 0 ∨ d[m]! ≠ d[m - 1]! := by simpa [Lib.keeps] using hk
          rcases this with h | h
          · omega
          · exact h
        have l1 := hd i (m - 1) (by omega) (by omega)
        have l2 := hd (m - 1) m (by omega) (by omega)
        omega
      · rw [List.mem_append, h2]
        constructor
        · rintro (⟨i, hi, rfl⟩ | h)
          · exact ⟨i, by omega, rfl⟩
          · exact ⟨m, by omega, by simpa using (List.mem_singleton.1 h).symm⟩
        · rintro ⟨i, hi, rfl⟩
          by_cases e : i = m
          · subst e; exact Or.inr (by simp)
          · exact Or.inl ⟨i, by omega, rfl⟩
    · rw [if_neg hk]
      have hk' : ¬ (m = 0 ∨ d[m]! ≠ d[m - 1]!) := by intro h; exact hk (by simpa [Lib.keeps] using h)
      have hm0 : m ≠ 0 := fun h => hk' (Or.inl h)
      have he : d[m]! = d[m - 1]! := Decidable.byContradiction fun h => hk' (Or.inr h)
      refine ⟨by simpa using h1, fun y => ?_⟩
      rw [List.append_nil, h2]
      constructor
      · rintro ⟨i, hi, rfl⟩; exact ⟨i, by omega, rfl⟩
      · rintro ⟨i, hi, rfl⟩
        by_cases e : i = m
        · subst e; exact ⟨i - 1, by omega, he.symm⟩
        · exact ⟨i, by omega, rfl⟩
theorem compact_up (zs : List Int) (h : zs.Pairwise (· ≤ ·)) : Rising (Lib.compact zs) ∧ ∀ y, y ∈ Lib.compact zs ↔ y ∈ zs := by
  have hd : ∀ i j, i ≤ j → j < zs.toArray.size → zs.toArray[i]! ≤ zs.toArray[j]! := by
    intro i j hij hj
    have hj' : j < zs.length := by simpa using hj
    have hi' : i < zs.length := by omega
    rw [getElem!_pos _ i (by simpa using hi'), getElem!_pos _ j hj]
    by_cases e : i = j
    · subst e; exact Int.le_refl _
    · simpa using List.pairwise_iff_getElem.1 h i j hi' hj' (by omega)
  obtain ⟨h1, h2⟩ := compactUpTo_up zs.toArray hd zs.length (by simp)
  refine ⟨h1, fun y => ?_⟩
  unfold Lib.compact
  rw [h2]
  constructor
  · rintro ⟨i, hi, rfl⟩
    rw [getElem!_pos _ i (by simpa using hi)]
    simp
  · intro hy
    obtain ⟨i, hi, rfl⟩ := List.getElem_of_mem hy
    exact ⟨i, hi, by rw [getElem!_pos _ i (by simpa using hi)]; simp⟩
theorem sorted_up (xs : List Int) : (xs.mergeSort fun x y => decide (x ≤ y)).Pairwise (· ≤ ·) := by
  have := List.pairwise_mergeSort (le := fun x y : Int => decide (x ≤ y)) (fun a b c h1 h2 => by simp at *; omega) (fun a b => by simp; omega) xs
  simpa using this
/-- What both sides make of the numbers met. -/
theorem asc_eq (xs ys : List Int) (h : ∀ y, y ∈ xs ↔ y ∈ ys) : Lib.compact (xs.mergeSort fun x y => decide (x ≤ y)) = addAll ys := by
  obtain ⟨h1, h2⟩ := compact_up _ (sorted_up xs)
  refine rising_eq _ _ h1 (addAll_rising ys) fun y => ?_
  rw [h2, addAll_mem, ← h]
  simp
theorem addTo_here (n : Int) : ∀ (xs : List Int) (j : Nat), j ≤ xs.length → (∀ i (h : i < xs.length), i < j → xs[i] < n) → (∀ h : j < xs.length, n < xs[j]) → addTo xs n = xs.take j ++ n :: xs.drop j
  | [], j, hj, _, _ => by simp [addTo]
  | x :: xs, 0, _, _, h2 => by
    have := h2 (by simp)
    simp at this
    unfold addTo
    rw [if_neg (by omega), if_neg (by omega)]
    simp
  | x :: xs, j + 1, hj, h1, h2 => by
    have h0 := h1 0 (by simp) (by omega)
    simp at h0
    unfold addTo
    rw [if_pos h0, addTo_here n xs j (by simpa using hj) (fun i h hi => by have := h1 (i + 1) (by simpa using h) (by omega); simpa using this) (fun h => by have := h2 (by simpa using h); simpa using this)]
    simp
theorem addTo_there (n : Int) : ∀ (xs : List Int) (j : Nat) (hj : j < xs.length), (∀ i (h : i < xs.length), i < j → xs[i] < n) → xs[j] = n → addTo xs n = xs
  | [], j, hj, _, _ => by simp at hj
  | x :: xs, 0, _, _, h2 => by
    simp at h2
    unfold addTo
    rw [if_neg (by omega), if_pos h2]
  | x :: xs, j + 1, hj, h1, h2 => by
    have h0 := h1 0 (by simp) (by omega)
    simp at h0
    unfold addTo
    rw [if_pos h0, addTo_there n xs j (by simpa using hj) (fun i h hi => by have := h1 (i + 1) (by simpa using h) (by omega); simpa using this) (by simpa using h2)]
end Go.Proofs.Ytobpcfelgobedab

/- The blocks that go to one: plain. -/
namespace Go.Proofs.Ytobpcfelgobedab
open Go.ChangeShapes Go.WideShapes Go.ChangeAt Go.RowKit
/-- Block j goes to n. -/
def goesTo (xs : List Blk) (n : Int) (j : Nat) : Bool := match xs[j]? with
  | some x => decide (n ∈ nextP x)
  | none => false
theorem goesTo_at {xs : List Blk} {n : Int} {j : Nat} (h : j < xs.length) : goesTo xs n j = decide (n ∈ nextP xs[j]) := by simp [goesTo, h]
/-- Of the first j blocks those that go to n. -/
def aheadUp (xs : List Blk) (n : Int) : Nat → List Int
  | 0 => []
  | j + 1 => if goesTo xs n j = true then aheadUp xs n j ++ [(j : Int)] else aheadUp xs n j
theorem aheadUp_lt (xs : List Blk) (n : Int) : ∀ j, ∀ y ∈ aheadUp xs n j, y < (j : Int)
  | 0, y, h => by simp [aheadUp] at h
  | j + 1, y, h => by
    unfold aheadUp at h
    have ih := aheadUp_lt xs n j y
    split at h
    · rw [List.mem_append, List.mem_singleton] at h
      rcases h with h | rfl
      · have := ih h; omega
      · omega
    · have := ih h; omega
theorem aheadUp_len (xs : List Blk) (n : Int) : ∀ j, (aheadUp xs n j).length ≤ j
  | 0 => by simp [aheadUp]
  | j + 1 => by
    have := aheadUp_len xs n j
    unfold aheadUp
    split
    · rw [List.length_append]; simp; omega
    · omega
def aheadP (g : Gr) (n : Int) : List Int := if grOk g = true ∧ 0 ≤ n ∧ n < (g.blocks.length : Nat) then aheadUp g.blocks n g.blocks.length else []
theorem add_new (l : List Int) (n : Int) (h : ∀ y ∈ l, y < n) : addTo l n = l ++ [n] := by
  have := addTo_here n l l.length (Nat.le_refl _) (fun i hi _ => h _ (List.getElem_mem hi)) (fun hh => absurd hh (Nat.lt_irrefl _))
  simpa using this
theorem add_same (l : List Int) (n : Int) (h : ∀ y ∈ l, y < n) : addTo (l ++ [n]) n = l ++ [n] :=
  addTo_there n (l ++ [n]) l.length (by simp) (fun i hi hil => by rw [List.getElem_append_left hil]; exact h _ (List.getElem_mem hil)) (by simp)
theorem grOk_blocks {g : Gr} (h : grOk g = true) : 1 ≤ g.blocks.length ∧ g.blocks.length ≤ 300 := by
  simp only [grOk, frOk, Bool.and_eq_true, decide_eq_true_eq] at h
  omega
theorem aheadP_len (g : Gr) (n : Int) : (aheadP g n).length ≤ 300 := by
  unfold aheadP
  split
  · rename_i h
    exact Nat.le_trans (aheadUp_len _ _ _) (grOk_blocks h.1).2
  · simp
/-- What GraphOk (one of both) tells. -/
def OkIs (f : Nat) (g : Gr) : Prop := ∀ W A v, GrIs W A v g → Calls Try.prog f #[.agg v] W fun en w' => en = .returned (.bool (grOk g)) ∧ Below W.heap.size W w'
end Go.Proofs.Ytobpcfelgobedab

/- Orders of a graph's blocks: plain. -/
namespace Go.Proofs.Ytobpcfelgobedab
open Go.ChangeShapes Go.WideShapes Go.ChangeAt Go.RowKit
/-- The numbers below n. -/
def InQ (n : Nat) (y : Int) : Prop := 0 ≤ y ∧ y < (n : Int)
/-- Whether a list has each number below n, is as long as that and begins with 0. -/
def ordL (n : Nat) (L : List Int) : Bool := decide (L.length = n) && decide (L[0]? = some 0) && decide (∀ i, i < n → (i : Int) ∈ L)
def ordP (g : Gr) (L : List Int) : Bool := grOk g && ordL g.blocks.length L
theorem cover_le : ∀ (n : Nat) (L : List Int), (∀ i, i < n → (i : Int) ∈ L) → n ≤ L.length
  | 0, _, _ => Nat.zero_le _
  | n + 1, L, h => by
    have hn := h n (by omega)
    have h1 := cover_le n (L.erase (n : Int)) (fun i hi => (List.mem_erase_of_ne (by omega)).2 (h i (by omega)))
    rw [List.length_erase_of_mem hn] at h1
    have := List.length_pos_of_mem hn
    omega
theorem nod_le : ∀ (n : Nat) (L : List Int), L.Nodup → (∀ y ∈ L, InQ n y) → L.length ≤ n
  | 0, L, _, h => by
    cases L with
    | nil => simp
    | cons x r => have := h x (by simp); unfold InQ at this; omega
  | n + 1, L, hn, h => by
    have h1 := nod_le n (L.erase (n : Int)) (hn.erase _) (fun y hy => by
      have h2 := (hn.mem_erase_iff).1 hy
      have := h y h2.2
      unfold InQ at this ⊢
      have := h2.1
      omega)
    rw [List.length_erase] at h1
    split at h1 <;> omega
/-- A number that is none, or that stands there already: not all are there. -/
theorem cover_bad {n : Nat} {L : List Int} (hl : L.length = n) {k : Nat} (hk : k < L.length) (hb : ¬ InQ n L[k] ∨ L[k] ∈ L.take k) : ¬ ∀ i, i < n → (i : Int) ∈ L := by
  intro hc
  have e : L = L.take k ++ L[k] :: L.drop (k + 1) := by simp
  have hlen : (L.take k ++ L.drop (k + 1)).length + 1 = L.length := by simp; omega
  have := cover_le n (L.take k ++ L.drop (k + 1)) (fun i hi => by
    have hm := hc i hi
    rw [e] at hm
    rcases List.mem_append.1 hm with h1 | h1
    · exact List.mem_append_left _ h1
    · rcases List.mem_cons.1 h1 with h2 | h2
      · rcases hb with hb | hb
        · exact absurd (by rw [← h2]; exact ⟨by omega, by omega⟩) hb
        · rw [h2]; exact List.mem_append_left _ hb
      · exact List.mem_append_right _ h2)
  omega
theorem cover_good {n : Nat} {L : List Int} (hl : L.length = n) (hn : L.Nodup) (hr : ∀ y ∈ L, InQ n y) : ∀ i, i < n → (i : Int) ∈ L := by
  intro i hi
  by_cases h : (i : Int) ∈ L
  · exact h
  · have := nod_le n ((i : Int) :: L) (List.nodup_cons.2 ⟨h, hn⟩) (fun y hy => by
      rcases List.mem_cons.1 hy with rfl | hy
      · exact ⟨by omega, by omega⟩
      · exact hr y hy)
    simp at this
    omega
theorem ordL_of {n : Nat} {L : List Int} (hl : L.length = n) (h0 : L[0]? = some 0) (r : Bool) (h : r = true ↔ ∀ i, i < n → (i : Int) ∈ L) : ordL n L = r := by
  unfold ordL
  rw [decide_eq_true hl, decide_eq_true h0]
  simp only [Bool.true_and]
  exact Bool.eq_iff_iff.2 (by rw [decide_eq_true_iff]; exact h.symm)
theorem ordL_len {n : Nat} {L : List Int} (hl : ¬ L.length = n) : ordL n L = false := by unfold ordL; rw [decide_eq_false hl]; rfl
theorem ordL_zero {n : Nat} {L : List Int} (h0 : ¬ L[0]? = some 0) : ordL n L = false := by unfold ordL; rw [decide_eq_false h0]; simp
theorem ordP_in {g : Gr} {L : List Int} (h : ordP g L = true) : L.length = g.blocks.length ∧ L[0]? = some 0 ∧ (∀ i, i < g.blocks.length → (i : Int) ∈ L) ∧ ∀ y ∈ L, InQ g.blocks.length y := by
  unfold ordP ordL at h
  simp only [Bool.and_eq_true, decide_eq_true_eq] at h
  obtain ⟨_, ⟨h1, h2⟩, h3⟩ := h
  refine ⟨h1, h2, h3, fun y hy => ?_⟩
  obtain ⟨k, hk, rfl⟩ := List.getElem_of_mem hy
  by_cases hq : InQ g.blocks.length L[k]
  · exact hq
  · exact absurd h3 (cover_bad h1 hk (Or.inl hq))
end Go.Proofs.Ytobpcfelgobedab

/- A graph with its blocks in another order: plain. -/
namespace Go.Proofs.Ytobpcfelgobedab
open Go.ChangeShapes Go.WideShapes Go.ChangeAt Go.RowKit
def reoP (g : Gr) (L : List Int) : Gr := if ordP g L = true then { g with blocks := rowB g.blocks L } else g
theorem reoP_ok {g : Gr} {L : List Int} (h : ordP g L = true) : reoP g L = { g with blocks := rowB g.blocks L } := by unfold reoP; rw [if_pos h]
theorem reoP_no {g : Gr} {L : List Int} (h : ordP g L = false) : reoP g L = g := by unfold reoP; rw [if_neg (by rw [h]; simp)]
theorem ordP_gr {g : Gr} {L : List Int} (h : ordP g L = true) : grOk g = true := by
  unfold ordP at h
  simp only [Bool.and_eq_true] at h
  exact h.1
end Go.Proofs.Ytobpcfelgobedab
