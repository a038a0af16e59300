/- Sets of numbers told by what is in them: made, added to, asked, deleted from, counted. -/
import Derived.Test.YtobpcfelgobedaaRSetH
namespace Go.Proofs.YtobpcfelgobedaaR
open Go.ChangeShapes Go.WideShapes Go.ChangeAt Go.RowKit Go.Maps
/-- The map in block b is the set of all that P holds of; it has at most N entries. -/
def SetP (w : World) (b N : Nat) (P : Int → Prop) : Prop := ∃ l, SetIs InK w b N l ∧ ∀ q, q ∈ l ↔ P q
section
variable {w w' : World} {b N : Nat} {P P' : Int → Prop}
theorem SetP.lt (h : SetP w b N P) : b < w.heap.size := let ⟨_, h1, _⟩ := h; h1.lt
theorem SetP.made (w : World) : SetP (w.alloc (.map #[] 0)) w.heap.size 0 (fun _ => False) := ⟨[], SetIs.made InK_ok w, by simp⟩
theorem SetP.congr (h : SetP w b N P) (e : ∀ q, P q ↔ P' q) : SetP w b N P' := let ⟨l, h1, h2⟩ := h; ⟨l, h1, fun q => (h2 q).trans (e q)⟩
theorem SetP.stays (h : SetP w b N P) (bel : Below w.heap.size w w') : SetP w' b N P := let ⟨l, h1, h2⟩ := h; ⟨l, h1.stays bel, h2⟩
theorem SetP.kept {row : Option Nat} (h : SetP w b N P) (hg : w.grownBy w' row) (hne : some b ≠ row) : SetP w' b N P := let ⟨l, h1, h2⟩ := h; ⟨l, h1.kept hg hne, h2⟩
theorem SetP.blk (h : SetP w b N P) (hb : w'.heap[b]? = w.heap[b]?) : SetP w' b N P := let ⟨l, h1, h2⟩ := h; ⟨l, h1.blk hb, h2⟩
theorem SetP.up {M : Nat} (h : SetP w b N P) (hm : N ≤ M) : SetP w b M P := let ⟨l, h1, h2⟩ := h; ⟨l, h1.up hm, h2⟩
theorem SetP.ne (h : SetP w b N P) {g : Nat} {cs : Array Value} {T : TypeId} {f : Nat × Nat} (hg : w.heap[g]? = some (.cells cs T f)) : g ≠ b := fun e => by
  obtain ⟨l, ⟨_, _, _, _, ⟨es, clock, h1, _⟩, _⟩, _⟩ := h
  rw [e, h1] at hg
  cases hg
open Classical in
theorem addQ_any {s : Int} {B : Nat} {v : Value} (h : SetP w b N P) (hv : OwnI w B v [s]) (hs : I64 s) (hn : N ≤ 100000000) :
    Calls Try.prog 49 #[.map (some b), v] w fun e w' => e = .returned (.tuple #[]) ∧ SetP w' b (N + 1) (fun q => P q ∨ q = s) ∧ But b w w' := by
  obtain ⟨l, h1, h2⟩ := h
  refine (addI_any l [s] w b N B v h1 hv (fun x hx => by rw [List.mem_singleton.1 hx]; exact hs) hn (by simp)).mono ?_
  rintro e w1 ⟨rfl, s1, b1⟩
  exact ⟨rfl, ⟨_, s1, fun q => by rw [List.mem_append, h2, List.mem_singleton]⟩, b1⟩
theorem hasQ_any {s : Int} {y : Bool} (h : SetP w b N P) (hs : I64 s) (hy : y = true ↔ P s) :
    Calls Try.prog 41 #[.map (some b), .int .i64 s] w fun e w' => e = .returned (.bool y) ∧ Below w.heap.size w w' := by
  obtain ⟨l, h1, h2⟩ := h
  refine (hasI_any l s w b N h1 hs).mono ?_
  rintro e w1 ⟨rfl, b1⟩
  refine ⟨?_, b1⟩
  rw [show inL l s = y from Bool.eq_iff_iff.2 (by rw [inL_iff, h2, hy])]
/-- No key is there: it has no entries. -/
theorem own_nil {n : Nat} {D : DataW Unit} (h : w.ownsMap Try.prog 3 unitElem b n D) (hn : ∀ kl, Maps.has D kl = false) : Maps.size D = 0 := by
  obtain ⟨es, clock, _, F, _, rfl⟩ := h
  rw [Maps.size_eq, (sorted_perm _).length_eq, List.length_map]
  cases he : es.toList with
  | nil => rfl
  | cons x r =>
    exfalso
    obtain ⟨y, hy⟩ := F.reads x (by rw [he]; simp)
    have hk := lawI.key (WideElems.rd_key hy)
    have h1 := hn y.1
    rw [Maps.has_eq, List.any_eq_false] at h1
    have hm : y ∈ ((es.toList.map (WideElems.rg Try.prog 3 unitElem)).foldr DataW.insert []) := by
      rw [(sorted_perm _).mem_iff, he]
      simp [WideElems.rg, hy]
    exact h1 y hm (WideAt.sameKey_self hk)
theorem SetP.count (h : SetP w b N P) : ∃ D : DataW Unit, w.ownsMap Try.prog 3 unitElem b N D ∧ (Maps.size D = 0 ↔ ∀ q, ¬ P q) := by
  obtain ⟨l, ⟨ok, pk, F, D, hown, hrd⟩, h2⟩ := h
  refine ⟨D, hown, fun h0 q hq => ?_, fun hno => own_nil hown (fun kl => ?_)⟩
  · have hq2 := (readsS_has F hrd ok (ok q ((h2 q).2 hq))).2 ((h2 q).2 hq)
    obtain ⟨es, rfl⟩ := hown.isMap
    rw [Maps.size_eq] at h0
    rw [List.length_eq_zero_iff.1 h0] at hq2
    simp [Maps.has] at hq2
  · cases hh : Maps.has D kl
    · rfl
    · obtain ⟨q, hq, _⟩ := (hrd kl).1 hh
      exact absurd ((h2 q).1 hq) (hno q)
end
section
variable {ops : Array Oper} {rest : List Oper} {o : Oper} {a : Act} {Q : Exit → Act → World → Prop}
theorem sq_del (w : World) (hg : o.guard = none) (m x : Operand) (t : TypeId) (hop : o.op = Op.call { callee := Callee.builtin Builtin.delete, args := #[m, x], argTypes := #[t, 3] }) (ht : Try.prog.underlying t = some (.map 3 79)) (b N : Nat) (P : Int → Prop) (s : Int)
    (hm : a.eval m = .map (some b)) (hx : a.eval x = .int .i64 s) (h : SetP w b N P) (hs : I64 s)
    (hK : ∀ w', SetP w' b N (fun q => P q ∧ q ≠ s) → But b w w' → wpList Try.prog ops Q rest (a.put o.dst (.tuple #[])) w') : wpList Try.prog ops Q (o :: rest) a w := by
  obtain ⟨l, h1, h2⟩ := h
  obtain ⟨D, kl, hown, hkey, _, _, hdel⟩ := h1.int hs
  exact wpList_delete_own w hg m x t 3 hop 79 lawI ht _ b N D hm hown _ _ hx hkey (fun w' hw' ht' => hK w' ⟨_, hdel w' hw', fun q => by rw [List.mem_filter, h2]; simp⟩ (But.ofG ht'.grown))
theorem sq_len (w : World) (hg : o.guard = none) (m : Operand) (t : TypeId) (hop : o.op = Op.call { callee := Callee.builtin Builtin.len, args := #[m], argTypes := #[t] }) (ht : Try.prog.underlying t = some (.map 3 79)) (b N : Nat) (P : Int → Prop)
    (hm : a.eval m = .map (some b)) (h : SetP w b N P)
    (hK : ∀ k : Nat, (k = 0 ↔ ∀ q, ¬ P q) → wpList Try.prog ops Q rest (a.put o.dst (.int .i64 (k : Int))) w) : wpList Try.prog ops Q (o :: rest) a w := by
  obtain ⟨D, hown, hc⟩ := h.count
  exact wpList_len_own w hg m t hop 3 79 ht _ b N D hm hown (hK _ hc)
end
end Go.Proofs.YtobpcfelgobedaaR
