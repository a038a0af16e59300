/- Lists of structs that a call owns: append, and what their elements are. -/
import Derived.Test.YtdkdimklacblaahParts
import Derived.Test.YtdkdimklacblaahTree
import Derived.Deep.AppendLies
namespace Go.Proofs.Ytdkdimklacblaah
open Go.ChangeShapes Go.WideShapes Go.ChangeAt Go.RowKit

/-- A row of n elements of s cells, in a block of its own from B on. -/
def OwnR (T : TypeId) (s : Nat) (w : World) (B : Nat) (v : Value) (n : Nat) (xs : List Value) : Prop := ∃ g cap, v = .slice (some ⟨g, 0, none⟩) n cap ∧ w.ownsRow B T s v n xs
section
variable {T : TypeId} {s : Nat} {w w' : World} {B B' : Nat} {v : Value} {n : Nat} {xs : List Value}
theorem OwnR.stays (h : OwnR T s w B v n xs) (bel : Below w.heap.size w w') : OwnR T s w' B v n xs :=
  let ⟨g, cap, hv, ho⟩ := h
  ⟨g, cap, hv, owns_stays ho bel⟩
theorem OwnR.low (h : OwnR T s w B v n xs) : ∀ b, v.ownBlock = some b → B ≤ b := fun b hb => (h.choose_spec.choose_spec.2.lt b hb).1
theorem OwnR.mono (h : OwnR T s w B v n xs) (hB : B' ≤ B) : OwnR T s w B' v n xs := by
  obtain ⟨g, cap, hv, hl, h0 | ⟨g', cap', cur, hv', hB', hr⟩⟩ := h
  · exact ⟨g, cap, hv, hl, Or.inl h0⟩
  · exact ⟨g, cap, hv, hl, Or.inr ⟨g', cap', cur, hv', Nat.le_trans hB hB', hr⟩⟩
theorem OwnR.cells (h : OwnR T s w B v n xs) : ∃ g cap, v = .slice (some ⟨g, 0, none⟩) n cap ∧ n ≤ cap ∧ cap ≤ maxLen ∧ B ≤ g ∧ g < w.heap.size ∧ xs.length = n * s ∧ ∀ j u, xs[j]? = some u → w.cell? ⟨g, j, none⟩ = some u := by
  obtain ⟨g0, cap0, hv0, hl, ⟨h0, _⟩ | ⟨g, cap, cur, hv, hB, hh, hc, hm, hs, ht⟩⟩ := h
  · rw [hv0] at h0; cases h0
  · refine ⟨g, cap, hv, hc, hm, hB, (Array.getElem?_eq_some_iff.1 hh).1, hl, fun j u hj => ?_⟩
    have h1 : (cur.toList.take (n * s))[j]? = xs[j]? := by rw [ht]
    have hjl : j < n * s := by rw [← hl]; exact (List.getElem?_eq_some_iff.1 hj).1
    rw [List.getElem?_take_of_lt hjl, hj, Array.getElem?_toList] at h1
    simp only [World.cell?, hh]
    exact h1
theorem OwnR.made (w : World) (T : TypeId) (s : Nat) (cs : Array Value) (n : Nat) (hn : n ≤ maxLen) (h : cs.size = n * s) : OwnR T s (w.alloc (.cells cs T)) w.heap.size (.slice (some ⟨w.heap.size, 0, none⟩) n n) n cs.toList :=
  ⟨_, _, rfl, by simpa using h, Or.inr ⟨w.heap.size, n, cs, rfl, Nat.le_refl _, blk_new' _ _, Nat.le_refl _, hn, h, List.take_of_length_le (by simp [h])⟩⟩
end
theorem maxLen_lt' : maxLen ≤ 9223372036854775807 := by unfold maxLen; decide
theorem addr_add (g j : Nat) : (⟨g, 0, none⟩ : Addr).add j = ⟨g, j, none⟩ := by unfold Addr.add; split <;> simp_all
theorem infoEx : (Try.prog.info? 41).map (fun i => (i.zero, i.size, i.bytes)) = some (some (.agg #[.int .i64 0, .int .i64 0, .int .i64 0, .string ByteArray.empty, .slice none 0 0]), 5, 64) := by kernel_rfl
theorem infoSt : (Try.prog.info? 74).map (fun i => (i.zero, i.size, i.bytes)) = some (some (.agg #[.int .i64 0, .int .i64 0, .int .i64 0, .slice none 0 0, .slice none 0 0, .slice none 0 0]), 6, 96) := by kernel_rfl
/-- append of one owned row to another, of one type. -/
theorem run_appR {T L : TypeId} {z : Value} {s by_ : Nat} (hL : Try.prog.underlying L = some (.slice T)) (hinfo : (Try.prog.info? T).map (fun i => (i.zero, i.size, i.bytes)) = some (some z, s, by_)) (hz : z.cells.size = s) (hs : 0 < s) (hby : by_ ≤ 1000)
    {w : World} {B B2 : Nat} {v1 v2 : Value} {n m : Nat} {xs ys : List Value} (ty : TypeId) (h1 : OwnR T s w B v1 n xs) (h2 : OwnR T s w B2 v2 m ys) (h1c : ∀ u ∈ ys, u.oneCell' = true) (hn : n + m ≤ 8000000) (hB : B ≤ w.heap.size) :
    ∃ v' w', (Builtin.append_ #[L, L] ty #[v1, v2]).run Try.prog w = .ok v' w' ∧ OwnR T s w' B v' (n + m) (xs ++ ys) ∧ w.grownBy w' v1.ownBlock ∧ (v'.ownBlock = v1.ownBlock ∨ v'.ownBlock = some w.heap.size) := by
  obtain ⟨i0, hi, hz0, hz1, hz2⟩ := info_parts hinfo
  obtain ⟨g, cap, hv, hown⟩ := h1
  obtain ⟨g2, cap2, rfl, _, _, _, _, hl, hc⟩ := h2.cells
  have hbn : (n + m) * by_ ≤ 8000000 * 1000 := Nat.mul_le_mul hn hby
  obtain ⟨v', w', hr, ho, hg, hnil, hloc⟩ := run_append_own_at (P := Try.prog) w B L ty T i0 z s by_ hL hi hz0 hz1 hz2 hz hs v1 n xs hown ⟨g2, 0, none⟩ m cap2 ys hl (fun j u hj => by rw [addr_add]; exact hc j u hj) h1c (by unfold maxLen; omega) (by omega) hB
  refine ⟨v', w', hr, ?_, hg, hloc⟩
  have ho' := ho
  obtain ⟨_, ⟨h0, _⟩ | ⟨g', cap', _, hv', _⟩⟩ := ho'
  · have := (hnil.1 h0).1; rw [hv] at this; cases this
  · exact ⟨g', cap', hv', ho⟩
section
variable {ops : Array Oper} {o : Oper} {a : Act} {Q : Exit → Act → World → Prop} {rest : List Oper}
theorem list_appR {T L : TypeId} {z : Value} {s by_ : Nat} (hL : Try.prog.underlying L = some (.slice T)) (hinfo : (Try.prog.info? T).map (fun i => (i.zero, i.size, i.bytes)) = some (some z, s, by_)) (hz : z.cells.size = s) (hs : 0 < s) (hby : by_ ≤ 1000)
    (w : World) (hgd : o.guard = none) (sl x : Operand) (ho : o.op = .call { callee := .builtin .append, args := #[sl, x], argTypes := #[L, L] })
    (B B2 : Nat) (v1 v2 : Value) (n m : Nat) (xs ys : List Value) (hsl : a.eval sl = v1) (hx : a.eval x = v2) (h1 : OwnR T s w B v1 n xs) (h2 : OwnR T s w B2 v2 m ys) (h1c : ∀ u ∈ ys, u.oneCell' = true) (hn : n + m ≤ 8000000) (hB : B ≤ w.heap.size)
    (h : ∀ v' w', OwnR T s w' B v' (n + m) (xs ++ ys) → w.grownBy w' v1.ownBlock → (v'.ownBlock = v1.ownBlock ∨ v'.ownBlock = some w.heap.size) → wpList Try.prog ops Q rest (a.put o.dst v') w') :
    wpList Try.prog ops Q (o :: rest) a w := by
  refine wpList_plain hgd fun K hK => ?_
  obtain ⟨v', w', hr, r1, r2, r3⟩ := run_appR hL hinfo hz hs hby o.type h1 h2 h1c hn hB
  unfold Oper.wp execOp
  simp only [ho, resolve, invoke, builtin, Sem.run_bind, Sem.run_pure, Result.andThen_ok, List.map_toArray, List.map_cons, List.map_nil, hsl, hx, hr]
  exact hK _ _ (h v' w' r1 r2 r3)
end
/-- These cells, s by s, are these elements. -/
inductive RC {α : Type} (Is : Array Value → α → Prop) : List Value → List α → Prop
  | nil : RC Is [] []
  | cons {v xs a l} (h : Is v a) (t : RC Is xs l) : RC Is (v.toList ++ xs) (a :: l)
theorem RC.append {α : Type} {Is : Array Value → α → Prop} {xs ys : List Value} {l m : List α} (h : RC Is xs l) (h' : RC Is ys m) : RC Is (xs ++ ys) (l ++ m) := by
  induction h with
  | nil => exact h'
  | cons h _ ih => rw [List.append_assoc]; exact .cons h ih
theorem RC.mono {α : Type} {Is Is' : Array Value → α → Prop} (hi : ∀ v a, Is v a → Is' v a) {xs : List Value} {l : List α} (h : RC Is xs l) : RC Is' xs l := by
  induction h with
  | nil => exact .nil
  | cons h _ ih => exact .cons (hi _ _ h) ih
theorem RC.one {α : Type} {Is : Array Value → α → Prop} (hi : ∀ v a, Is v a → ∀ u ∈ v.toList, u.oneCell' = true) {xs : List Value} {l : List α} (h : RC Is xs l) : ∀ u ∈ xs, u.oneCell' = true := by
  induction h with
  | nil => intro u hu; simp at hu
  | cons h _ ih => intro u hu; rcases List.mem_append.1 hu with hu | hu; exact hi _ _ h u hu; exact ih u hu
theorem RC.len {α : Type} {Is : Array Value → α → Prop} {s : Nat} (hi : ∀ v a, Is v a → v.size = s) {xs : List Value} {l : List α} (h : RC Is xs l) : xs.length = l.length * s := by
  induction h with
  | nil => simp
  | cons h _ ih => simp [ih, hi _ _ h, Nat.add_mul]; omega
theorem RC.get {α : Type} {Is : Array Value → α → Prop} {s : Nat} (hi : ∀ v a, Is v a → v.size = s) {xs : List Value} {l : List α} (h : RC Is xs l) : ∀ (i : Nat) (hl : i < l.length), ∃ v, Is v l[i] ∧ v.size = s ∧ ∀ j, j < s → xs[i * s + j]? = v[j]? := by
  induction h with
  | nil => intro i hl; simp at hl
  | cons h _ ih =>
    rename_i v xs a l _
    intro i hl
    have hv := hi _ _ h
    cases i with
    | zero => exact ⟨v, h, hv, fun j hj => by rw [Nat.zero_mul, Nat.zero_add, List.getElem?_append_left (by simpa [hv] using hj)]; simp⟩
    | succ i =>
      obtain ⟨u, hu, hs, hc⟩ := ih i (by simpa using hl)
      exact ⟨u, by simpa using hu, hs, fun j hj => by
        rw [← hc j hj, show (i + 1) * s + j = v.toList.length + (i * s + j) by rw [Nat.add_mul]; simp [hv]; omega]
        rw [List.getElem?_append_right (Nat.le_add_right _ _), Nat.add_sub_cancel_left]⟩
theorem one_ex {w : World} {B : Nat} (v : Array Value) (e : Ex) (h : ExIs w B v e) : ∀ u ∈ v.toList, u.oneCell' = true := by
  obtain ⟨k, n, b, t, kids⟩ := e
  obtain ⟨a, cap, rfl, _⟩ := h.out
  intro u hu
  simp at hu
  rcases hu with rfl | rfl | rfl | rfl | rfl <;> rfl
theorem one_st {w : World} {B : Nat} (v : Array Value) (e : St) (h : StIs w B v e) : ∀ u ∈ v.toList, u.oneCell' = true := by
  obtain ⟨k, n, b, exps, xs, ys⟩ := e
  obtain ⟨a, cap, ax, cx, ay, cy, rfl, _⟩ := h.out
  intro u hu
  simp at hu
  rcases hu with rfl | rfl | rfl | rfl | rfl | rfl <;> rfl
theorem sz_ex {w : World} {B : Nat} (v : Array Value) (e : Ex) (h : ExIs w B v e) : v.size = 5 := by
  obtain ⟨k, n, b, t, kids⟩ := e
  obtain ⟨a, cap, rfl, _⟩ := h.out
  rfl
theorem sz_st {w : World} {B : Nat} (v : Array Value) (e : St) (h : StIs w B v e) : v.size = 6 := by
  obtain ⟨k, n, b, exps, xs, ys⟩ := e
  obtain ⟨a, cap, ax, cx, ay, cy, rfl, _⟩ := h.out
  rfl
end Go.Proofs.Ytdkdimklacblaah
