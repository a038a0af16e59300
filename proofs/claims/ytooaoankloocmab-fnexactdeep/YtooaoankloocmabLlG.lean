/- Lists of lists of numbers that a call owns. -/
import Derived.Test.YtooaoankloocmabRulA
namespace Go.Proofs.Ytooaoankloocmab
open Go.ChangeShapes Go.WideShapes Go.ChangeAt Go.RowKit
def LsE : Elem (Nat × Nat × Nat) := { T := 22, ST := 48, sz := 1, bys := 24, z := .slice none 0 0, cs := fun q => [.slice (some ⟨q.1, 0, none⟩) q.2.1 q.2.2] }
theorem LsOk : LsE.Ok where
  und := Try.underlying48
  info := by kernel_rfl
  zs := rfl
  pos := by show 0 < 1; decide
  few := by show 24 ≤ 1000; decide
  len := fun _ => rfl
  one := fun x u hu => by simp [LsE] at hu; rw [hu]; rfl
/-- The value is a list of these lists, each in a block of its own, from B on. -/
structure LlAt (W : World) (B : Nat) (v : Value) (rows : List (Nat × Nat × Nat)) (ls : List (List Int)) : Prop where
  own : OwnE LsE W B v rows
  len : rows.length = ls.length
  each : ∀ i (hi : i < rows.length), OwnI W B (.slice (some ⟨(rows[i]).1, 0, none⟩) (rows[i]).2.1 (rows[i]).2.2) (ls.getD i [])
  dis : ∀ i j (hi : i < rows.length) (hj : j < rows.length), i ≠ j → (rows[i]).1 ≠ (rows[j]).1
section
variable {W W' : World} {B B' : Nat} {v v' : Value} {rows : List (Nat × Nat × Nat)} {ls : List (List Int)}
theorem LlAt.stays (h : LlAt W B v rows ls) (b : Below W.heap.size W W') : LlAt W' B v rows ls := ⟨h.own.stays b, h.len, fun i hi => (h.each i hi).stays b, h.dis⟩
theorem LlAt.mono (h : LlAt W B v rows ls) (hB : B' ≤ B) : LlAt W B' v rows ls := ⟨h.own.mono hB, h.len, fun i hi => (h.each i hi).mono hB, h.dis⟩
theorem llAt_nil (w : World) : LlAt (w.alloc (.cells #[] 22)) w.heap.size (.slice (some ⟨w.heap.size, 0, none⟩) 0 0) [] [] :=
  ⟨own_nil LsOk w w.heap.size rfl, rfl, fun _ hi => absurd hi (Nat.not_lt_zero _), fun _ _ hi => absurd hi (Nat.not_lt_zero _)⟩
theorem OwnI.typ {l : List Int} {g : Nat} (h : OwnI W B v l) (hv : v.ownBlock = some g) : ∃ cur, W.heap[g]? = some (.cells cur 3 (0, 0)) := by
  obtain ⟨g', cap, cur, rfl, _, hh, _⟩ := h.parts
  have e : g' = g := by simpa [Value.ownBlock] using hv
  subst e
  exact ⟨cur, hh⟩
theorem LlAt.typ {g : Nat} (h : LlAt W B v rows ls) (hv : v.ownBlock = some g) : ∃ cur, W.heap[g]? = some (.cells cur 22 (0, 0)) := by
  obtain ⟨g', cap, cur, rfl, _, hh, _⟩ := h.own.parts LsOk
  have e : g' = g := by simpa [Value.ownBlock] using hv
  subst e
  exact ⟨cur, hh⟩
theorem typ_ne {a b : Nat} {c d : Array Value} {s t : TypeId} (h1 : W.heap[a]? = some (.cells c s (0, 0))) (h2 : W.heap[b]? = some (.cells d t (0, 0))) (hne : s ≠ t) : a ≠ b := fun e => by
  subst e
  rw [h1] at h2
  injection h2 with h2
  injection h2 with _ h3
  exact hne h3
/-- A block of numbers that is none of its own is written. -/
theorem LlAt.grown {g : Nat} {cur : Array Value} (h : LlAt W B v rows ls) (hg : W.grownBy W' (some g)) (ht : W.heap[g]? = some (.cells cur 3 (0, 0))) (hne : ∀ i (hi : i < rows.length), (rows[i]).1 ≠ g) : LlAt W' B v rows ls := by
  obtain ⟨g', cap, hv, _⟩ := id h.own
  have hvo : v.ownBlock = some g' := by rw [hv]; rfl
  obtain ⟨c2, h2⟩ := h.typ hvo
  refine ⟨h.own.kept hg (by rw [hvo]; intro e; injection e with e; exact typ_ne h2 ht (by show ¬ ((22 : Nat) = 3); decide) e), h.len, fun i hi => (h.each i hi).kept hg (by simp [Value.ownBlock]; exact hne i hi), h.dis⟩
/-- One list more. -/
theorem LlAt.grow {g n cap : Nat} {l : List Int} {o : Obj} (h : LlAt W B v rows ls) (hl : OwnI W B (.slice (some ⟨g, 0, none⟩) n cap) l) (hne : ∀ i (hi : i < rows.length), (rows[i]).1 ≠ g) (ho : OwnE LsE W' B v' (rows ++ [(g, n, cap)])) (hg : (W.alloc o).grownBy W' v.ownBlock) : LlAt W' B v' (rows ++ [(g, n, cap)]) (ls ++ [l]) := by
  have b2 : Below W.heap.size W (W.alloc o) := (Below.refl _ _).alloc (Nat.le_refl _) _
  have h2 := h.stays b2
  have hl2 := hl.stays b2
  obtain ⟨g', cap', hv, _⟩ := id h2.own
  have hvo : v.ownBlock = some g' := by rw [hv]; rfl
  obtain ⟨c2, ht⟩ := h2.typ hvo
  have kp : ∀ {u : Value} {k : List Int}, OwnI (W.alloc o) B u k → OwnI W' B u k := fun {u k} hk => hk.kept hg (by
    obtain ⟨gu, cu, hu, _⟩ := id hk
    have hub : u.ownBlock = some gu := by rw [hu]; rfl
    obtain ⟨c3, h3⟩ := hk.typ hub
    rw [hub, hvo]
    intro e
    injection e with e
    exact typ_ne h3 ht (by show ¬ ((3 : Nat) = 22); decide) e)
  refine ⟨ho, by simp [h.len], fun i hi => ?_, fun i j hi hj hij => ?_⟩
  · by_cases e : i < rows.length
    · have := kp (h2.each i e)
      rw [List.getElem_append_left e]
      have e2 : (ls ++ [l]).getD i [] = ls.getD i [] := by
        simp only [List.getD_eq_getElem?_getD]
        rw [List.getElem?_append_left (by rw [← h.len]; exact e)]
      rw [e2]
      exact this
    · have e2 : i = rows.length := by rw [List.length_append, List.length_singleton] at hi; omega
      subst e2
      have := kp hl2
      rw [List.getElem_append_right (Nat.le_refl _)]
      simp only [Nat.sub_self, List.getElem_cons_zero]
      have e3 : (ls ++ [l]).getD rows.length [] = l := by rw [h.len]; simp [List.getD_eq_getElem?_getD]
      rw [e3]
      exact this
  · simp only [List.length_append, List.length_singleton] at hi hj
    by_cases e1 : i < rows.length
    · by_cases e2 : j < rows.length
      · rw [List.getElem_append_left e1, List.getElem_append_left e2]; exact h.dis i j e1 e2 hij
      · rw [List.getElem_append_left e1, List.getElem_append_right (by omega)]; simp only [List.getElem_singleton]; exact hne i e1
    · by_cases e2 : j < rows.length
      · rw [List.getElem_append_right (by omega), List.getElem_append_left e2]; simp only [List.getElem_singleton]; exact fun e => hne j e2 e.symm
      · omega
end
/-- Rows of truths outlive what is written into numbers and lists of numbers. -/
theorem RowT.typed {W W' : World} {k n g : Nat} {f : Nat → Bool} {cur : Array Value} {t : TypeId} (h : RowT W k n f) (hg : W.grownBy W' (some g)) (ht : W.heap[g]? = some (.cells cur t (0, 0))) (hne : t ≠ 4) : RowT W' k n f := by
  obtain ⟨c, h1, _⟩ := id h
  exact h.keep (hg.block _ h.lt (by intro e; injection e with e; exact typ_ne ht h1 hne e.symm))
theorem OwnE.rtyped {W W' : World} {B n g : Nat} {v : Value} {rows : List Nat} {cur : Array Value} {t : TypeId} (h : OwnE (RbE n) W B v rows) (hg : W.grownBy W' (some g)) (ht : W.heap[g]? = some (.cells cur t (0, 0))) (hne : t ≠ 72) : OwnE (RbE n) W' B v rows := by
  obtain ⟨g', cap, c, rfl, _, h1, _⟩ := h.parts (RbOk n)
  exact h.kept hg (by simp [Value.ownBlock]; exact fun e => typ_ne ht h1 hne e.symm)
end Go.Proofs.Ytooaoankloocmab
