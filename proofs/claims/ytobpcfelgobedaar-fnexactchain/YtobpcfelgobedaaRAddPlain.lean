/- Plain: a list of numbers kept rising, each once, is the sorted list with runs taken out. -/
import Derived.Lib.SlicesCompact
namespace Go.Proofs.YtobpcfelgobedaaR

/-- n put into its place, if it isn't there. -/
def addTo : List Int → Int → List Int
  | [], n => [n]
  | x :: l, n => if x < n then x :: addTo l n else if x = n then x :: l else n :: x :: l
def Rising (l : List Int) : Prop := l.Pairwise (· < ·)
theorem addTo_mem (n y : Int) : ∀ l : List Int, y ∈ addTo l n ↔ y = n ∨ y ∈ l
  | [] => by simp [addTo]
  | x :: l => by
    unfold addTo
    split
    · simp [addTo_mem n y l]
      constructor
      · rintro (h | h | h) <;> simp [h]
      · rintro (h | h | h) <;> simp [h]
    · split
      · rename_i h; subst h; simp
      · simp
theorem addTo_rising (n : Int) : ∀ l : List Int, Rising l → Rising (addTo l n)
  | [], _ => by simp [addTo, Rising]
  | x :: l, h => by
    unfold Rising at h
    rw [List.pairwise_cons] at h
    unfold addTo
    split
    · rename_i hx
      refine List.pairwise_cons.2 ⟨fun y hy => ?_, addTo_rising n l h.2⟩
      rcases (addTo_mem n y l).1 hy with rfl | hy
      · exact hx
      · exact h.1 y hy
    · split
      · exact List.pairwise_cons.2 h
      · rename_i hx hne
        have hlt : n < x := by omega
        refine List.pairwise_cons.2 ⟨fun y hy => ?_, List.pairwise_cons.2 h⟩
        rcases List.mem_cons.1 hy with rfl | hy
        · exact hlt
        · have := h.1 y hy; omega
/-- A rising list is told by its members. -/
theorem rising_eq : ∀ (l m : List Int), Rising l → Rising m → (∀ y, y ∈ l ↔ y ∈ m) → l = m
  | [], [], _, _, _ => rfl
  | [], y :: m, _, _, h => by have := (h y).2 (by simp); simp at this
  | x :: l, [], _, _, h => by have := (h x).1 (by simp); simp at this
  | x :: l, y :: m, hl, hm, h => by
    unfold Rising at hl hm
    rw [List.pairwise_cons] at hl hm
    have hxy : x = y := by
      have h1 := (h x).1 (by simp)
      have h2 := (h y).2 (by simp)
      rcases List.mem_cons.1 h1 with e | h1
      · exact e
      · rcases List.mem_cons.1 h2 with e | h2
        · exact e.symm
        · have := hm.1 x h1
          have := hl.1 y h2
          omega
    subst hxy
    rw [rising_eq l m hl.2 hm.2 fun z => ?_]
    have hz := h z
    simp only [List.mem_cons] at hz
    constructor
    · intro hzl
      rcases hz.1 (Or.inr hzl) with e | e
      · subst e; exact absurd (hl.1 z hzl) (Int.lt_irrefl _)
      · exact e
    · intro hzm
      rcases hz.2 (Or.inr hzm) with e | e
      · subst e; exact absurd (hm.1 z hzm) (Int.lt_irrefl _)
      · exact e
theorem foldl_addTo (xs : List Int) : ∀ l : List Int, Rising l → Rising (xs.foldl addTo l) ∧ ∀ y, y ∈ xs.foldl addTo l ↔ y ∈ xs ∨ y ∈ l := by
  induction xs with
  | nil => intro l h; exact ⟨h, fun y => by simp⟩
  | cons x xs ih =>
    intro l h
    obtain ⟨h1, h2⟩ := ih (addTo l x) (addTo_rising x l h)
    refine ⟨h1, fun y => ?_⟩
    rw [List.foldl_cons, h2, addTo_mem, List.mem_cons]
    constructor
    · rintro (h | h | h) <;> simp [h]
    · rintro ((h | h) | h) <;> simp [h]
def addAll (xs : List Int) : List Int := xs.foldl addTo []
theorem addAll_rising (xs : List Int) : Rising (addAll xs) := (foldl_addTo xs [] (by simp [Rising])).1
theorem addAll_mem (xs : List Int) (y : Int) : y ∈ addAll xs ↔ y ∈ xs := by simpa [addAll] using (foldl_addTo xs [] (by simp [Rising])).2 y
/-- Runs taken out of a list that goes up. -/
theorem compactUpTo_up (d : Array Int) (hd : ∀ i j, i ≤ j → j < d.size → d[i]! ≤ d[j]!) : ∀ m, m ≤ d.size → Rising (Lib.compactUpTo d m) ∧ (∀ y, y ∈ Lib.compactUpTo d m ↔ ∃ i, i < m ∧ d[i]! = y) := by
  intro m
  induction m with
  | zero => intro _; exact ⟨by simp [Lib.compactUpTo, Rising], fun y => by simp [Lib.compactUpTo]⟩
  | succ m ih =>
    intro hm
    obtain ⟨h1, h2⟩ := ih (by omega)
    rw [Lib.compactUpTo_succ]
    by_cases hk : Lib.keeps d m = true
    · rw [if_pos hk]
      refine ⟨List.pairwise_append.2 ⟨h1, by simp, fun a ha b hb => ?_⟩, fun y => ?_⟩
      · obtain ⟨i, hi, rfl⟩ := (h2 a).1 ha
        have : b = d[m]! := by simpa using hb
        subst this
        have hne : d[m]! ≠ d[m - 1]! := by
          have : m = 0 ∨ d[m]! ≠ d[m - 1]! := by simpa [Lib.keeps] using hk
          rcases this with h | h
          · omega
          · exact h
        have l1 := hd i (m - 1) (by omega) (by omega)
        have l2 := hd (m - 1) m (by omega) (by omega)
        omega
      · rw [List.mem_append, h2]
        constructor
        · rintro (⟨i, hi, rfl⟩ | h)
          · exact ⟨i, by omega, rfl⟩
          · exact ⟨m, by omega, by simpa using (List.mem_singleton.1 h).symm⟩
        · rintro ⟨i, hi, rfl⟩
          by_cases e : i = m
          · subst e; exact Or.inr (by simp)
          · exact Or.inl ⟨i, by omega, rfl⟩
    · rw [if_neg hk]
      have hk' : ¬ (m = 0 ∨ d[m]! ≠ d[m - 1]!) := by intro h; exact hk (by simpa [Lib.keeps] using h)
      have hm0 : m ≠ 0 := fun h => hk' (Or.inl h)
      have he : d[m]! = d[m - 1]! := Decidable.byContradiction fun h => hk' (Or.inr h)
      refine ⟨by simpa using h1, fun y => ?_⟩
      rw [List.append_nil, h2]
      constructor
      · rintro ⟨i, hi, rfl⟩; exact ⟨i, by omega, rfl⟩
      · rintro ⟨i, hi, rfl⟩
        by_cases e : i = m
        · subst e; exact ⟨i - 1, by omega, he.symm⟩
        · exact ⟨i, by omega, rfl⟩
theorem compact_up (zs : List Int) (h : zs.Pairwise (· ≤ ·)) : Rising (Lib.compact zs) ∧ ∀ y, y ∈ Lib.compact zs ↔ y ∈ zs := by
  have hd : ∀ i j, i ≤ j → j < zs.toArray.size → zs.toArray[i]! ≤ zs.toArray[j]! := by
    intro i j hij hj
    have hj' : j < zs.length := by simpa using hj
    have hi' : i < zs.length := by omega
    rw [getElem!_pos _ i (by simpa using hi'), getElem!_pos _ j hj]
    by_cases e : i = j
    · subst e; exact Int.le_refl _
    · simpa using List.pairwise_iff_getElem.1 h i j hi' hj' (by omega)
  obtain ⟨h1, h2⟩ := compactUpTo_up zs.toArray hd zs.length (by simp)
  refine ⟨h1, fun y => ?_⟩
  unfold Lib.compact
  rw [h2]
  constructor
  · rintro ⟨i, hi, rfl⟩
    rw [getElem!_pos _ i (by simpa using hi)]
    simp
  · intro hy
    obtain ⟨i, hi, rfl⟩ := List.getElem_of_mem hy
    exact ⟨i, hi, by rw [getElem!_pos _ i (by simpa using hi)]; simp⟩
theorem sorted_up (xs : List Int) : (xs.mergeSort fun x y => decide (x ≤ y)).Pairwise (· ≤ ·) := by
  have := List.pairwise_mergeSort (le := fun x y : Int => decide (x ≤ y)) (fun a b c h1 h2 => by simp at *; omega) (fun a b => by simp; omega) xs
  simpa using this
/-- What both sides make of the numbers met. -/
theorem asc_eq (xs ys : List Int) (h : ∀ y, y ∈ xs ↔ y ∈ ys) : Lib.compact (xs.mergeSort fun x y => decide (x ≤ y)) = addAll ys := by
  obtain ⟨h1, h2⟩ := compact_up _ (sorted_up xs)
  refine rising_eq _ _ h1 (addAll_rising ys) fun y => ?_
  rw [h2, addAll_mem, ← h]
  simp
theorem addTo_here (n : Int) : ∀ (xs : List Int) (j : Nat), j ≤ xs.length → (∀ i (h : i < xs.length), i < j → xs[i] < n) → (∀ h : j < xs.length, n < xs[j]) → addTo xs n = xs.take j ++ n :: xs.drop j
  | [], j, hj, _, _ => by simp [addTo]
  | x :: xs, 0, _, _, h2 => by
    have := h2 (by simp)
    simp at this
    unfold addTo
    rw [if_neg (by omega), if_neg (by omega)]
    simp
  | x :: xs, j + 1, hj, h1, h2 => by
    have h0 := h1 0 (by simp) (by omega)
    simp at h0
    unfold addTo
    rw [if_pos h0, addTo_here n xs j (by simpa using hj) (fun i h hi => by have := h1 (i + 1) (by simpa using h) (by omega); simpa using this) (fun h => by have := h2 (by simpa using h); simpa using this)]
    simp
theorem addTo_there (n : Int) : ∀ (xs : List Int) (j : Nat) (hj : j < xs.length), (∀ i (h : i < xs.length), i < j → xs[i] < n) → xs[j] = n → addTo xs n = xs
  | [], j, hj, _, _ => by simp at hj
  | x :: xs, 0, _, _, h2 => by
    simp at h2
    unfold addTo
    rw [if_neg (by omega), if_pos h2]
  | x :: xs, j + 1, hj, h1, h2 => by
    have h0 := h1 0 (by simp) (by omega)
    simp at h0
    unfold addTo
    rw [if_pos h0, addTo_there n xs j (by simpa using hj) (fun i h hi => by have := h1 (i + 1) (by simpa using h) (by omega); simpa using this) (by simpa using h2)]
end Go.Proofs.YtobpcfelgobedaaR
