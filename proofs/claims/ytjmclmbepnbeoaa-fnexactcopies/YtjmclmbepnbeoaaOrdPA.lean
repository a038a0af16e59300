/- The order in which blocks are gone to: plain. A stack of blocks to go to, and those that were gone to. -/
import Derived.Test.YtjmclmbepnbeoaaUseA
import Derived.Test.YtjmclmbepnbeoaaGrOkP
import Derived.Lib.SlicesCompact
namespace Go.Proofs.Ytjmclmbepnbeoaa
open Go.ChangeShapes Go.WideShapes Go.ChangeAt Go.RowKit
/-- The blocks that block a goes to. -/
def nxt (xs : List Blk) (a : Int) : List Int := match xs[a.toNat]? with
  | some x => nextP x
  | none => []
theorem nxt_at {xs : List Blk} {i : Nat} (h : i < xs.length) : nxt xs (i : Int) = nextP xs[i] := by simp [nxt, h]
theorem nxt_len (xs : List Blk) (a : Int) : (nxt xs a).length ≤ 2 := by
  unfold nxt
  split
  · exact nextP_len _
  · simp
def InR (n : Nat) (y : Int) : Prop := 0 ≤ y ∧ y < (n : Int)
def AllIn (xs : List Blk) : Prop := ∀ x ∈ xs, ∀ y ∈ nextP x, InR xs.length y
theorem nxt_in {xs : List Blk} (h : AllIn xs) (a : Int) : ∀ y ∈ nxt xs a, InR xs.length y := by
  intro y hy
  unfold nxt at hy
  split at hy
  · rename_i x hx
    exact h x (List.mem_of_getElem? hx) y hy
  · simp at hy
theorem allIn_of {g : Gr} (h : grOk g = true) : AllIn g.blocks := by
  intro x hx y hy
  simp only [grOk, Bool.and_eq_true, List.all_eq_true] at h
  have h1 := h.2 x hx
  unfold jmpOk at h1
  unfold nextP at hy
  by_cases h0 : x.jump = 0
  · simp only [h0, if_true, List.mem_singleton] at hy
    subst hy
    simp [h0, vOk] at h1
    exact h1.2
  · by_cases h2 : x.jump = 1
    · simp [h2] at hy
      simp [h2, vOk] at h1
      rcases hy with rfl | rfl
      · exact h1.1.2
      · exact h1.2
    · simp [h0, h2] at hy
/-- From a stack and what was gone to so far to all that is gone to. -/
inductive Run (xs : List Blk) : List Int → List Int → List Int → Prop
  | nil (out : List Int) : Run xs [] out out
  | skip {a : Int} {W out r : List Int} : a ∈ out → Run xs W out r → Run xs (a :: W) out r
  | go {a : Int} {W out r : List Int} : ¬ a ∈ out → Run xs (nxt xs a ++ W) (out ++ [a]) r → Run xs (a :: W) out r
theorem Run.nil_inv {xs : List Blk} {out r : List Int} (h : Run xs [] out r) : out = r := by cases h; rfl
theorem Run.skip_inv {xs : List Blk} {a : Int} {W out r : List Int} (h : Run xs (a :: W) out r) (ha : a ∈ out) : Run xs W out r := by
  cases h with
  | skip _ h => exact h
  | go hn _ => exact absurd ha hn
theorem Run.go_inv {xs : List Blk} {a : Int} {W out r : List Int} (h : Run xs (a :: W) out r) (ha : ¬ a ∈ out) : Run xs (nxt xs a ++ W) (out ++ [a]) r := by
  cases h with
  | skip hn _ => exact absurd hn ha
  | go _ h => exact h
theorem Run.det {xs : List Blk} {W out r : List Int} (h : Run xs W out r) : ∀ {r' : List Int}, Run xs W out r' → r = r' := by
  induction h with
  | nil out => intro r' h'; exact h'.nil_inv
  | skip ha _ ih => intro r' h'; exact ih (h'.skip_inv ha)
  | go ha _ ih => intro r' h'; exact ih (h'.go_inv ha)
theorem filt_le {α : Type} {p q : α → Bool} : ∀ (l : List α), (∀ x, q x = true → p x = true) → (l.filter q).length ≤ (l.filter p).length
  | [], _ => by simp
  | x :: l, h => by
    have ih := filt_le l h
    cases hq : q x
    · rw [List.filter_cons_of_neg (by simp [hq])]
      cases hp : p x
      · rw [List.filter_cons_of_neg (by simp [hp])]; exact ih
      · rw [List.filter_cons_of_pos hp]; simp; omega
    · rw [List.filter_cons_of_pos hq, List.filter_cons_of_pos (h x hq)]; simp; exact ih
theorem filt_lt {α : Type} {p q : α → Bool} {a : α} : ∀ (l : List α), (∀ x, q x = true → p x = true) → a ∈ l → p a = true → q a = false → (l.filter q).length + 1 ≤ (l.filter p).length
  | [], _, h, _, _ => by simp at h
  | x :: l, h, hm, hp, hq => by
    rcases List.mem_cons.1 hm with rfl | hm
    · rw [List.filter_cons_of_neg (by simp [hq]), List.filter_cons_of_pos hp]
      have := filt_le l h
      simp; exact this
    · have ih := filt_lt l h hm hp hq
      cases hq' : q x
      · rw [List.filter_cons_of_neg (by simp [hq'])]
        cases hp' : p x
        · rw [List.filter_cons_of_neg (by simp [hp'])]; exact ih
        · rw [List.filter_cons_of_pos hp']; simp; omega
      · rw [List.filter_cons_of_pos hq', List.filter_cons_of_pos (h x hq')]; simp; omega
/-- How many of the first n blocks were not gone to. -/
def free (n : Nat) (out : List Int) : Nat := ((List.range n).filter fun (i : Nat) => !decide ((i : Int) ∈ out)).length
theorem free_le (n : Nat) (out : List Int) : free n out ≤ n := by
  unfold free
  exact Nat.le_trans (List.length_filter_le _ _) (by simp)
theorem free_step {n : Nat} {out : List Int} {a : Int} (h : ¬ a ∈ out) (hr : InR n a) : free n (out ++ [a]) + 1 ≤ free n out := by
  unfold free
  obtain ⟨h0, h1⟩ := hr
  refine filt_lt (a := a.toNat) _ (fun x hx => ?_) (List.mem_range.2 (by omega)) ?_ ?_
  · simp at hx ⊢; exact hx.1
  · have : ((a.toNat : Nat) : Int) = a := by omega
    rw [this]; simpa using h
  · have : ((a.toNat : Nat) : Int) = a := by omega
    rw [this]; simp
/-- No more than there are. -/
def Few (n : Nat) (out : List Int) : Prop := out.length + free n out ≤ n
theorem few_nil (n : Nat) : Few n [] := by unfold Few; have := free_le n []; simpa using this
theorem Few.step {n : Nat} {out : List Int} {a : Int} (h : Few n out) (ha : ¬ a ∈ out) (hr : InR n a) : Few n (out ++ [a]) := by
  have := free_step ha hr
  unfold Few at *
  rw [List.length_append]; simp; omega
theorem run_ex {xs : List Blk} (hn : AllIn xs) : ∀ (m : Nat) (W out : List Int), free xs.length out * 3 + W.length ≤ m → (∀ y ∈ W, InR xs.length y) → Few xs.length out → ∃ r, Run xs W out r ∧ r.length ≤ xs.length
  | _, [], out, _, _, hf => ⟨out, Run.nil out, by unfold Few at hf; omega⟩
  | 0, a :: W, out, hm, _, _ => by simp at hm
  | m + 1, a :: W, out, hm, hW, hf => by
    by_cases ha : a ∈ out
    · obtain ⟨r, h1, h2⟩ := run_ex hn m W out (by simp at hm; omega) (fun y hy => hW y (List.mem_cons_of_mem _ hy)) hf
      exact ⟨r, Run.skip ha h1, h2⟩
    · have hr := hW a List.mem_cons_self
      have hs := free_step ha hr
      have hl := nxt_len xs a
      obtain ⟨r, h1, h2⟩ := run_ex hn m (nxt xs a ++ W) (out ++ [a]) (by simp at hm ⊢; omega) (fun y hy => by
        rcases List.mem_append.1 hy with hy | hy
        · exact nxt_in hn a y hy
        · exact hW y (List.mem_cons_of_mem _ hy)) (hf.step ha hr)
      exact ⟨r, Run.go ha h1, h2⟩
theorem order_ex {g : Gr} (h : grOk g = true) : ∃ r, Run g.blocks [0] [] r ∧ r.length ≤ g.blocks.length := by
  have hb : 1 ≤ g.blocks.length := by
    simp only [grOk, frOk, Bool.and_eq_true, decide_eq_true_eq] at h
    omega
  exact run_ex (allIn_of h) _ [0] [] (Nat.le_refl _) (fun y hy => by simp at hy; subst hy; exact ⟨by omega, by omega⟩) (few_nil _)
open Classical in
noncomputable def orderP (g : Gr) : List Int := if h : grOk g = true then Classical.choose (order_ex h) else []
theorem orderP_run {g : Gr} (h : grOk g = true) : Run g.blocks [0] [] (orderP g) := by
  unfold orderP; rw [dif_pos h]; exact (Classical.choose_spec (order_ex h)).1
theorem orderP_none {g : Gr} (h : ¬ grOk g = true) : orderP g = [] := by unfold orderP; rw [dif_neg h]
theorem orderP_len (g : Gr) : (orderP g).length ≤ g.blocks.length := by
  unfold orderP
  split
  · rename_i h; exact (Classical.choose_spec (order_ex h)).2
  · simp
theorem orderP_few (g : Gr) : (orderP g).length ≤ 300 := by
  by_cases h : grOk g = true
  · refine Nat.le_trans (orderP_len g) ?_
    simp only [grOk, frOk, Bool.and_eq_true, decide_eq_true_eq] at h
    omega
  · rw [orderP_none h]; simp
end Go.Proofs.Ytjmclmbepnbeoaa

/- Plain: a list of numbers kept rising, each once, is the sorted list with runs taken out. -/
namespace Go.Proofs.Ytjmclmbepnbeoaa

/-- n put into its place, if it isn't there. -/
def addTo : List Int → Int → List Int
  | [], n => [n]
  | x :: l, n => if x < n then x :: addTo l n else if x = n then x :: l else n :: x :: l
def Rising (l : List Int) : Prop := l.Pairwise (· < ·)
theorem addTo_mem (n y : Int) : ∀ l : List Int, y ∈ addTo l n ↔ y = n ∨ y ∈ l
  | [] => by simp [addTo]
  | x :: l => by
    unfold addTo
    split
    · simp [addTo_mem n y l]
      constructor
      · rintro (h | h | h) <;> simp [h]
      · rintro (h | h | h) <;> simp [h]
    · split
      · rename_i h; subst h; simp
      · simp
theorem addTo_rising (n : Int) : ∀ l : List Int, Rising l → Rising (addTo l n)
  | [], _ => by simp [addTo, Rising]
  | x :: l, h => by
    unfold Rising at h
    rw [List.pairwise_cons] at h
    unfold addTo
    split
    · rename_i hx
      refine List.pairwise_cons.2 ⟨fun y hy => ?_, addTo_rising n l h.2⟩
      rcases (addTo_mem n y l).1 hy with rfl | hy
      · exact hx
      · exact h.1 y hy
    · split
      · exact List.pairwise_cons.2 h
      · rename_i hx hne
        have hlt : n < x := by omega
        refine List.pairwise_cons.2 ⟨fun y hy => ?_, List.pairwise_cons.2 h⟩
        rcases List.mem_cons.1 hy with rfl | hy
        · exact hlt
        · have := h.1 y hy; omega
/-- A rising list is told by its members. -/
theorem rising_eq : ∀ (l m : List Int), Rising l → Rising m → (∀ y, y ∈ l ↔ y ∈ m) → l = m
  | [], [], _, _, _ => rfl
  | [], y :: m, _, _, h => by have := (h y).2 (by simp); simp at this
  | x :: l, [], _, _, h => by have := (h x).1 (by simp); simp at this
  | x :: l, y :: m, hl, hm, h => by
    unfold Rising at hl hm
    rw [List.pairwise_cons] at hl hm
    have hxy : x = y := by
      have h1 := (h x).1 (by simp)
      have h2 := (h y).2 (by simp)
      rcases List.mem_cons.1 h1 with e | h1
      · exact e
      · rcases List.mem_cons.1 h2 with e | h2
        · exact e.symm
        · have := hm.1 x h1
          have := hl.1 y h2
          omega
    subst hxy
    rw [rising_eq l m hl.2 hm.2 fun z => ?_]
    have hz := h z
    simp only [List.mem_cons] at hz
    constructor
    · intro hzl
      rcases hz.1 (Or.inr hzl) with e | e
      · subst e; exact absurd (hl.1 z hzl) (Int.lt_irrefl _)
      · exact e
    · intro hzm
      rcases hz.2 (Or.inr hzm) with e | e
      · subst e; exact absurd (hm.1 z hzm) (Int.lt_irrefl _)
      · exact e
theorem foldl_addTo (xs : List Int) : ∀ l : List Int, Rising l → Rising (xs.foldl addTo l) ∧ ∀ y, y ∈ xs.foldl addTo l ↔ y ∈ xs ∨ y ∈ l := by
  induction xs with
  | nil => intro l h; exact ⟨h, fun y => by simp⟩
  | cons x xs ih =>
    intro l h
    obtain ⟨h1, h2⟩ := ih (addTo l x) (addTo_rising x l h)
    refine ⟨h1, fun y => ?_⟩
    rw [List.foldl_cons, h2, addTo_mem, List.mem_cons]
    constructor
    · rintro (h | h | h) <;> simp [h]
    · rintro ((h | h) | h) <;> simp [h]
def addAll (xs : List Int) : List Int := xs.foldl addTo []
theorem addAll_rising (xs : List Int) : Rising (addAll xs) := (foldl_addTo xs [] (by simp [Rising])).1
theorem addAll_mem (xs : List Int) (y : Int) : y ∈ addAll xs ↔ y ∈ xs := by simpa [addAll] using (foldl_addTo xs [] (by simp [Rising])).2 y
/-- Runs taken out of a list that goes up. -/
theorem compactUpTo_up (d : Array Int) (hd : ∀ i j, i ≤ j → j < d.size → d[i]! ≤ d[j]!) : ∀ m, m ≤ d.size → Rising (Lib.compactUpTo d m) ∧ (∀ y, y ∈ Lib.compactUpTo d m ↔ ∃ i, i < m ∧ d[i]! = y) := by
  intro m
  induction m with
  | zero => intro _; exact ⟨by simp [Lib.compactUpTo, Rising], fun y => by simp [Lib.compactUpTo]⟩
  | succ m ih =>
    intro hm
    obtain ⟨h1, h2⟩ := ih (by omega)
    rw [Lib.compactUpTo_succ]
    by_cases hk : Lib.keeps d m = true
    · rw [if_pos hk]
      refine ⟨List.pairwise_append.2 ⟨h1, by simp, fun a ha b hb => ?_⟩, fun y => ?_⟩
      · obtain ⟨i, hi, rfl⟩ := (h2 a).1 ha
        have : b = d[m]! := by simpa using hb
        subst this
        have hne : d[m]! ≠ d[m - 1]! := by
          have : m = 0 ∨ d[m]! ≠ d[m - 1]! := by simpa [Lib.keeps] using hk
          rcases this with h | h
          · omega
          · exact h
        have l1 := hd i (m - 1) (by omega) (by omega)
        have l2 := hd (m - 1) m (by omega) (by omega)
        omega
      · rw [List.mem_append, h2]
        constructor
        · rintro (⟨i, hi, rfl⟩ | h)
          · exact ⟨i, by omega, rfl⟩
          · exact ⟨m, by omega, by simpa using (List.mem_singleton.1 h).symm⟩
        · rintro ⟨i, hi, rfl⟩
          by_cases e : i = m
          · subst e; exact Or.inr (by simp)
          · exact Or.inl ⟨i, by omega, rfl⟩
    · rw [if_neg hk]
      have hk' : ¬ (m = 0 ∨ d[m]! ≠ d[m - 1]!) := by intro h; exact hk (by simpa [Lib.keeps] using h)
      have hm0 : m ≠ 0 := fun h => hk' (Or.inl h)
      have he : d[m]! = d[m - 1]! := Decidable.byContradiction fun h => hk' (Or.inr h)
      refine ⟨by simpa using h1, fun y => ?_⟩
      rw [List.append_nil, h2]
      constructor
      · rintro ⟨i, hi, rfl⟩; exact ⟨i, by omega, rfl⟩
      · rintro ⟨i, hi, rfl⟩
        by_cases e : i = m
        · subst e; exact ⟨i - 1, by omega, he.symm⟩
        · exact ⟨i, by omega, rfl⟩
theorem compact_up (zs : List Int) (h : zs.Pairwise (· ≤ ·)) : Rising (Lib.compact zs) ∧ ∀ y, y ∈ Lib.compact zs ↔ y ∈ zs := by
  have hd : ∀ i j, i ≤ j → j < zs.toArray.size → zs.toArray[i]! ≤ zs.toArray[j]! := by
    intro i j hij hj
    have hj' : j < zs.length := by simpa using hj
    have hi' : i < zs.length := by omega
    rw [getElem!_pos _ i (by simpa using hi'), getElem!_pos _ j hj]
    by_cases e : i = j
    · subst e; exact Int.le_refl _
    · simpa using List.pairwise_iff_getElem.1 h i j hi' hj' (by omega)
  obtain ⟨h1, h2⟩ := compactUpTo_up zs.toArray hd zs.length (by simp)
  refine ⟨h1, fun y => ?_⟩
  unfold Lib.compact
  rw [h2]
  constructor
  · rintro ⟨i, hi, rfl⟩
    rw [getElem!_pos _ i (by simpa using hi)]
    simp
  · intro hy
    obtain ⟨i, hi, rfl⟩ := List.getElem_of_mem hy
    exact ⟨i, hi, by rw [getElem!_pos _ i (by simpa using hi)]; simp⟩
theorem sorted_up (xs : List Int) : (xs.mergeSort fun x y => decide (x ≤ y)).Pairwise (· ≤ ·) := by
  have := List.pairwise_mergeSort (le := fun x y : Int => decide (x ≤ y)) (fun a b c h1 h2 => by simp at *; omega) (fun a b => by simp; omega) xs
  simpa using this
/-- What both sides make of the numbers met. -/
theorem asc_eq (xs ys : List Int) (h : ∀ y, y ∈ xs ↔ y ∈ ys) : Lib.compact (xs.mergeSort fun x y => decide (x ≤ y)) = addAll ys := by
  obtain ⟨h1, h2⟩ := compact_up _ (sorted_up xs)
  refine rising_eq _ _ h1 (addAll_rising ys) fun y => ?_
  rw [h2, addAll_mem, ← h]
  simp
theorem addTo_here (n : Int) : ∀ (xs : List Int) (j : Nat), j ≤ xs.length → (∀ i (h : i < xs.length), i < j → xs[i] < n) → (∀ h : j < xs.length, n < xs[j]) → addTo xs n = xs.take j ++ n :: xs.drop j
  | [], j, hj, _, _ => by simp [addTo]
  | x :: xs, 0, _, _, h2 => by
    have := h2 (by simp)
    simp at this
    unfold addTo
    rw [if_neg (by omega), if_neg (by omega)]
    simp
  | x :: xs, j + 1, hj, h1, h2 => by
    have h0 := h1 0 (by simp) (by omega)
    simp at h0
    unfold addTo
    rw [if_pos h0, addTo_here n xs j (by simpa using hj) (fun i h hi => by have := h1 (i + 1) (by simpa using h) (by omega); simpa using this) (fun h => by have := h2 (by simpa using h); simpa using this)]
    simp
theorem addTo_there (n : Int) : ∀ (xs : List Int) (j : Nat) (hj : j < xs.length), (∀ i (h : i < xs.length), i < j → xs[i] < n) → xs[j] = n → addTo xs n = xs
  | [], j, hj, _, _ => by simp at hj
  | x :: xs, 0, _, _, h2 => by
    simp at h2
    unfold addTo
    rw [if_neg (by omega), if_pos h2]
  | x :: xs, j + 1, hj, h1, h2 => by
    have h0 := h1 0 (by simp) (by omega)
    simp at h0
    unfold addTo
    rw [if_pos h0, addTo_there n xs j (by simpa using hj) (fun i h hi => by have := h1 (i + 1) (by simpa using h) (by omega); simpa using this) (by simpa using h2)]
end Go.Proofs.Ytjmclmbepnbeoaa

/- The blocks that one comes to: plain. -/
namespace Go.Proofs.Ytjmclmbepnbeoaa
open Go.ChangeShapes Go.WideShapes Go.ChangeAt Go.RowKit
inductive Reach (xs : List Blk) : Int → Prop
  | zero : Reach xs 0
  | step {a b : Int} : Reach xs a → b ∈ nxt xs a → Reach xs b
theorem Run.reach {xs : List Blk} {W out r : List Int} (h : Run xs W out r) : (∀ y ∈ W, Reach xs y) → (∀ y ∈ out, Reach xs y) → ∀ y ∈ r, Reach xs y := by
  induction h with
  | nil out => intro _ h y hy; exact h y hy
  | skip _ _ ih => intro h1 h2; exact ih (fun y hy => h1 y (List.mem_cons_of_mem _ hy)) h2
  | go _ _ ih =>
    rename_i a W out r _ _
    intro h1 h2
    have ha := h1 a List.mem_cons_self
    refine ih (fun y hy => ?_) (fun y hy => ?_)
    · rcases List.mem_append.1 hy with hy | hy
      · exact Reach.step ha hy
      · exact h1 y (List.mem_cons_of_mem _ hy)
    · rcases List.mem_append.1 hy with hy | hy
      · exact h2 y hy
      · rw [List.mem_singleton.1 hy]; exact ha
theorem Run.sub {xs : List Blk} {W out r : List Int} (h : Run xs W out r) : (∀ y ∈ out, y ∈ r) ∧ ∀ y ∈ W, y ∈ r := by
  induction h with
  | nil out => exact ⟨fun _ h => h, fun _ h => by simp at h⟩
  | skip ha _ ih =>
    refine ⟨ih.1, fun y hy => ?_⟩
    rcases List.mem_cons.1 hy with rfl | hy
    · exact ih.1 _ ha
    · exact ih.2 _ hy
  | go _ _ ih =>
    refine ⟨fun y hy => ih.1 y (List.mem_append_left _ hy), fun y hy => ?_⟩
    rcases List.mem_cons.1 hy with rfl | hy
    · exact ih.1 _ (by simp)
    · exact ih.2 _ (List.mem_append_right _ hy)
theorem Run.closed {xs : List Blk} {W out r : List Int} (h : Run xs W out r) : ∀ y ∈ r, y ∈ out ∨ ∀ z ∈ nxt xs y, z ∈ r := by
  induction h with
  | nil out => intro y hy; exact Or.inl hy
  | skip _ _ ih => exact ih
  | go _ hr ih =>
    rename_i a W out r _
    intro y hy
    rcases ih y hy with h | h
    · rcases List.mem_append.1 h with h | h
      · exact Or.inl h
      · rw [List.mem_singleton.1 h]
        exact Or.inr fun z hz => hr.sub.2 z (List.mem_append_left _ hz)
    · exact Or.inr h
theorem order_mem {g : Gr} (h : grOk g = true) (y : Int) : y ∈ orderP g ↔ Reach g.blocks y := by
  have hr := orderP_run h
  constructor
  · exact hr.reach (fun y hy => by simp at hy; subst hy; exact Reach.zero) (fun y hy => by simp at hy) y
  · intro hy
    induction hy with
    | zero => exact hr.sub.2 0 (by simp)
    | step _ hb ih =>
      rcases hr.closed _ ih with h | h
      · simp at h
      · exact h _ hb
theorem reach_in {g : Gr} (h : grOk g = true) {y : Int} (hy : Reach g.blocks y) : InR g.blocks.length y := by
  induction hy with
  | zero =>
    have hb : 1 ≤ g.blocks.length := by
      simp only [grOk, frOk, Bool.and_eq_true, decide_eq_true_eq] at h
      omega
    exact ⟨by omega, by omega⟩
  | step _ hb _ => exact nxt_in (allIn_of h) _ _ hb
/-- What is known between two rounds: done was gone on from, todo waits. -/
structure Bfs (xs : List Blk) (dn todo : List Int) : Prop where
  zero : 0 ∈ dn ++ todo
  reach : ∀ y ∈ dn ++ todo, Reach xs y
  closed : ∀ y ∈ dn, ∀ z ∈ nxt xs y, z ∈ dn ++ todo
  few : Few xs.length (dn ++ todo)
theorem bfs_start (xs : List Blk) (h : 1 ≤ xs.length) : Bfs xs [] [0] :=
  ⟨by simp, fun y hy => by simp at hy; subst hy; exact Reach.zero, fun y hy => by simp at hy, (few_nil _).step (by simp) ⟨by omega, by omega⟩⟩
/-- Within a round: a was taken, k of those that it goes to were looked at. -/
structure BfsIn (xs : List Blk) (dn : List Int) (a : Int) (todo : List Int) (k : Nat) : Prop where
  zero : 0 ∈ dn ++ [a] ++ todo
  reach : ∀ y ∈ dn ++ [a] ++ todo, Reach xs y
  closed : ∀ y ∈ dn, ∀ z ∈ nxt xs y, z ∈ dn ++ [a] ++ todo
  some : ∀ z ∈ (nxt xs a).take k, z ∈ dn ++ [a] ++ todo
  few : Few xs.length (dn ++ [a] ++ todo)
theorem Bfs.inn {xs : List Blk} {dn todo : List Int} {a : Int} (h : Bfs xs dn (a :: todo)) : BfsIn xs dn a todo 0 := by
  have e : dn ++ a :: todo = dn ++ [a] ++ todo := by simp
  obtain ⟨h1, h2, h3, h4⟩ := h
  rw [e] at h1 h2 h3 h4
  exact ⟨h1, h2, h3, by simp, h4⟩
theorem BfsIn.there {xs : List Blk} {dn todo : List Int} {a : Int} {k : Nat} (h : BfsIn xs dn a todo k) (hk : k < (nxt xs a).length) (hm : (nxt xs a)[k] ∈ dn ++ [a] ++ todo) : BfsIn xs dn a todo (k + 1) :=
  ⟨h.zero, h.reach, h.closed, fun z hz => by
    rw [List.take_succ_eq_append_getElem hk] at hz
    rcases List.mem_append.1 hz with hz | hz
    · exact h.some z hz
    · rw [List.mem_singleton.1 hz]; exact hm, h.few⟩
theorem BfsIn.new {xs : List Blk} {dn todo : List Int} {a : Int} {k : Nat} (h : BfsIn xs dn a todo k) (hk : k < (nxt xs a).length) (hm : ¬ (nxt xs a)[k] ∈ dn ++ [a] ++ todo) (hr : InR xs.length (nxt xs a)[k]) : BfsIn xs dn a (todo ++ [(nxt xs a)[k]]) (k + 1) := by
  have up : ∀ z, z ∈ dn ++ [a] ++ todo → z ∈ dn ++ [a] ++ (todo ++ [(nxt xs a)[k]]) := fun z hz => by
    rw [← List.append_assoc]; exact List.mem_append_left _ hz
  refine ⟨up _ h.zero, fun y hy => ?_, fun y hy z hz => up z (h.closed y hy z hz), fun z hz => ?_, ?_⟩
  · rw [← List.append_assoc] at hy
    rcases List.mem_append.1 hy with hy | hy
    · exact h.reach y hy
    · rw [List.mem_singleton.1 hy]
      exact Reach.step (h.reach a (by simp)) (List.getElem_mem hk)
  · rw [List.take_succ_eq_append_getElem hk] at hz
    rcases List.mem_append.1 hz with hz | hz
    · exact up z (h.some z hz)
    · rw [List.mem_singleton.1 hz]; simp
  · rw [← List.append_assoc]; exact h.few.step hm hr
theorem BfsIn.out {xs : List Blk} {dn todo : List Int} {a : Int} (h : BfsIn xs dn a todo (nxt xs a).length) : Bfs xs (dn ++ [a]) todo :=
  ⟨h.zero, h.reach, fun y hy => by
    rcases List.mem_append.1 hy with hy | hy
    · exact h.closed y hy
    · rw [List.mem_singleton.1 hy]
      have := h.some
      rw [List.take_length] at this
      exact this, h.few⟩
theorem Bfs.done {xs : List Blk} {dn : List Int} (h : Bfs xs dn []) (y : Int) : y ∈ dn ↔ Reach xs y := by
  obtain ⟨h1, h2, h3, _⟩ := h
  simp only [List.append_nil] at h1 h2 h3
  refine ⟨h2 y, fun hy => ?_⟩
  induction hy with
  | zero => exact h1
  | step _ hb ih => exact h3 _ ih _ hb
/-- Of the first j numbers those that were met, rising. -/
def metUp (met : List Int) : Nat → List Int
  | 0 => []
  | j + 1 => if (j : Int) ∈ met then metUp met j ++ [(j : Int)] else metUp met j
theorem metUp_mem (met : List Int) : ∀ (j : Nat) (y : Int), y ∈ metUp met j ↔ y ∈ met ∧ InR j y
  | 0, y => by simp [metUp, InR]; try (intro _ h; omega)
  | j + 1, y => by
    have ih := metUp_mem met j y
    unfold metUp
    split
    · rename_i hm
      rw [List.mem_append, ih, List.mem_singleton]
      constructor
      · rintro (⟨h1, h2, h3⟩ | rfl)
        · exact ⟨h1, h2, by omega⟩
        · exact ⟨hm, by omega, by omega⟩
      · rintro ⟨h1, h2, h3⟩
        by_cases e : y = (j : Int)
        · exact Or.inr e
        · exact Or.inl ⟨h1, h2, by omega⟩
    · rename_i hm
      rw [ih]
      constructor
      · rintro ⟨h1, h2, h3⟩; exact ⟨h1, h2, by omega⟩
      · rintro ⟨h1, h2, h3⟩
        refine ⟨h1, h2, ?_⟩
        by_cases e : y = (j : Int)
        · subst e; exact absurd h1 hm
        · omega
theorem metUp_rising (met : List Int) : ∀ j : Nat, Rising (metUp met j)
  | 0 => by simp [metUp, Rising]
  | j + 1 => by
    have ih := metUp_rising met j
    unfold metUp
    split
    · refine List.pairwise_append.2 ⟨ih, by simp, fun a ha b hb => ?_⟩
      rw [List.mem_singleton.1 hb]
      exact ((metUp_mem met j a).1 ha).2.2
    · exact ih
theorem metUp_len (met : List Int) : ∀ j : Nat, (metUp met j).length ≤ j
  | 0 => by simp [metUp]
  | j + 1 => by
    have := metUp_len met j
    unfold metUp
    split
    · rw [List.length_append]; simp; omega
    · omega
noncomputable def blocksP (g : Gr) : List Int := addAll (orderP g)
theorem blocks_eq {g : Gr} (h : grOk g = true) {met : List Int} (hm : ∀ y, y ∈ met ↔ Reach g.blocks y) : metUp met g.blocks.length = blocksP g := by
  refine rising_eq _ _ (metUp_rising _ _) (addAll_rising _) (fun y => ?_)
  rw [metUp_mem, hm]
  unfold blocksP
  rw [addAll_mem, order_mem h]
  exact ⟨fun hh => hh.1, fun hh => ⟨hh, reach_in h hh⟩⟩
theorem blocksP_none {g : Gr} (h : ¬ grOk g = true) : blocksP g = [] := by unfold blocksP; rw [orderP_none h]; rfl
theorem addAll_len (xs : List Int) : (addAll xs).length ≤ xs.length := by
  have h : ∀ (ys l : List Int), (ys.foldl addTo l).length ≤ l.length + ys.length := by
    intro ys
    induction ys with
    | nil => intro l; simp
    | cons y ys ih =>
      intro l
      have h1 : ∀ (m : List Int), (addTo m y).length ≤ m.length + 1 := by
        intro m
        induction m with
        | nil => simp [addTo]
        | cons z m ih =>
          unfold addTo
          split
          · simp; exact ih
          · split <;> simp
      have := ih (addTo l y)
      have := h1 l
      simp only [List.foldl_cons, List.length_cons]
      omega
  have := h xs []
  unfold addAll
  simpa using this
theorem blocksP_few (g : Gr) : (blocksP g).length ≤ 300 := Nat.le_trans (addAll_len _) (orderP_few g)
end Go.Proofs.Ytjmclmbepnbeoaa
