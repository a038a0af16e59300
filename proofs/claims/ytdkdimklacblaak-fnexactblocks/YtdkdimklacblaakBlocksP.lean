/- The blocks that one comes to: plain. -/
import Derived.Test.YtdkdimklacblaakOrderP
import Derived.Test.YtdkdimklacblaakAddPlain
namespace Go.Proofs.Ytdkdimklacblaak
open Go.ChangeShapes Go.WideShapes Go.ChangeAt Go.RowKit
inductive Reach (xs : List Blk) : Int → Prop
  | zero : Reach xs 0
  | step {a b : Int} : Reach xs a → b ∈ nxt xs a → Reach xs b
theorem Run.reach {xs : List Blk} {W out r : List Int} (h : Run xs W out r) : (∀ y ∈ W, Reach xs y) → (∀ y ∈ out, Reach xs y) → ∀ y ∈ r, Reach xs y := by
  induction h with
  | nil out => intro _ h y hy; exact h y hy
  | skip _ _ ih => intro h1 h2; exact ih (fun y hy => h1 y (List.mem_cons_of_mem _ hy)) h2
  | go _ _ ih =>
    rename_i a W out r _ _
    intro h1 h2
    have ha := h1 a List.mem_cons_self
    refine ih (fun y hy => ?_) (fun y hy => ?_)
    · rcases List.mem_append.1 hy with hy | hy
      · exact Reach.step ha hy
      · exact h1 y (List.mem_cons_of_mem _ hy)
    · rcases List.mem_append.1 hy with hy | hy
      · exact h2 y hy
      · rw [List.mem_singleton.1 hy]; exact ha
theorem Run.sub {xs : List Blk} {W out r : List Int} (h : Run xs W out r) : (∀ y ∈ out, y ∈ r) ∧ ∀ y ∈ W, y ∈ r := by
  induction h with
  | nil out => exact ⟨fun _ h => h, fun _ h => by simp at h⟩
  | skip ha _ ih =>
    refine ⟨ih.1, fun y hy => ?_⟩
    rcases List.mem_cons.1 hy with rfl | hy
    · exact ih.1 _ ha
    · exact ih.2 _ hy
  | go _ _ ih =>
    refine ⟨fun y hy => ih.1 y (List.mem_append_left _ hy), fun y hy => ?_⟩
    rcases List.mem_cons.1 hy with rfl | hy
    · exact ih.1 _ (by simp)
    · exact ih.2 _ (List.mem_append_right _ hy)
theorem Run.closed {xs : List Blk} {W out r : List Int} (h : Run xs W out r) : ∀ y ∈ r, y ∈ out ∨ ∀ z ∈ nxt xs y, z ∈ r := by
  induction h with
  | nil out => intro y hy; exact Or.inl hy
  | skip _ _ ih => exact ih
  | go _ hr ih =>
    rename_i a W out r _
    intro y hy
    rcases ih y hy with h | h
    · rcases List.mem_append.1 h with h | h
      · exact Or.inl h
      · rw [List.mem_singleton.1 h]
        exact Or.inr fun z hz => hr.sub.2 z (List.mem_append_left _ hz)
    · exact Or.inr h
theorem order_mem {g : Gr} (h : grOk g = true) (y : Int) : y ∈ orderP g ↔ Reach g.blocks y := by
  have hr := orderP_run h
  constructor
  · exact hr.reach (fun y hy => by simp at hy; subst hy; exact Reach.zero) (fun y hy => by simp at hy) y
  · intro hy
    induction hy with
    | zero => exact hr.sub.2 0 (by simp)
    | step _ hb ih =>
      rcases hr.closed _ ih with h | h
      · simp at h
      · exact h _ hb
theorem reach_in {g : Gr} (h : grOk g = true) {y : Int} (hy : Reach g.blocks y) : InR g.blocks.length y := by
  induction hy with
  | zero =>
    have hb : 1 ≤ g.blocks.length := by
      simp only [grOk, frOk, Bool.and_eq_true, decide_eq_true_eq] at h
      omega
    exact ⟨by omega, by omega⟩
  | step _ hb _ => exact nxt_in (allIn_of h) _ _ hb
/-- What is known between two rounds: done was gone on from, todo waits. -/
structure Bfs (xs : List Blk) (dn todo : List Int) : Prop where
  zero : 0 ∈ dn ++ todo
  reach : ∀ y ∈ dn ++ todo, Reach xs y
  closed : ∀ y ∈ dn, ∀ z ∈ nxt xs y, z ∈ dn ++ todo
  few : Few xs.length (dn ++ todo)
theorem bfs_start (xs : List Blk) (h : 1 ≤ xs.length) : Bfs xs [] [0] :=
  ⟨by simp, fun y hy => by simp at hy; subst hy; exact Reach.zero, fun y hy => by simp at hy, (few_nil _).step (by simp) ⟨by omega, by omega⟩⟩
/-- Within a round: a was taken, k of those that it goes to were looked at. -/
structure BfsIn (xs : List Blk) (dn : List Int) (a : Int) (todo : List Int) (k : Nat) : Prop where
  zero : 0 ∈ dn ++ [a] ++ todo
  reach : ∀ y ∈ dn ++ [a] ++ todo, Reach xs y
  closed : ∀ y ∈ dn, ∀ z ∈ nxt xs y, z ∈ dn ++ [a] ++ todo
  some : ∀ z ∈ (nxt xs a).take k, z ∈ dn ++ [a] ++ todo
  few : Few xs.length (dn ++ [a] ++ todo)
theorem Bfs.inn {xs : List Blk} {dn todo : List Int} {a : Int} (h : Bfs xs dn (a :: todo)) : BfsIn xs dn a todo 0 := by
  have e : dn ++ a :: todo = dn ++ [a] ++ todo := by simp
  obtain ⟨h1, h2, h3, h4⟩ := h
  rw [e] at h1 h2 h3 h4
  exact ⟨h1, h2, h3, by simp, h4⟩
theorem BfsIn.there {xs : List Blk} {dn todo : List Int} {a : Int} {k : Nat} (h : BfsIn xs dn a todo k) (hk : k < (nxt xs a).length) (hm : (nxt xs a)[k] ∈ dn ++ [a] ++ todo) : BfsIn xs dn a todo (k + 1) :=
  ⟨h.zero, h.reach, h.closed, fun z hz => by
    rw [List.take_succ_eq_append_getElem hk] at hz
    rcases List.mem_append.1 hz with hz | hz
    · exact h.some z hz
    · rw [List.mem_singleton.1 hz]; exact hm, h.few⟩
theorem BfsIn.new {xs : List Blk} {dn todo : List Int} {a : Int} {k : Nat} (h : BfsIn xs dn a todo k) (hk : k < (nxt xs a).length) (hm : ¬ (nxt xs a)[k] ∈ dn ++ [a] ++ todo) (hr : InR xs.length (nxt xs a)[k]) : BfsIn xs dn a (todo ++ [(nxt xs a)[k]]) (k + 1) := by
  have up : ∀ z, z ∈ dn ++ [a] ++ todo → z ∈ dn ++ [a] ++ (todo ++ [(nxt xs a)[k]]) := fun z hz => by
    rw [← List.append_assoc]; exact List.mem_append_left _ hz
  refine ⟨up _ h.zero, fun y hy => ?_, fun y hy z hz => up z (h.closed y hy z hz), fun z hz => ?_, ?_⟩
  · rw [← List.append_assoc] at hy
    rcases List.mem_append.1 hy with hy | hy
    · exact h.reach y hy
    · rw [List.mem_singleton.1 hy]
      exact Reach.step (h.reach a (by simp)) (List.getElem_mem hk)
  · rw [List.take_succ_eq_append_getElem hk] at hz
    rcases List.mem_append.1 hz with hz | hz
    · exact up z (h.some z hz)
    · rw [List.mem_singleton.1 hz]; simp
  · rw [← List.append_assoc]; exact h.few.step hm hr
theorem BfsIn.out {xs : List Blk} {dn todo : List Int} {a : Int} (h : BfsIn xs dn a todo (nxt xs a).length) : Bfs xs (dn ++ [a]) todo :=
  ⟨h.zero, h.reach, fun y hy => by
    rcases List.mem_append.1 hy with hy | hy
    · exact h.closed y hy
    · rw [List.mem_singleton.1 hy]
      have := h.some
      rw [List.take_length] at this
      exact this, h.few⟩
theorem Bfs.done {xs : List Blk} {dn : List Int} (h : Bfs xs dn []) (y : Int) : y ∈ dn ↔ Reach xs y := by
  obtain ⟨h1, h2, h3, _⟩ := h
  simp only [List.append_nil] at h1 h2 h3
  refine ⟨h2 y, fun hy => ?_⟩
  induction hy with
  | zero => exact h1
  | step _ hb ih => exact h3 _ ih _ hb
/-- Of the first j numbers those that were met, rising. -/
def metUp (met : List Int) : Nat → List Int
  | 0 => []
  | j + 1 => if (j : Int) ∈ met then metUp met j ++ [(j : Int)] else metUp met j
theorem metUp_mem (met : List Int) : ∀ (j : Nat) (y : Int), y ∈ metUp met j ↔ y ∈ met ∧ InR j y
  | 0, y => by simp [metUp, InR]; try (intro _ h; omega)
  | j + 1, y => by
    have ih := metUp_mem met j y
    unfold metUp
    split
    · rename_i hm
      rw [List.mem_append, ih, List.mem_singleton]
      constructor
      · rintro (⟨h1, h2, h3⟩ | rfl)
        · exact ⟨h1, h2, by omega⟩
        · exact ⟨hm, by omega, by omega⟩
      · rintro ⟨h1, h2, h3⟩
        by_cases e : y = (j : Int)
        · exact Or.inr e
        · exact Or.inl ⟨h1, h2, by omega⟩
    · rename_i hm
      rw [ih]
      constructor
      · rintro ⟨h1, h2, h3⟩; exact ⟨h1, h2, by omega⟩
      · rintro ⟨h1, h2, h3⟩
        refine ⟨h1, h2, ?_⟩
        by_cases e : y = (j : Int)
        · subst e; exact absurd h1 hm
        · omega
theorem metUp_rising (met : List Int) : ∀ j : Nat, Rising (metUp met j)
  | 0 => by simp [metUp, Rising]
  | j + 1 => by
    have ih := metUp_rising met j
    unfold metUp
    split
    · refine List.pairwise_append.2 ⟨ih, by simp, fun a ha b hb => ?_⟩
      rw [List.mem_singleton.1 hb]
      exact ((metUp_mem met j a).1 ha).2.2
    · exact ih
theorem metUp_len (met : List Int) : ∀ j : Nat, (metUp met j).length ≤ j
  | 0 => by simp [metUp]
  | j + 1 => by
    have := metUp_len met j
    unfold metUp
    split
    · rw [List.length_append]; simp; omega
    · omega
noncomputable def blocksP (g : Gr) : List Int := addAll (orderP g)
theorem blocks_eq {g : Gr} (h : grOk g = true) {met : List Int} (hm : ∀ y, y ∈ met ↔ Reach g.blocks y) : metUp met g.blocks.length = blocksP g := by
  refine rising_eq _ _ (metUp_rising _ _) (addAll_rising _) (fun y => ?_)
  rw [metUp_mem, hm]
  unfold blocksP
  rw [addAll_mem, order_mem h]
  exact ⟨fun hh => hh.1, fun hh => ⟨hh, reach_in h hh⟩⟩
theorem blocksP_none {g : Gr} (h : ¬ grOk g = true) : blocksP g = [] := by unfold blocksP; rw [orderP_none h]; rfl
theorem addAll_len (xs : List Int) : (addAll xs).length ≤ xs.length := by
  have h : ∀ (ys l : List Int), (ys.foldl addTo l).length ≤ l.length + ys.length := by
    intro ys
    induction ys with
    | nil => intro l; simp
    | cons y ys ih =>
      intro l
      have h1 : ∀ (m : List Int), (addTo m y).length ≤ m.length + 1 := by
        intro m
        induction m with
        | nil => simp [addTo]
        | cons z m ih =>
          unfold addTo
          split
          · simp; exact ih
          · split <;> simp
      have := ih (addTo l y)
      have := h1 l
      simp only [List.foldl_cons, List.length_cons]
      omega
  have := h xs []
  unfold addAll
  simpa using this
theorem blocksP_few (g : Gr) : (blocksP g).length ≤ 300 := Nat.le_trans (addAll_len _) (orderP_few g)
end Go.Proofs.Ytdkdimklacblaak
