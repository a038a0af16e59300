/- Out of earlier texts, what is wanted here (written by wip/mklite.py). -/
import Derived.Test.YtfoelnblnfcaiaaAddPlain
import Derived.Test.YtfoelnblnfcaiaaOwnIntL
namespace Go.Proofs.Ytfoelnblnfcaiaa
open Go.ChangeShapes Go.WideShapes Go.ChangeAt Go.RowKit Go.Maps
def InR (n : Nat) (y : Int) : Prop := 0 ≤ y ∧ y < (n : Int)
theorem filt_le {α : Type} {p q : α → Bool} : ∀ (l : List α), (∀ x, q x = true → p x = true) → (l.filter q).length ≤ (l.filter p).length
  | [], _ => by simp
  | x :: l, h => by
    have ih := filt_le l h
    cases hq : q x
    · rw [List.filter_cons_of_neg (by simp [hq])]
      cases hp : p x
      · rw [List.filter_cons_of_neg (by simp [hp])]; exact ih
      · rw [List.filter_cons_of_pos hp]; simp; omega
    · rw [List.filter_cons_of_pos hq, List.filter_cons_of_pos (h x hq)]; simp; exact ih
theorem filt_lt {α : Type} {p q : α → Bool} {a : α} : ∀ (l : List α), (∀ x, q x = true → p x = true) → a ∈ l → p a = true → q a = false → (l.filter q).length + 1 ≤ (l.filter p).length
  | [], _, h, _, _ => by simp at h
  | x :: l, h, hm, hp, hq => by
    rcases List.mem_cons.1 hm with rfl | hm
    · rw [List.filter_cons_of_neg (by simp [hq]), List.filter_cons_of_pos hp]
      have := filt_le l h
      simp; exact this
    · have ih := filt_lt l h hm hp hq
      cases hq' : q x
      · rw [List.filter_cons_of_neg (by simp [hq'])]
        cases hp' : p x
        · rw [List.filter_cons_of_neg (by simp [hp'])]; exact ih
        · rw [List.filter_cons_of_pos hp']; simp; omega
      · rw [List.filter_cons_of_pos hq', List.filter_cons_of_pos (h x hq')]; simp; omega
/-- How many of the first n blocks were not gone to. -/
def free (n : Nat) (out : List Int) : Nat := ((List.range n).filter fun (i : Nat) => !decide ((i : Int) ∈ out)).length
theorem free_le (n : Nat) (out : List Int) : free n out ≤ n := by
  unfold free
  exact Nat.le_trans (List.length_filter_le _ _) (by simp)
theorem free_step {n : Nat} {out : List Int} {a : Int} (h : ¬ a ∈ out) (hr : InR n a) : free n (out ++ [a]) + 1 ≤ free n out := by
  unfold free
  obtain ⟨h0, h1⟩ := hr
  refine filt_lt (a := a.toNat) _ (fun x hx => ?_) (List.mem_range.2 (by omega)) ?_ ?_
  · simp at hx ⊢; exact hx.1
  · have : ((a.toNat : Nat) : Int) = a := by omega
    rw [this]; simpa using h
  · have : ((a.toNat : Nat) : Int) = a := by omega
    rw [this]; simp
/-- No more than there are. -/
def Few (n : Nat) (out : List Int) : Prop := out.length + free n out ≤ n
theorem few_nil (n : Nat) : Few n [] := by unfold Few; have := free_le n []; simpa using this
theorem Few.step {n : Nat} {out : List Int} {a : Int} (h : Few n out) (ha : ¬ a ∈ out) (hr : InR n a) : Few n (out ++ [a]) := by
  have := free_step ha hr
  unfold Few at *
  rw [List.length_append]; simp; omega
/-- From those of fs one comes to it, by blocks of which none is wo. -/
inductive Way (pre : Nat → List Int) (fs : List Int) (wo : Int) : Int → Prop
  | zero {a : Int} : a ∈ fs → a ≠ wo → Way pre fs wo a
  | step {b c : Int} : Way pre fs wo b → c ∈ pre b.toNat → c ≠ wo → Way pre fs wo c
theorem Way.congr {pre pre' : Nat → List Int} {fs fs' : List Int} {wo : Int} (h1 : ∀ i y, y ∈ pre i → y ∈ pre' i) (h2 : ∀ y ∈ fs, y ∈ fs') {y : Int} (h : Way pre fs wo y) : Way pre' fs' wo y := by
  induction h with
  | zero h h' => exact Way.zero (h2 _ h) h'
  | step _ hb hc ih => exact Way.step ih (h1 _ _ hb) hc
theorem Way.ne {pre : Nat → List Int} {fs : List Int} {wo y : Int} (h : Way pre fs wo y) : y ≠ wo := by
  cases h with
  | zero _ h => exact h
  | step _ _ h => exact h
/-- How many steps wait in blocks that were not met. -/
def restN (pre : Nat → List Int) (met : List Int) : Nat → Nat
  | 0 => 0
  | k + 1 => restN pre met k + if (k : Int) ∈ met then 0 else (pre k).length
theorem restN_far {pre : Nat → List Int} {met : List Int} {a : Int} : ∀ n : Nat, ((n : Int) ≤ a) → restN pre (met ++ [a]) n = restN pre met n
  | 0, _ => rfl
  | n + 1, h => by
    have ih := restN_far (pre := pre) (met := met) (a := a) n (by omega)
    have e : ((n : Int) ∈ met ++ [a]) ↔ (n : Int) ∈ met := by
      rw [List.mem_append, List.mem_singleton]
      exact ⟨fun h2 => h2.elim id (fun e => by omega), Or.inl⟩
    simp only [restN, ih, e]
theorem restN_take {pre : Nat → List Int} {met : List Int} {a : Nat} (ha : ¬ (a : Int) ∈ met) : ∀ n : Nat, a < n → restN pre (met ++ [(a : Int)]) n + (pre a).length = restN pre met n
  | 0, h => absurd h (Nat.not_lt_zero _)
  | n + 1, h => by
    by_cases e : a = n
    · subst e
      have := restN_far (pre := pre) (met := met) (a := (a : Int)) a (Int.le_refl _)
      simp only [restN]
      rw [this, if_pos (by simp), if_neg ha]
      omega
    · have ih := restN_take (pre := pre) ha n (by omega)
      have e2 : ((n : Int) ∈ met ++ [(a : Int)]) ↔ (n : Int) ∈ met := by
        rw [List.mem_append, List.mem_singleton]
        exact ⟨fun h2 => h2.elim id (fun e => by omega), Or.inl⟩
      simp only [restN, e2]
      omega
theorem restN_le {pre : Nat → List Int} {met : List Int} {m : Nat} (h : ∀ i, (pre i).length ≤ m) : ∀ n : Nat, restN pre met n ≤ n * m
  | 0 => by simp [restN]
  | n + 1 => by
    have := restN_le (met := met) h n
    have h2 := h n
    simp only [restN]
    rw [Nat.succ_mul]
    split <;> omega
/-- What is known between two rounds. -/
structure Dfs (pre : Nat → List Int) (n : Nat) (fs : List Int) (wo : Int) (met work : List Int) : Prop where
  sound : ∀ y ∈ met, Way pre fs wo y
  wsound : ∀ y ∈ work, y ≠ wo → Way pre fs wo y
  first : ∀ y ∈ fs, y ≠ wo → y ∈ met ∨ y ∈ work
  closed : ∀ y ∈ met, ∀ z ∈ pre y.toNat, z ≠ wo → z ∈ met ∨ z ∈ work
  rin : ∀ y, y ∈ met ∨ y ∈ work → InR n y
  few : Few n met
theorem dfs_start {pre : Nat → List Int} {n : Nat} {fs : List Int} (wo : Int) (h : ∀ y ∈ fs, InR n y) : Dfs pre n fs wo [] fs :=
  ⟨fun y hy => by simp at hy, fun y hy hw => Way.zero hy hw, fun y hy _ => Or.inr hy, fun y hy => by simp at hy, fun y hy => hy.elim (fun h2 => by simp at h2) (h y), few_nil _⟩
theorem Dfs.skip {pre : Nat → List Int} {n : Nat} {fs : List Int} {wo : Int} {met work : List Int} {a : Int} (h : Dfs pre n fs wo met (work ++ [a])) (ha : a = wo ∨ a ∈ met) : Dfs pre n fs wo met work := by
  have key : ∀ z, z ≠ wo → (z ∈ met ∨ z ∈ work ++ [a]) → z ∈ met ∨ z ∈ work := fun z hz h2 => by
    rcases h2 with h2 | h2
    · exact Or.inl h2
    · rcases List.mem_append.1 h2 with h2 | h2
      · exact Or.inr h2
      · rw [List.mem_singleton.1 h2] at hz ⊢
        exact ha.elim (fun e => absurd e hz) Or.inl
  exact ⟨h.sound, fun y hy => h.wsound y (List.mem_append_left _ hy), fun y hy hw => key y hw (h.first y hy hw), fun y hy z hz hw => key z hw (h.closed y hy z hz hw), fun y hy => h.rin y (hy.elim Or.inl (fun h2 => Or.inr (List.mem_append_left _ h2))), h.few⟩
theorem Dfs.take {pre : Nat → List Int} {n : Nat} {fs : List Int} {wo : Int} {met work : List Int} {a : Int} (h : Dfs pre n fs wo met (work ++ [a])) (hw : a ≠ wo) (hm : ¬ a ∈ met) (hr : ∀ z ∈ pre a.toNat, InR n z) : Dfs pre n fs wo (met ++ [a]) (work ++ pre a.toNat) := by
  have ha : Way pre fs wo a := h.wsound a (by simp) hw
  have key : ∀ z, (z ∈ met ∨ z ∈ work ++ [a]) → z ∈ met ++ [a] ∨ z ∈ work ++ pre a.toNat := fun z h2 => by
    rcases h2 with h2 | h2
    · exact Or.inl (List.mem_append_left _ h2)
    · rcases List.mem_append.1 h2 with h2 | h2
      · exact Or.inr (List.mem_append_left _ h2)
      · exact Or.inl (List.mem_append_right _ h2)
  refine ⟨fun y hy => ?_, fun y hy hwy => ?_, fun y hy hwy => key y (h.first y hy hwy), fun y hy z hz hwz => ?_, fun y hy => ?_, h.few.step hm (h.rin a (Or.inr (by simp)))⟩
  · rcases List.mem_append.1 hy with hy | hy
    · exact h.sound y hy
    · rw [List.mem_singleton.1 hy]; exact ha
  · rcases List.mem_append.1 hy with hy | hy
    · exact h.wsound y (List.mem_append_left _ hy) hwy
    · exact Way.step ha hy hwy
  · rcases List.mem_append.1 hy with hy | hy
    · exact key z (h.closed y hy z hz hwz)
    · rw [List.mem_singleton.1 hy] at hz
      exact Or.inr (List.mem_append_right _ hz)
  · rcases hy with hy | hy
    · rcases List.mem_append.1 hy with hy | hy
      · exact h.rin y (Or.inl hy)
      · rw [List.mem_singleton.1 hy]; exact h.rin a (Or.inr (by simp))
    · rcases List.mem_append.1 hy with hy | hy
      · exact h.rin y (Or.inr (List.mem_append_left _ hy))
      · exact hr y hy
theorem Dfs.done {pre : Nat → List Int} {n : Nat} {fs : List Int} {wo : Int} {met : List Int} (h : Dfs pre n fs wo met []) (y : Int) : y ∈ met ↔ Way pre fs wo y := by
  refine ⟨h.sound y, fun hy => ?_⟩
  induction hy with
  | zero h1 h2 => exact (h.first _ h1 h2).elim id (fun h3 => by simp at h3)
  | step _ hb hc ih => exact (h.closed _ ih _ hb hc).elim id (fun h3 => by simp at h3)
end Go.Proofs.Ytfoelnblnfcaiaa
