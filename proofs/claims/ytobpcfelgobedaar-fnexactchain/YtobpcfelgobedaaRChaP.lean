/- An order by counts: plain. -/
import Derived.Test.YtobpcfelgobedaaROrdP
import Derived.Test.YtobpcfelgobedaaROrderP
namespace Go.Proofs.YtobpcfelgobedaaR
open Go.ChangeShapes Go.WideShapes Go.ChangeAt Go.RowKit
/-- The count of a block. -/
def cntC (C : List Int) (t : Int) : Int := (C[t.toNat]?).getD 0
/-- The block with the greatest count among the first k of nx that do not stand in D; -1 where there is none. -/
def bestU (C D nx : List Int) : Nat → Int
  | 0 => -1
  | k + 1 => match nx[k]? with
    | some t => if ¬ t ∈ D ∧ (bestU C D nx k = -1 ∨ cntC C (bestU C D nx k) < cntC C t) then t else bestU C D nx k
    | none => bestU C D nx k
theorem bestU_at {C D nx : List Int} {k : Nat} {t : Int} (h : k < nx.length) (ht : nx[k] = t) : bestU C D nx (k + 1) = if ¬ t ∈ D ∧ (bestU C D nx k = -1 ∨ cntC C (bestU C D nx k) < cntC C t) then t else bestU C D nx k := by
  simp only [bestU, List.getElem?_eq_getElem h, ht]
theorem bestU_or {C D nx : List Int} {n : Nat} (hn : ∀ y ∈ nx, InQ n y) : ∀ k, bestU C D nx k = -1 ∨ (InQ n (bestU C D nx k) ∧ ¬ bestU C D nx k ∈ D)
  | 0 => Or.inl rfl
  | k + 1 => by
    have ih := bestU_or (C := C) (D := D) hn k
    by_cases h : k < nx.length
    · rw [bestU_at h rfl]
      split
      · rename_i h2
        exact Or.inr ⟨hn _ (List.getElem_mem h), h2.1⟩
      · exact ih
    · simp only [bestU, List.getElem?_eq_none (Nat.le_of_not_lt h)]
      exact ih
/-- The least block from i on, of m more, that does not stand in D; -1 where there is none. -/
noncomputable def leastU (D : List Int) (i : Nat) : Nat → Int
  | 0 => -1
  | m + 1 => if (i : Int) ∈ D then leastU D (i + 1) m else (i : Int)
noncomputable def leastC (n : Nat) (D : List Int) : Int := leastU D 0 n
theorem leastC_from {n : Nat} {D : List Int} : ∀ i, i ≤ n → (∀ k : Nat, k < i → (k : Int) ∈ D) → leastC n D = leastU D i (n - i)
  | 0, _, _ => rfl
  | i + 1, hi, h => by
    rw [leastC_from i (by omega) (fun k hk => h k (by omega)), show n - i = (n - (i + 1)) + 1 by omega]
    show (if (i : Int) ∈ D then leastU D (i + 1) (n - (i + 1)) else (i : Int)) = _
    rw [if_pos (h i (by omega))]
theorem leastC_eq {n : Nat} {D : List Int} {i : Nat} (hi : i < n) (h : ∀ k : Nat, k < i → (k : Int) ∈ D) (hno : ¬ (i : Int) ∈ D) : leastC n D = (i : Int) := by
  rw [leastC_from i (by omega) h, show n - i = (n - (i + 1)) + 1 by omega]
  show (if (i : Int) ∈ D then leastU D (i + 1) (n - (i + 1)) else (i : Int)) = _
  rw [if_neg hno]
theorem leastC_none {n : Nat} {D : List Int} (h : ∀ k : Nat, k < n → (k : Int) ∈ D) : leastC n D = -1 := by
  rw [leastC_from n (Nat.le_refl _) h, Nat.sub_self]; rfl
theorem leastU_or (n : Nat) (D : List Int) : ∀ m i, i + m = n → leastU D i m = -1 ∨ (InQ n (leastU D i m) ∧ ¬ leastU D i m ∈ D)
  | 0, _, _ => Or.inl rfl
  | m + 1, i, hi => by
    show (if (i : Int) ∈ D then leastU D (i + 1) m else (i : Int)) = -1 ∨ (InQ n (if (i : Int) ∈ D then leastU D (i + 1) m else (i : Int)) ∧ ¬ (if (i : Int) ∈ D then leastU D (i + 1) m else (i : Int)) ∈ D)
    split
    · exact leastU_or n D m (i + 1) (by omega)
    · rename_i h
      exact Or.inr ⟨⟨by omega, by omega⟩, h⟩
theorem leastC_or (n : Nat) (D : List Int) : leastC n D = -1 ∨ (InQ n (leastC n D) ∧ ¬ leastC n D ∈ D) := leastU_or n D n 0 (by omega)
/-- The best one behind block at. -/
def behC (bs : List Blk) (C D : List Int) (at' : Int) : Int := bestU C D (nxt bs at') (nxt bs at').length
/-- The block that comes behind block at. -/
noncomputable def nextC (bs : List Blk) (C D : List Int) (at' : Int) : Int := if behC bs C D at' = -1 then leastC bs.length D else behC bs C D at'
/-- The order from block at on, with at most f more. -/
noncomputable def runC (bs : List Blk) (C : List Int) : Nat → List Int → Int → List Int
  | 0, D, _ => D
  | f + 1, D, at' => if at' < 0 then D else runC bs C f (D ++ [at']) (nextC bs C (D ++ [at']) at')
theorem runC_neg {bs : List Blk} {C : List Int} {f : Nat} {D : List Int} {a : Int} (h : a < 0) : runC bs C f D a = D := by
  cases f with
  | zero => rfl
  | succ f => simp [runC, h]
theorem runC_step {bs : List Blk} {C : List Int} {f : Nat} {D : List Int} {a : Int} (h : 0 ≤ a) : runC bs C (f + 1) D a = runC bs C f (D ++ [a]) (nextC bs C (D ++ [a]) a) := by
  have : ¬ a < 0 := by omega
  simp [runC, this]
noncomputable def chainP (g : Gr) (C : List Int) : List Int := if C.length = g.blocks.length ∧ grOk g = true then runC g.blocks C g.blocks.length [] 0 else []
theorem behC_or {g : Gr} (hg : grOk g = true) (C D : List Int) (a : Int) : behC g.blocks C D a = -1 ∨ (InQ g.blocks.length (behC g.blocks C D a) ∧ ¬ behC g.blocks C D a ∈ D) := by
  refine bestU_or (fun y hy => ?_) _
  unfold nxt at hy
  split at hy
  · rename_i x hx
    exact allIn_of hg x (List.mem_of_getElem? hx) y hy
  · simp at hy
/-- What holds of the blocks that stand there, and of what comes next. -/
structure ChI (bs : List Blk) (C : List Int) (R D : List Int) (a : Int) (f : Nat) : Prop where
  nod : D.Nodup
  inn : ∀ y ∈ D, InQ bs.length y
  len : D.length + f = bs.length
  res : runC bs C f D a = R
theorem ChI.few {bs : List Blk} {C R D : List Int} {a : Int} {f : Nat} (h : ChI bs C R D a f) (ha : InQ bs.length a) (hn : ¬ a ∈ D) : ∃ f', f = f' + 1 := by
  cases f with
  | succ f => exact ⟨f, rfl⟩
  | zero =>
    exfalso
    have h1 := h.len
    have := nod_le bs.length (a :: D) (List.nodup_cons.2 ⟨hn, h.nod⟩) (fun y hy => by
      rcases List.mem_cons.1 hy with rfl | hy
      · exact ha
      · exact h.inn y hy)
    simp at this
    omega
theorem ChI.step {bs : List Blk} {C R D : List Int} {a : Int} {f : Nat} (h : ChI bs C R D a (f + 1)) (ha : InQ bs.length a) (hn : ¬ a ∈ D) : ChI bs C R (D ++ [a]) (nextC bs C (D ++ [a]) a) f := by
  refine ⟨List.nodup_append.2 ⟨h.nod, by simp, fun x hx y hy => ?_⟩, fun y hy => ?_, by have := h.len; simp; omega, ?_⟩
  · rw [List.mem_singleton.1 hy]; exact fun e => hn (e ▸ hx)
  · rcases List.mem_append.1 hy with hy | hy
    · exact h.inn y hy
    · rw [List.mem_singleton.1 hy]; exact ha
  · rw [← runC_step ha.1]; exact h.res
theorem ChI.turn {bs : List Blk} {C R D : List Int} {a b : Int} {f : Nat} (h : ChI bs C R D a f) (e : a = b) : ChI bs C R D b f := e ▸ h
theorem chainP_few (g : Gr) (C : List Int) (hb : grOk g = true → g.blocks.length ≤ 300) : (chainP g C).length ≤ 300 := by
  have hr : ∀ f D a, (runC g.blocks C f D a).length ≤ D.length + f := fun f => by
    induction f with
    | zero => intro D a; exact Nat.le_refl _
    | succ f ih =>
      intro D a
      by_cases h : a < 0
      · rw [runC_neg h]; omega
      · rw [runC_step (by omega)]
        have := ih (D ++ [a]) (nextC g.blocks C (D ++ [a]) a)
        simp at this
        omega
  unfold chainP
  split
  · rename_i h
    have := hr g.blocks.length [] 0
    have := hb h.2
    simp at *
    omega
  · simp
end Go.Proofs.YtobpcfelgobedaaR
