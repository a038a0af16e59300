/- The order in which blocks are gone to: plain. A stack of blocks to go to, and those that were gone to. -/
import Derived.Test.YtobpcfelgobedaaRNextP
import Derived.Test.YtobpcfelgobedaaRGrOkP
namespace Go.Proofs.YtobpcfelgobedaaR
open Go.ChangeShapes Go.WideShapes Go.ChangeAt Go.RowKit
/-- The blocks that block a goes to. -/
def nxt (xs : List Blk) (a : Int) : List Int := match xs[a.toNat]? with
  | some x => nextP x
  | none => []
theorem nxt_at {xs : List Blk} {i : Nat} (h : i < xs.length) : nxt xs (i : Int) = nextP xs[i] := by simp [nxt, h]
theorem nxt_len (xs : List Blk) (a : Int) : (nxt xs a).length ≤ 2 := by
  unfold nxt
  split
  · exact nextP_len _
  · simp
def InR (n : Nat) (y : Int) : Prop := 0 ≤ y ∧ y < (n : Int)
def AllIn (xs : List Blk) : Prop := ∀ x ∈ xs, ∀ y ∈ nextP x, InR xs.length y
theorem nxt_in {xs : List Blk} (h : AllIn xs) (a : Int) : ∀ y ∈ nxt xs a, InR xs.length y := by
  intro y hy
  unfold nxt at hy
  split at hy
  · rename_i x hx
    exact h x (List.mem_of_getElem? hx) y hy
  · simp at hy
theorem allIn_of {g : Gr} (h : grOk g = true) : AllIn g.blocks := by
  intro x hx y hy
  simp only [grOk, Bool.and_eq_true, List.all_eq_true] at h
  have h1 := h.2 x hx
  unfold jmpOk at h1
  unfold nextP at hy
  by_cases h0 : x.jump = 0
  · simp only [h0, if_true, List.mem_singleton] at hy
    subst hy
    simp [h0, vOk] at h1
    exact h1.2
  · by_cases h2 : x.jump = 1
    · simp [h2] at hy
      simp [h2, vOk] at h1
      rcases hy with rfl | rfl
      · exact h1.1.2
      · exact h1.2
    · simp [h0, h2] at hy
/-- From a stack and what was gone to so far to all that is gone to. -/
inductive Run (xs : List Blk) : List Int → List Int → List Int → Prop
  | nil (out : List Int) : Run xs [] out out
  | skip {a : Int} {W out r : List Int} : a ∈ out → Run xs W out r → Run xs (a :: W) out r
  | go {a : Int} {W out r : List Int} : ¬ a ∈ out → Run xs (nxt xs a ++ W) (out ++ [a]) r → Run xs (a :: W) out r
theorem Run.nil_inv {xs : List Blk} {out r : List Int} (h : Run xs [] out r) : out = r := by cases h; rfl
theorem Run.skip_inv {xs : List Blk} {a : Int} {W out r : List Int} (h : Run xs (a :: W) out r) (ha : a ∈ out) : Run xs W out r := by
  cases h with
  | skip _ h => exact h
  | go hn _ => exact absurd ha hn
theorem Run.go_inv {xs : List Blk} {a : Int} {W out r : List Int} (h : Run xs (a :: W) out r) (ha : ¬ a ∈ out) : Run xs (nxt xs a ++ W) (out ++ [a]) r := by
  cases h with
  | skip hn _ => exact absurd hn ha
  | go _ h => exact h
theorem Run.det {xs : List Blk} {W out r : List Int} (h : Run xs W out r) : ∀ {r' : List Int}, Run xs W out r' → r = r' := by
  induction h with
  | nil out => intro r' h'; exact h'.nil_inv
  | skip ha _ ih => intro r' h'; exact ih (h'.skip_inv ha)
  | go ha _ ih => intro r' h'; exact ih (h'.go_inv ha)
theorem filt_le {α : Type} {p q : α → Bool} : ∀ (l : List α), (∀ x, q x = true → p x = true) → (l.filter q).length ≤ (l.filter p).length
  | [], _ => by simp
  | x :: l, h => by
    have ih := filt_le l h
    cases hq : q x
    · rw [List.filter_cons_of_neg (by simp [hq])]
      cases hp : p x
      · rw [List.filter_cons_of_neg (by simp [hp])]; exact ih
      · rw [List.filter_cons_of_pos hp]; simp; omega
    · rw [List.filter_cons_of_pos hq, List.filter_cons_of_pos (h x hq)]; simp; exact ih
theorem filt_lt {α : Type} {p q : α → Bool} {a : α} : ∀ (l : List α), (∀ x, q x = true → p x = true) → a ∈ l → p a = true → q a = false → (l.filter q).length + 1 ≤ (l.filter p).length
  | [], _, h, _, _ => by simp at h
  | x :: l, h, hm, hp, hq => by
    rcases List.mem_cons.1 hm with rfl | hm
    · rw [List.filter_cons_of_neg (by simp [hq]), List.filter_cons_of_pos hp]
      have := filt_le l h
      simp; exact this
    · have ih := filt_lt l h hm hp hq
      cases hq' : q x
      · rw [List.filter_cons_of_neg (by simp [hq'])]
        cases hp' : p x
        · rw [List.filter_cons_of_neg (by simp [hp'])]; exact ih
        · rw [List.filter_cons_of_pos hp']; simp; omega
      · rw [List.filter_cons_of_pos hq', List.filter_cons_of_pos (h x hq')]; simp; omega
/-- How many of the first n blocks were not gone to. -/
def free (n : Nat) (out : List Int) : Nat := ((List.range n).filter fun (i : Nat) => !decide ((i : Int) ∈ out)).length
theorem free_le (n : Nat) (out : List Int) : free n out ≤ n := by
  unfold free
  exact Nat.le_trans (List.length_filter_le _ _) (by simp)
theorem free_step {n : Nat} {out : List Int} {a : Int} (h : ¬ a ∈ out) (hr : InR n a) : free n (out ++ [a]) + 1 ≤ free n out := by
  unfold free
  obtain ⟨h0, h1⟩ := hr
  refine filt_lt (a := a.toNat) _ (fun x hx => ?_) (List.mem_range.2 (by omega)) ?_ ?_
  · simp at hx ⊢; exact hx.1
  · have : ((a.toNat : Nat) : Int) = a := by omega
    rw [this]; simpa using h
  · have : ((a.toNat : Nat) : Int) = a := by omega
    rw [this]; simp
/-- No more than there are. -/
def Few (n : Nat) (out : List Int) : Prop := out.length + free n out ≤ n
theorem few_nil (n : Nat) : Few n [] := by unfold Few; have := free_le n []; simpa using this
theorem Few.step {n : Nat} {out : List Int} {a : Int} (h : Few n out) (ha : ¬ a ∈ out) (hr : InR n a) : Few n (out ++ [a]) := by
  have := free_step ha hr
  unfold Few at *
  rw [List.length_append]; simp; omega
theorem run_ex {xs : List Blk} (hn : AllIn xs) : ∀ (m : Nat) (W out : List Int), free xs.length out * 3 + W.length ≤ m → (∀ y ∈ W, InR xs.length y) → Few xs.length out → ∃ r, Run xs W out r ∧ r.length ≤ xs.length
  | _, [], out, _, _, hf => ⟨out, Run.nil out, by unfold Few at hf; omega⟩
  | 0, a :: W, out, hm, _, _ => by simp at hm
  | m + 1, a :: W, out, hm, hW, hf => by
    by_cases ha : a ∈ out
    · obtain ⟨r, h1, h2⟩ := run_ex hn m W out (by simp at hm; omega) (fun y hy => hW y (List.mem_cons_of_mem _ hy)) hf
      exact ⟨r, Run.skip ha h1, h2⟩
    · have hr := hW a List.mem_cons_self
      have hs := free_step ha hr
      have hl := nxt_len xs a
      obtain ⟨r, h1, h2⟩ := run_ex hn m (nxt xs a ++ W) (out ++ [a]) (by simp at hm ⊢; omega) (fun y hy => by
        rcases List.mem_append.1 hy with hy | hy
        · exact nxt_in hn a y hy
        · exact hW y (List.mem_cons_of_mem _ hy)) (hf.step ha hr)
      exact ⟨r, Run.go ha h1, h2⟩
theorem order_ex {g : Gr} (h : grOk g = true) : ∃ r, Run g.blocks [0] [] r ∧ r.length ≤ g.blocks.length := by
  have hb : 1 ≤ g.blocks.length := by
    simp only [grOk, frOk, Bool.and_eq_true, decide_eq_true_eq] at h
    omega
  exact run_ex (allIn_of h) _ [0] [] (Nat.le_refl _) (fun y hy => by simp at hy; subst hy; exact ⟨by omega, by omega⟩) (few_nil _)
open Classical in
noncomputable def orderP (g : Gr) : List Int := if h : grOk g = true then Classical.choose (order_ex h) else []
theorem orderP_run {g : Gr} (h : grOk g = true) : Run g.blocks [0] [] (orderP g) := by
  unfold orderP; rw [dif_pos h]; exact (Classical.choose_spec (order_ex h)).1
theorem orderP_none {g : Gr} (h : ¬ grOk g = true) : orderP g = [] := by unfold orderP; rw [dif_neg h]
theorem orderP_len (g : Gr) : (orderP g).length ≤ g.blocks.length := by
  unfold orderP
  split
  · rename_i h; exact (Classical.choose_spec (order_ex h)).2
  · simp
theorem orderP_few (g : Gr) : (orderP g).length ≤ 300 := by
  by_cases h : grOk g = true
  · refine Nat.le_trans (orderP_len g) ?_
    simp only [grOk, frOk, Bool.and_eq_true, decide_eq_true_eq] at h
    omega
  · rw [orderP_none h]; simp
end Go.Proofs.YtobpcfelgobedaaR
