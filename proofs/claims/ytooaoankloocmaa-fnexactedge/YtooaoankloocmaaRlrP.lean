/- Chapter 10, plain: those that rule a block stand in a row; so its ruler is the one that has just one less. -/
import Derived.Test.YtooaoankloocmaaRlrS
namespace Go.Proofs.Ytooaoankloocmaa
open Go.ChangeShapes Go.WideShapes Go.ChangeAt Go.RowKit
section
variable {xs : List Blk} {i x y k : Int}
theorem reaW_or (x : Int) (h : ReaW xs 0 i k) : ReaW xs 0 x k ∨ ReaW xs 0 i x := by
  induction h with
  | zero => exact Or.inl ReaW.zero
  | @step b c hb hc hw ih =>
    rcases ih with ih | ih
    · by_cases e : c = x
      · exact Or.inr (e ▸ ReaW.step hb hc hw)
      · exact Or.inl (ReaW.step ih hc e)
    · exact Or.inr ih
theorem reaW_self (h0 : i ≠ 0) : ¬ ReaW xs 0 i i := fun h => by
  have : ∀ z, ReaW xs 0 i z → z ≠ i := fun z hz => by
    cases hz with
    | zero => exact fun e => h0 e.symm
    | step _ _ hw => exact hw
  exact this i h rfl
theorem rul_refl (h : Reach xs i) : Rul xs i i := ⟨h, h, fun h2 => reaW_self h2.1 h2.2⟩
theorem rul_zero (h : Reach xs k) : Rul xs 0 k := ⟨Reach.zero, h, fun h2 => h2.1 rfl⟩
theorem rul_trans (h1 : Rul xs i x) (h2 : Rul xs x k) : Rul xs i k := by
  refine ⟨h1.1, h2.2.1, fun ⟨hi, hr⟩ => ?_⟩
  by_cases e : x = 0
  · subst e
    exact h1.2.2 ⟨hi, ReaW.zero⟩
  · rcases reaW_or x hr with h | h
    · exact h2.2.2 ⟨e, h⟩
    · exact h1.2.2 ⟨hi, h⟩
theorem rul_anti (h1 : Rul xs x k) (h2 : Rul xs k x) : x = k := by
  by_cases e : x = k
  · exact e
  · exfalso
    by_cases ex : x = 0
    · subst ex
      exact h2.2.2 ⟨fun e2 => e e2.symm, ReaW.zero⟩
    · by_cases ek : k = 0
      · subst ek
        exact h1.2.2 ⟨ex, ReaW.zero⟩
      · have key : ∀ z, Reach xs z → ReaW xs 0 x z ∨ ReaW xs 0 k x ∨ ReaW xs 0 x k := fun z hz => by
          induction hz with
          | zero => exact Or.inl ReaW.zero
          | @step b c hb hc ih =>
            rcases ih with ih | ih
            · by_cases ec : c = x
              · subst ec
                rcases reaW_or k ih with h | h
                · exact Or.inr (Or.inl (ReaW.step h hc e))
                · exact Or.inr (Or.inr h)
              · exact Or.inl (ReaW.step ih hc ec)
            · exact Or.inr ih
        rcases key k h1.2.1 with h | h | h
        · exact h1.2.2 ⟨ex, h⟩
        · exact h2.2.2 ⟨ek, h⟩
        · exact h1.2.2 ⟨ex, h⟩
theorem rul_lin (h1 : Rul xs x k) (h2 : Rul xs y k) : Rul xs x y ∨ Rul xs y x := by
  cases Classical.em (Rul xs x y) with
  | inl h => exact Or.inl h
  | inr h =>
    cases Classical.em (Rul xs y x) with
    | inl h' => exact Or.inr h'
    | inr h' =>
      exfalso
      have a1 : x ≠ 0 ∧ ReaW xs 0 x y := by
        cases Classical.em (x ≠ 0 ∧ ReaW xs 0 x y) with
        | inl q => exact q
        | inr q => exact absurd ⟨h1.1, h2.1, q⟩ h
      have a2 : y ≠ 0 ∧ ReaW xs 0 y x := by
        cases Classical.em (y ≠ 0 ∧ ReaW xs 0 y x) with
        | inl q => exact q
        | inr q => exact absurd ⟨h2.1, h1.1, q⟩ h'
      have key : ∀ z, Reach xs z → ReaW xs 0 x z ∨ ReaW xs 0 y z := fun z hz => by
        induction hz with
        | zero => exact Or.inl ReaW.zero
        | @step b c hb hc ih =>
          rcases ih with ih | ih
          · by_cases ec : c = x
            · exact Or.inr (ec ▸ a2.2)
            · exact Or.inl (ReaW.step ih hc ec)
          · by_cases ec : c = y
            · exact Or.inl (ec ▸ a1.2)
            · exact Or.inr (ReaW.step ih hc ec)
      rcases key k h1.2.1 with h | h
      · exact h1.2.2 ⟨a1.1, h⟩
      · exact h2.2.2 ⟨a2.1, h⟩
end
theorem cnt_le {f f' : Nat → Bool} : ∀ n : Nat, (∀ i, i < n → f i = true → f' i = true) → (upB f n).length ≤ (upB f' n).length
  | 0, _ => by simp [upB]
  | n + 1, h => by
    have ih := cnt_le n (fun i hi => h i (by omega))
    have hh := h n (by omega)
    unfold upB
    by_cases e : f n = true
    · rw [if_pos e, if_pos (hh e)]; simp; omega
    · rw [if_neg e]
      split
      · rw [List.length_append]; omega
      · exact ih
theorem cnt_lt {f f' : Nat → Bool} {a : Nat} (h0 : f a = false) (h1 : f' a = true) : ∀ n : Nat, a < n → (∀ i, i < n → f i = true → f' i = true) → (upB f n).length < (upB f' n).length
  | 0, h, _ => absurd h (Nat.not_lt_zero _)
  | n + 1, ha, h => by
    by_cases e : a = n
    · subst e
      have ih := cnt_le (f := f) (f' := f') a (fun i hi => h i (by omega))
      unfold upB
      rw [if_neg (by rw [h0]; simp), if_pos h1]
      simp; omega
    · have ih := cnt_lt h0 h1 n (by omega) (fun i hi => h i (by omega))
      have hh := h n (by omega)
      unfold upB
      by_cases e : f n = true
      · rw [if_pos e, if_pos (hh e)]; simp; omega
      · rw [if_neg e]
        split
        · rw [List.length_append]; omega
        · exact ih
theorem cnt_one {f f' : Nat → Bool} {a : Nat} (h0 : f a = false) (h1 : f' a = true) : ∀ n : Nat, a < n → (∀ i, i < n → i ≠ a → f i = f' i) → (upB f' n).length = (upB f n).length + 1
  | 0, h, _ => absurd h (Nat.not_lt_zero _)
  | n + 1, ha, h => by
    by_cases e : a = n
    · subst e
      have ih := upB_congr (f := f) (f' := f') a (fun i hi => h i (by omega) (by omega))
      unfold upB
      rw [if_pos h1, if_neg (by rw [h0]; simp), ih]
      simp
    · have ih := cnt_one h0 h1 n (by omega) (fun i hi => h i (by omega))
      have hh := h n (by omega) (fun e2 => e e2.symm)
      unfold upB
      rw [hh]
      split
      · simp; omega
      · exact ih
/-- How many rule block k. -/
noncomputable def domN (xs : List Blk) (k : Int) : Nat := (upB (fun i => rulB xs (i : Int) k) xs.length).length
section
variable {xs : List Blk} (hx : AllIn xs) (h0 : 0 < xs.length) {x y k : Int}
include hx h0
theorem reach_nat (h : Reach xs x) : ∃ t : Nat, x = (t : Int) ∧ t < xs.length := by
  have : InR xs.length x := by
    induction h with
    | zero => exact ⟨Int.le_refl _, by omega⟩
    | step _ hb _ => exact nxt_in hx _ _ hb
  exact ⟨x.toNat, by have := this.1; omega, by have h1 := this.1; have h2 := this.2; omega⟩
theorem dom_lt (h : Rul xs x y) (hne : x ≠ y) : domN xs x < domN xs y := by
  obtain ⟨t, ht, htn⟩ := reach_nat hx h0 h.2.1
  subst ht
  refine cnt_lt (a := t) ?_ (rulB_iff.2 (rul_refl h.2.1)) _ htn (fun i _ hi => rulB_iff.2 (rul_trans (rulB_iff.1 hi) h))
  cases e : rulB xs (t : Int) x with
  | false => rfl
  | true => exact absurd (rul_anti h (rulB_iff.1 e)) hne
/-- Of two that rule k the greater ones are one. -/
theorem dom_uniq (h1 : Rul xs x k) (h2 : Rul xs y k) (he : domN xs x = domN xs y) : x = y := by
  by_cases e : x = y
  · exact e
  · exfalso
    rcases rul_lin h1 h2 with h | h
    · have := dom_lt hx h0 h e; omega
    · have := dom_lt hx h0 h (fun e2 => e e2.symm); omega
/-- The greatest one ahead of k has one less. -/
theorem dom_max (h1 : Rul xs x k) (hne : x ≠ k) (hm : ∀ y, Rul xs y k → y ≠ k → domN xs y ≤ domN xs x) : domN xs k = domN xs x + 1 := by
  obtain ⟨t, ht, htn⟩ := reach_nat hx h0 h1.2.1
  subst ht
  refine cnt_one (a := t) ?_ (rulB_iff.2 (rul_refl h1.2.1)) _ htn (fun i hi hit => ?_)
  · cases e : rulB xs (t : Int) x with
    | false => rfl
    | true => exact absurd (rul_anti h1 (rulB_iff.1 e)) hne
  · rw [Bool.eq_iff_iff, rulB_iff, rulB_iff]
    constructor
    · exact fun h => rul_trans h h1
    · intro h
      have hik : (i : Int) ≠ (t : Int) := by omega
      rcases rul_lin h h1 with h2 | h2
      · exact h2
      · by_cases e : x = (i : Int)
        · rw [← e]; exact rul_refl h1.1
        · have := dom_lt hx h0 h2 e
          have := hm _ h hik
          omega
end
theorem best_inv (L : List (List Int)) (k : Nat) (hp : ∀ x ∈ L.getD k [], 0 ≤ x) : ∀ i : Nat, i ≤ (L.getD k []).length →
    (bestUp L k i = -1 ∧ ∀ x ∈ (L.getD k []).take i, x = (k : Int)) ∨ (bestUp L k i ∈ (L.getD k []).take i ∧ bestUp L k i ≠ (k : Int) ∧ 0 ≤ bestUp L k i ∧ ∀ x ∈ (L.getD k []).take i, x ≠ (k : Int) → (L.getD x.toNat []).length ≤ (L.getD (bestUp L k i).toNat []).length)
  | 0, _ => Or.inl ⟨rfl, by simp⟩
  | i + 1, hi => by
    have ih := best_inv L k hp i (by omega)
    have hlt : i < (L.getD k []).length := by omega
    have e1 : (L.getD k []).take (i + 1) = (L.getD k []).take i ++ [(L.getD k [])[i]] := List.take_succ_eq_append_getElem hlt
    have e2 : (L.getD k []).getD i 0 = (L.getD k [])[i] := by rw [List.getD_eq_getElem?_getD, List.getElem?_eq_getElem hlt]; rfl
    have hpx := hp _ (List.getElem_mem hlt)
    rw [e1]
    have eb : bestUp L k (i + 1) = bestP L k (bestUp L k i) (L.getD k [])[i] := by rw [← e2]; rfl
    rw [eb]
    obtain ⟨x, hx⟩ : ∃ x, (L.getD k [])[i] = x := ⟨_, rfl⟩
    obtain ⟨b, hb⟩ : ∃ b, bestUp L k i = b := ⟨_, rfl⟩
    rw [hx] at hpx ⊢
    rw [hb] at ih ⊢
    unfold bestP
    by_cases c : x ≠ (k : Int) ∧ (b < 0 ∨ (L.getD b.toNat []).length < (L.getD x.toNat []).length)
    · rw [if_pos c]
      refine Or.inr ⟨by simp, c.1, hpx, fun y hy hyk => ?_⟩
      rcases List.mem_append.1 hy with hy | hy
      · rcases ih with ih | ih
        · exact absurd (ih.2 y hy) hyk
        · have := ih.2.2.2 y hy hyk
          have h0 := ih.2.2.1
          rcases c.2 with c2 | c2
          · omega
          · omega
      · rw [List.mem_singleton.1 hy]; exact Nat.le_refl _
    · rw [if_neg c]
      rcases ih with ih | ih
      · left
        refine ⟨ih.1, fun y hy => ?_⟩
        rcases List.mem_append.1 hy with hy | hy
        · exact ih.2 y hy
        · rw [List.mem_singleton.1 hy]
          cases Classical.em (x = (k : Int)) with
          | inl h => exact h
          | inr h => exact absurd ⟨h, Or.inl (by omega)⟩ c
      · right
        refine ⟨List.mem_append_left _ ih.1, ih.2.1, ih.2.2.1, fun y hy hyk => ?_⟩
        rcases List.mem_append.1 hy with hy | hy
        · exact ih.2.2.2 y hy hyk
        · rw [List.mem_singleton.1 hy] at hyk ⊢
          cases Nat.lt_or_ge (L.getD b.toNat []).length (L.getD x.toNat []).length with
          | inl h => exact absurd ⟨hyk, Or.inr h⟩ c
          | inr h => exact h
theorem rulesP_get {g : Gr} (hok : grOk g = true) {k : Nat} (hk : k < g.blocks.length) : (rulesP g).getD k [] = upB (fun i => rulB g.blocks (i : Int) (k : Int)) g.blocks.length := by
  unfold rulesP rulUp
  rw [if_pos hok, List.getD_eq_getElem?_getD, List.getElem?_map, List.getElem?_range hk]
  rfl
section
variable {g : Gr} (hok : grOk g = true) {k : Nat} (hk : k < g.blocks.length)
include hok hk
theorem rules_mem (x : Int) : x ∈ (rulesP g).getD k [] ↔ Rul g.blocks x (k : Int) := by
  rw [rulesP_get hok hk, upB_mem]
  constructor
  · rintro ⟨i, rfl, _, h⟩; exact rulB_iff.1 h
  · intro h
    obtain ⟨t, rfl, ht⟩ := reach_nat (allIn_of hok) (grOk_blocks hok).1 h.1
    exact ⟨t, rfl, ht, rulB_iff.2 h⟩
omit hk in
theorem rules_len {x : Int} (h : Rul g.blocks x (k : Int)) : ((rulesP g).getD x.toNat []).length = domN g.blocks x := by
  obtain ⟨t, rfl, ht⟩ := reach_nat (allIn_of hok) (grOk_blocks hok).1 h.1
  rw [Int.toNat_natCast, rulesP_get hok ht]
  rfl
theorem best_end : (bestUp (rulesP g) k ((rulesP g).getD k []).length = -1 ∧ ∀ x, Rul g.blocks x (k : Int) → x = (k : Int)) ∨ (Rul g.blocks (bestUp (rulesP g) k ((rulesP g).getD k []).length) (k : Int) ∧ bestUp (rulesP g) k ((rulesP g).getD k []).length ≠ (k : Int) ∧ domN g.blocks (k : Int) = domN g.blocks (bestUp (rulesP g) k ((rulesP g).getD k []).length) + 1) := by
  have := best_inv (rulesP g) k (fun x hx => by
    obtain ⟨t, rfl, ht⟩ := reach_nat (allIn_of hok) (grOk_blocks hok).1 ((rules_mem hok hk x).1 hx).1
    omega) _ (Nat.le_refl _)
  rw [List.take_length] at this
  rcases this with h | h
  · exact Or.inl ⟨h.1, fun x hx => h.2 x ((rules_mem hok hk x).2 hx)⟩
  · have hb := (rules_mem hok hk _).1 h.1
    refine Or.inr ⟨hb, h.2.1, dom_max (allIn_of hok) (grOk_blocks hok).1 hb h.2.1 (fun y hy hyk => ?_)⟩
    have := h.2.2.2 y ((rules_mem hok hk y).2 hy) hyk
    rw [rules_len hok hy, rules_len hok hb] at this
    exact this
theorem self_len : ((rulesP g).getD k []).length = domN g.blocks (k : Int) := by rw [rulesP_get hok hk]; rfl
theorem ruler_hit {x : Int} (hx : x ∈ (rulesP g).getD k []) (hl : ((rulesP g).getD x.toNat []).length + 1 = ((rulesP g).getD k []).length) : bestUp (rulesP g) k ((rulesP g).getD k []).length = x := by
  have hr := (rules_mem hok hk x).1 hx
  rw [rules_len hok hr, self_len hok hk] at hl
  rcases best_end hok hk with h | h
  · have := h.2 x hr
    rw [this] at hl
    omega
  · exact dom_uniq (allIn_of hok) (grOk_blocks hok).1 h.1 hr (by omega)
theorem ruler_none (hl : ∀ x ∈ (rulesP g).getD k [], ((rulesP g).getD x.toNat []).length + 1 ≠ ((rulesP g).getD k []).length) : bestUp (rulesP g) k ((rulesP g).getD k []).length = -1 := by
  rcases best_end hok hk with h | h
  · exact h.1
  · refine absurd ?_ (hl _ ((rules_mem hok hk _).2 h.1))
    have e := self_len hok hk
    rw [rules_len hok h.1]
    omega
end
end Go.Proofs.Ytooaoankloocmaa
