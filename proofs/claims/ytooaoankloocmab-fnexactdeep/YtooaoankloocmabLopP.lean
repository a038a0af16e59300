/- Chapter 10, plain: the blocks of a loop: its head, its end, and all from which one comes to its end without its head. -/
import Derived.Test.YtooaoankloocmabOrdPA
import Derived.Test.YtooaoankloocmabBksP
import Derived.Test.YtooaoankloocmabEdgP
import Derived.Test.YtooaoankloocmabAheadP
namespace Go.Proofs.Ytooaoankloocmab
open Go.ChangeShapes Go.WideShapes Go.ChangeAt Go.RowKit
/-- The blocks that go to block t, rising. -/
def prdL (xs : List Blk) (t : Nat) : List Int := upB (fun k => decide ((t : Int) ∈ nxt xs (k : Int))) xs.length
theorem prdL_mem {xs : List Blk} {t : Nat} (y : Int) : y ∈ prdL xs t ↔ ∃ k : Nat, y = (k : Int) ∧ k < xs.length ∧ (t : Int) ∈ nxt xs (k : Int) := by
  unfold prdL
  rw [upB_mem]
  simp only [decide_eq_true_eq]
theorem prdL_in {xs : List Blk} {t : Nat} : ∀ y ∈ prdL xs t, InR xs.length y := fun y hy => by
  obtain ⟨k, rfl, hk, _⟩ := (prdL_mem y).1 hy
  exact ⟨by omega, by omega⟩
def LopM (xs : List Blk) (from_ hd y : Int) : Prop := y = hd ∨ Way (prdL xs) [from_] hd y
open Classical in
noncomputable def lopTo (xs : List Blk) (from_ hd : Int) : List Int := upB (fun t => decide (LopM xs from_ hd (t : Int))) xs.length
theorem way_in {pre : Nat → List Int} {n : Nat} {fs : List Int} {wo y : Int} (hp : ∀ i, ∀ z ∈ pre i, InR n z) (hf : ∀ z ∈ fs, InR n z) (h : Way pre fs wo y) : InR n y := by
  cases h with
  | zero h _ => exact hf _ h
  | step _ h _ => exact hp _ _ h
theorem lopM_in {xs : List Blk} {from_ hd y : Int} (h1 : InR xs.length from_) (h2 : InR xs.length hd) (h : LopM xs from_ hd y) : InR xs.length y := by
  rcases h with rfl | h
  · exact h2
  · exact way_in (fun _ => prdL_in) (fun z hz => by rw [List.mem_singleton.1 hz]; exact h1) h
open Classical in
theorem lopTo_mem {xs : List Blk} {from_ hd : Int} (h1 : InR xs.length from_) (h2 : InR xs.length hd) (y : Int) : y ∈ lopTo xs from_ hd ↔ LopM xs from_ hd y := by
  unfold lopTo
  rw [upB_mem]
  constructor
  · rintro ⟨i, rfl, _, h⟩; exact of_decide_eq_true h
  · intro h
    obtain ⟨a, b⟩ := lopM_in h1 h2 h
    exact ⟨y.toNat, by omega, by omega, by rw [decide_eq_true_eq, show ((y.toNat : Nat) : Int) = y by omega]; exact h⟩
open Classical in
noncomputable def loopP (g : Gr) (from_ hd : Int) : List Int := if ∃ p ∈ backsP g, (p.1 : Int) = from_ ∧ (p.2 : Int) = hd then lopTo g.blocks from_ hd else []
theorem loopP_few (g : Gr) (a b : Int) : (loopP g a b).length ≤ 300 := by
  unfold loopP
  split
  · rename_i h
    obtain ⟨p, hp, _⟩ := h
    unfold backsP at hp
    by_cases hok : grOk g = true
    · exact Nat.le_trans (upB_len _ _) (grOk_blocks hok).2
    · rw [if_neg hok] at hp
      simp at hp
  · simp
theorem backs_in {g : Gr} {p : Nat × Nat} (hp : p ∈ backsP g) : grOk g = true ∧ p.1 < g.blocks.length ∧ p.2 < g.blocks.length ∧ (p.2 : Int) ∈ bkTo g.blocks p.1 := by
  unfold backsP at hp
  by_cases hok : grOk g = true
  · rw [if_pos hok] at hp
    obtain ⟨h1, h2⟩ := (backsUp_mem g.blocks p _).1 hp
    have := nxt_in (allIn_of hok) _ _ ((bkTo_mem (allIn_of hok) _).1 h2).1
    exact ⟨hok, h1, by have := this.2; omega, h2⟩
  · rw [if_neg hok] at hp
    simp at hp
/-- What is known between two rounds of the specification's search: dn was gone back from, todo waits, inn is told. -/
structure LpB (xs : List Blk) (a hd : Int) (inn dn todo : List Int) : Prop where
  rise : Rising inn
  mem : ∀ y, y ∈ inn ↔ y = hd ∨ y ∈ dn ++ todo
  sound : ∀ y ∈ dn ++ todo, Way (prdL xs) [a] hd y
  first : a ≠ hd → a ∈ dn ++ todo
  closed : ∀ y ∈ dn, ∀ z ∈ prdL xs y.toNat, z ≠ hd → z ∈ dn ++ todo
  few : Few xs.length (dn ++ todo)
structure LpV (xs : List Blk) (a hd : Int) (inn dn : List Int) (c : Int) (todo : List Int) (ah : List Int) (k : Nat) : Prop where
  rise : Rising inn
  mem : ∀ y, y ∈ inn ↔ y = hd ∨ y ∈ dn ++ [c] ++ todo
  sound : ∀ y ∈ dn ++ [c] ++ todo, Way (prdL xs) [a] hd y
  first : a ≠ hd → a ∈ dn ++ [c] ++ todo
  closed : ∀ y ∈ dn, ∀ z ∈ prdL xs y.toNat, z ≠ hd → z ∈ dn ++ [c] ++ todo
  some : ∀ z ∈ ah.take k, z ≠ hd → z ∈ dn ++ [c] ++ todo
  few : Few xs.length (dn ++ [c] ++ todo)
section
variable {xs : List Blk} {a hd c : Int} {inn dn todo ah : List Int} {k : Nat}
theorem lpB_start (ha : InR xs.length a) (hne : a ≠ hd) : LpB xs a hd (addTo [hd] a) [] [a] :=
  ⟨addTo_rising _ _ (by simp [Rising]), fun y => by rw [addTo_mem]; simp [or_comm], fun y hy => by simp at hy; subst hy; exact Way.zero (by simp) hne, fun _ => by simp, fun y hy => by simp at hy, (few_nil _).step (by simp) ha⟩
theorem LpB.enter (h : LpB xs a hd inn dn (c :: todo)) : LpV xs a hd inn dn c todo ah 0 := by
  have e : dn ++ c :: todo = dn ++ [c] ++ todo := by simp
  obtain ⟨h1, h2, h3, h4, h5, h6⟩ := h
  rw [e] at h2 h3 h4 h5 h6
  exact ⟨h1, h2, h3, h4, h5, by simp, h6⟩
theorem LpV.there (h : LpV xs a hd inn dn c todo ah k) (hk : k < ah.length) (hm : ah[k] ∈ inn) : LpV xs a hd inn dn c todo ah (k + 1) :=
  ⟨h.rise, h.mem, h.sound, h.first, h.closed, fun z hz hne => by
    rw [List.take_succ_eq_append_getElem hk] at hz
    rcases List.mem_append.1 hz with hz | hz
    · exact h.some z hz hne
    · rw [List.mem_singleton.1 hz] at hne ⊢
      exact ((h.mem _).1 hm).elim (fun e => absurd e hne) id, h.few⟩
theorem LpV.new (h : LpV xs a hd inn dn c todo ah k) (hk : k < ah.length) (hm : ¬ ah[k] ∈ inn) (hp : ∀ z, z ∈ ah ↔ z ∈ prdL xs c.toNat) : LpV xs a hd (addTo inn ah[k]) dn c (todo ++ [ah[k]]) ah (k + 1) := by
  have up : ∀ z, z ∈ dn ++ [c] ++ todo → z ∈ dn ++ [c] ++ (todo ++ [ah[k]]) := fun z hz => by
    rw [← List.append_assoc]; exact List.mem_append_left _ hz
  have hne : ah[k] ≠ hd := fun e => hm ((h.mem _).2 (Or.inl e))
  have hnm : ¬ ah[k] ∈ dn ++ [c] ++ todo := fun e => hm ((h.mem _).2 (Or.inr e))
  have hpr := (hp _).1 (List.getElem_mem hk)
  refine ⟨addTo_rising _ _ h.rise, fun y => ?_, fun y hy => ?_, fun e => up _ (h.first e), fun y hy z hz hw => up z (h.closed y hy z hz hw), fun z hz hw => ?_, ?_⟩
  · rw [addTo_mem, h.mem, ← List.append_assoc, List.mem_append (t := [ah[k]]), List.mem_singleton]
    constructor
    · rintro (h1 | h1 | h1)
      · exact Or.inr (Or.inr h1)
      · exact Or.inl h1
      · exact Or.inr (Or.inl h1)
    · rintro (h1 | h1 | h1)
      · exact Or.inr (Or.inl h1)
      · exact Or.inr (Or.inr h1)
      · exact Or.inl h1
  · rw [← List.append_assoc] at hy
    rcases List.mem_append.1 hy with hy | hy
    · exact h.sound y hy
    · rw [List.mem_singleton.1 hy]
      exact Way.step (h.sound c (by simp)) hpr hne
  · rw [List.take_succ_eq_append_getElem hk] at hz
    rcases List.mem_append.1 hz with hz | hz
    · exact up z (h.some z hz hw)
    · rw [List.mem_singleton.1 hz]; simp
  · rw [← List.append_assoc]; exact h.few.step hnm (prdL_in _ hpr)
theorem LpV.out (h : LpV xs a hd inn dn c todo ah ah.length) (hp : ∀ z, z ∈ ah ↔ z ∈ prdL xs c.toNat) : LpB xs a hd inn (dn ++ [c]) todo :=
  ⟨h.rise, h.mem, h.sound, h.first, fun y hy => by
    rcases List.mem_append.1 hy with hy | hy
    · exact h.closed y hy
    · rw [List.mem_singleton.1 hy]
      intro z hz hw
      have := h.some z (by rw [List.take_length]; exact (hp z).2 hz) hw
      exact this, h.few⟩
theorem LpB.done (h : LpB xs a hd inn dn []) (hne : a ≠ hd) (h1 : InR xs.length a) (h2 : InR xs.length hd) : inn = lopTo xs a hd := by
  refine rising_eq _ _ h.rise (upB_up _ _) (fun y => ?_)
  rw [h.mem, lopTo_mem h1 h2, List.append_nil]
  unfold LopM
  refine or_congr_right ⟨fun hy => h.sound y (by simpa using hy), fun hy => ?_⟩
  have f := h.first hne
  have cl := h.closed
  rw [List.append_nil] at f cl
  induction hy with
  | zero hz _ => rw [List.mem_singleton.1 hz]; exact f
  | step _ hb hc ih => exact cl _ ih _ hb hc
theorem LpB.few2 (h : LpB xs a hd inn dn todo) (h2 : InR xs.length hd) (hf : ∀ y ∈ dn ++ todo, InR xs.length y) : inn.length ≤ xs.length := rising_few h.rise (fun y hy => ((h.mem y).1 hy).elim (fun e => e ▸ h2) (hf y))
theorem LpV.inR (h1 : InR xs.length a) (h : LpV xs a hd inn dn c todo ah k) (h2 : InR xs.length hd) : inn.length ≤ xs.length ∧ InR xs.length c ∧ todo.length ≤ xs.length := by
  have hf : ∀ y ∈ dn ++ [c] ++ todo, InR xs.length y := fun y hy => way_in (fun _ => prdL_in) (fun z hz => by rw [List.mem_singleton.1 hz]; exact h1) (h.sound y hy)
  refine ⟨rising_few h.rise (fun y hy => ((h.mem y).1 hy).elim (fun e => e ▸ h2) (hf y)), hf c (by simp), ?_⟩
  have := h.few
  unfold Few at this
  rw [List.length_append, List.length_append] at this
  omega
theorem way_self {pre : Nat → List Int} {y : Int} : ¬ Way pre [hd] hd y := fun h => by
  induction h with
  | zero h1 h3 => exact h3 (List.mem_singleton.1 h1)
  | step _ _ _ ih => exact ih
theorem lop_self (h2 : InR xs.length hd) : [hd] = lopTo xs hd hd := by
  refine rising_eq _ _ (by simp [Rising]) (upB_up _ _) (fun y => ?_)
  rw [lopTo_mem h2 h2, List.mem_singleton]
  unfold LopM
  exact ⟨Or.inl, fun h => h.elim id (fun h => absurd h way_self)⟩
end
theorem goes_nxt (xs : List Blk) (n : Int) (k : Nat) : goesTo xs n k = decide (n ∈ nxt xs (k : Int)) := by
  unfold goesTo nxt
  rw [Int.toNat_natCast]
  cases xs[k]? with
  | some x => rfl
  | none => simp
theorem aheadUp_up (xs : List Blk) (t : Nat) : ∀ j : Nat, aheadUp xs (t : Int) j = upB (fun k => decide ((t : Int) ∈ nxt xs (k : Int))) j
  | 0 => rfl
  | j + 1 => by
    have ih := aheadUp_up xs t j
    unfold aheadUp upB
    rw [ih, goes_nxt]
theorem ahead_prd {g : Gr} (hok : grOk g = true) {t : Nat} (ht : t < g.blocks.length) : aheadP g (t : Int) = prdL g.blocks t := by
  unfold aheadP
  rw [if_pos ⟨hok, by omega, by omega⟩]
  exact aheadUp_up _ _ _
end Go.Proofs.Ytooaoankloocmab
