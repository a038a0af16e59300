/- Plain: labels in their order tell the tree. -/
import Derived.Test.YtfoaplihindeaagOutside
import Derived.Lib.Strings
namespace Go.Proofs.Ytfoaplihindeaag

/-- Two labels of which outside tells the same. -/
def outEq : Lab → Lab → Bool
  | .ex k n b t m, .ex k' n' b' t' m' => k == k' && n == n' && b == b' && t.toList == t'.toList && m == m'
  | .st k n b e x y, .st k' n' b' e' x' y' => k == k' && n == n' && b == b' && e == e' && x == x' && y == y'
  | .ex k n b t m, .st k' n' b' e x y => k == k' && n == n' && b == b' && t.toList == [] && e == 0 && x == 0 && y == 0 && m == 0
  | .st k n b e x y, .ex k' n' b' t m => k == k' && n == n' && b == b' && t.toList == [] && e == 0 && x == 0 && y == 0 && m == 0
def allEq : List Lab → List Lab → Bool
  | [], [] => true
  | a :: l, b :: m => outEq a b && allEq l m
  | _, _ => false
/-- Whether two expressions are alike, as the specification goes through them. -/
theorem bytes_eq {t t' : ByteArray} (h : t.toList = t'.toList) : t = t' := by
  rw [Lib.toList_data, Lib.toList_data] at h
  exact ByteArray.ext (Array.ext' h)
theorem allEq_len : ∀ l m, allEq l m = true → l.length = m.length
  | [], [], _ => rfl
  | a :: l, b :: m, h => by simp [allEq] at h; simp [allEq_len l m h.2]
  | [], b :: m, h => by simp [allEq] at h
  | a :: l, [], h => by simp [allEq] at h
theorem allEq_refl : ∀ l, allEq l l = true
  | [] => rfl
  | a :: l => by cases a <;> simp [allEq, outEq, allEq_refl l]
/-- Labels that go on alike: the trees are one, and what follows goes on alike. -/
def DecE (e : Ex) : Prop := ∀ e' r r', allEq (e.vis ++ r) (e'.vis ++ r') = true → e = e' ∧ allEq r r' = true
theorem decEs : ∀ l : List Ex, (∀ e ∈ l, DecE e) → ∀ l' r r', l.length = l'.length → allEq (exsVis l ++ r) (exsVis l' ++ r') = true → l = l' ∧ allEq r r' = true
  | [], _, l', r, r', hl, h => by
    have : l' = [] := List.length_eq_zero_iff.1 (by simpa using hl.symm)
    subst this
    exact ⟨rfl, by simpa [exsVis] using h⟩
  | x :: l, hd, l', r, r', hl, h => by
    cases l' with
    | nil => simp at hl
    | cons y l' =>
      simp only [exsVis, List.append_assoc] at h
      obtain ⟨h1, h2⟩ := decEs l (fun e he => hd e (by simp [he])) l' _ _ (by simpa using hl) h
      obtain ⟨h3, h4⟩ := hd x (by simp) y r r' h2
      exact ⟨by rw [h1, h3], h4⟩
theorem decE (e : Ex) : DecE e := by
  induction e using Ex.ind with
  | h k n b t kids ih =>
    intro e' r r' h
    obtain ⟨k', n', b', t', kids'⟩ := e'
    simp only [Ex.vis, List.cons_append, allEq, Bool.and_eq_true, outEq, beq_iff_eq] at h
    obtain ⟨⟨⟨⟨⟨h1, h2⟩, h3⟩, h4⟩, h5⟩, h6⟩ := h
    obtain ⟨h7, h8⟩ := decEs kids ih kids' r r' h5 h6
    exact ⟨by rw [h1, h2, h3, bytes_eq h4, h7], h8⟩
theorem visE_iff (a b : Ex) : allEq a.vis b.vis = true ↔ a = b := by
  constructor
  · intro h
    have := decE a b [] [] (by simpa using h)
    exact this.1
  · rintro rfl; exact allEq_refl _
def DecS (e : St) : Prop := ∀ e' r r', allEq (e.vis ++ r) (e'.vis ++ r') = true → e = e' ∧ allEq r r' = true
theorem decSs : ∀ l : List St, (∀ e ∈ l, DecS e) → ∀ l' r r', l.length = l'.length → allEq (stsVis l ++ r) (stsVis l' ++ r') = true → l = l' ∧ allEq r r' = true
  | [], _, l', r, r', hl, h => by
    have : l' = [] := List.length_eq_zero_iff.1 (by simpa using hl.symm)
    subst this
    exact ⟨rfl, by simpa [stsVis] using h⟩
  | x :: l, hd, l', r, r', hl, h => by
    cases l' with
    | nil => simp at hl
    | cons y l' =>
      simp only [stsVis, List.append_assoc] at h
      obtain ⟨h1, h2⟩ := decSs l (fun e he => hd e (by simp [he])) l' _ _ (by simpa using hl) h
      obtain ⟨h3, h4⟩ := hd x (by simp) y r r' h2
      exact ⟨by rw [h1, h3], h4⟩
theorem decS (e : St) : DecS e := by
  induction e using St.ind with
  | h k n b exps xs ys ihx ihy =>
    intro e' r r' h
    obtain ⟨k', n', b', exps', xs', ys'⟩ := e'
    simp only [St.vis, List.cons_append, allEq, Bool.and_eq_true, outEq, beq_iff_eq, List.append_assoc] at h
    obtain ⟨⟨⟨⟨⟨⟨h1, h2⟩, h3⟩, h4⟩, h5⟩, h6⟩, h7⟩ := h
    obtain ⟨g1, h8⟩ := decSs ys ihy ys' _ _ h6 h7
    obtain ⟨g2, h9⟩ := decSs xs ihx xs' _ _ h5 h8
    obtain ⟨g3, h10⟩ := decEs exps (fun e _ => decE e) exps' r r' h4 h9
    exact ⟨by rw [h1, h2, h3, g1, g2, g3], h10⟩
end Go.Proofs.Ytfoaplihindeaag
