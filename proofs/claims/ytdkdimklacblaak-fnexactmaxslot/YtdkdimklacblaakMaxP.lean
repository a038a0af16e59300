/- The greatest slot, as a function: it hangs on which numbers are met alone, not on their order. -/
import Derived.Test.YtdkdimklacblaakGrOkP
namespace Go.Proofs.Ytdkdimklacblaak
def topFrom (o : Int) (l : List Int) : Int := l.foldl (fun o z => if o < z then z else o) o
def topOf (l : List Int) : Int := topFrom (-1) l
theorem topFrom_spec : ∀ (l : List Int) (o : Int), o ≤ topFrom o l ∧ (∀ z ∈ l, z ≤ topFrom o l) ∧ (topFrom o l = o ∨ topFrom o l ∈ l)
  | [], o => ⟨Int.le_refl _, by simp, Or.inl rfl⟩
  | z :: l, o => by
    have h := topFrom_spec l (if o < z then z else o)
    have e : topFrom o (z :: l) = topFrom (if o < z then z else o) l := rfl
    rw [e]
    by_cases hz : o < z
    · rw [if_pos hz] at h ⊢
      refine ⟨by have := h.1; omega, ?_, ?_⟩
      · intro y hy
        rcases List.mem_cons.1 hy with rfl | hy
        · exact h.1
        · exact h.2.1 y hy
      · rcases h.2.2 with h2 | h2
        · right; rw [h2]; exact List.mem_cons_self
        · right; exact List.mem_cons_of_mem _ h2
    · rw [if_neg hz] at h ⊢
      refine ⟨h.1, ?_, ?_⟩
      · intro y hy
        rcases List.mem_cons.1 hy with rfl | hy
        · have := h.1; omega
        · exact h.2.1 y hy
      · rcases h.2.2 with h2 | h2
        · left; exact h2
        · right; exact List.mem_cons_of_mem _ h2
theorem topFrom_append (o : Int) (l m : List Int) : topFrom o (l ++ m) = topFrom (topFrom o l) m := by simp [topFrom, List.foldl_append]
theorem topOf_of {l : List Int} {t : Int} (h1 : -1 ≤ t) (h2 : ∀ z ∈ l, z ≤ t) (h3 : t = -1 ∨ t ∈ l) : topOf l = t := by
  obtain ⟨a, b, c⟩ := topFrom_spec l (-1)
  have b' : ∀ z ∈ l, z ≤ topOf l := b
  have a' : -1 ≤ topOf l := a
  have le1 : topOf l ≤ t := by
    rcases c with c | c
    · have : topOf l = -1 := c; omega
    · exact h2 _ c
  have le2 : t ≤ topOf l := by
    rcases h3 with h | h
    · omega
    · exact b' _ h
  omega
theorem topOf_same {l m : List Int} (h : ∀ z, z ∈ l ↔ z ∈ m) : topOf l = topOf m := by
  obtain ⟨a, b, c⟩ := topFrom_spec m (-1)
  refine topOf_of a (fun z hz => b z ((h z).1 hz)) ?_
  rcases c with c | c
  · exact Or.inl c
  · exact Or.inr ((h _).2 c)
/-- What a block meets, as the specification takes it and as the program does. -/
def metS (u : Ins → List Int) (m : Ins → Int) (b : Blk) : List Int := (if b.jump = 0 then [] else [b.a]) ++ b.code.flatMap fun x => u x ++ [m x]
def metJ (b : Blk) : List Int := if b.jump = 1 ∨ b.jump = 2 then [b.a] else []
theorem top_met (u : Ins → List Int) (m : Ins → Int) (bs : List Blk) (hj : ∀ b ∈ bs, b.jump = 0 ∨ b.jump = 1 ∨ b.jump = 2) :
    topOf (bs.flatMap (metS u m)) = topOf (-1 :: ((codeAll bs).flatMap (fun x => m x :: u x) ++ bs.flatMap metJ)) := by
  have e : topOf (-1 :: ((codeAll bs).flatMap (fun x => m x :: u x) ++ bs.flatMap metJ)) = topOf ((codeAll bs).flatMap (fun x => m x :: u x) ++ bs.flatMap metJ) := rfl
  rw [e]
  refine topOf_same fun z => ?_
  simp only [List.mem_flatMap, List.mem_append, metS, metJ, codeAll, List.mem_cons, List.not_mem_nil, or_false]
  constructor
  · rintro ⟨b, hb, h | ⟨x, hx, h⟩⟩
    · right
      refine ⟨b, hb, ?_⟩
      rcases hj b hb with h0 | h0 | h0 <;> simp [h0] at h ⊢ <;> exact h
    · left
      exact ⟨x, ⟨b, hb, hx⟩, h.symm⟩
  · rintro (⟨x, ⟨b, hb, hx⟩, h⟩ | ⟨b, hb, h⟩)
    · exact ⟨b, hb, Or.inr ⟨x, hx, h.symm⟩⟩
    · refine ⟨b, hb, Or.inl ?_⟩
      rcases hj b hb with h0 | h0 | h0 <;> simp [h0] at h ⊢ <;> exact h
theorem jmp_of_ok {g : Gr} (h : grOk g = true) : ∀ b ∈ g.blocks, b.jump = 0 ∨ b.jump = 1 ∨ b.jump = 2 := by
  intro b hb
  simp only [grOk, Bool.and_eq_true, List.all_eq_true] at h
  have h1 := h.2 b hb
  unfold jmpOk at h1
  by_cases h0 : b.jump = 0
  · exact Or.inl h0
  · by_cases h2 : b.jump = 1
    · exact Or.inr (Or.inl h2)
    · by_cases h3 : b.jump = 2
      · exact Or.inr (Or.inr h3)
      · simp [h0, h2, h3] at h1
end Go.Proofs.Ytdkdimklacblaak
