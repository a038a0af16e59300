/- What stands in an expression or a program: the numbers that VarsOf, Sets and Touches take, plain. -/
import Derived.Test.YtdkdimklacblaahNdOf
import Derived.Test.YtdkdimklacblaahFlatA
import Derived.Test.YtdkdimklacblaahAddPlain
namespace Go.Proofs.Ytdkdimklacblaah
open Go.ChangeShapes Go.WideShapes Go.ChangeAt Go.RowKit
def labE : Ex → Lab
  | .mk k n b t kids => .ex k n b t kids.length
def labS : St → Lab
  | .mk k n b e x y => .st k n b e.length x.length y.length
def labVar : Lab → List Int
  | .ex k n b _ _ => if k = 1 then [n] else if k = 2 ∧ 0 ≤ b then [b] else []
  | .st _ _ _ _ _ _ => []
def labSet : Lab → List Int
  | .st k n _ _ _ _ => if k = 0 then [n] else []
  | .ex _ _ _ _ _ => []
def labTch : Lab → List Int
  | .st k n _ _ _ _ => if k = 1 then [n] else []
  | .ex k n _ _ _ => if k = 2 then [n] else []
theorem vis_exs : ∀ (l : List Ex), (∀ e ∈ l, ∀ L, L ∈ e.vis ↔ ∃ x ∈ e.flat, L = labE x) → ∀ L, L ∈ exsVis l ↔ ∃ x ∈ exsFlat l, L = labE x
  | [], _, L => by simp [exsVis, exsFlat]
  | e :: l, h, L => by
    have h1 := h e (by simp) L
    have h2 := vis_exs l (fun x hx => h x (by simp [hx])) L
    simp only [exsVis, exsFlat, List.mem_append, h1, h2]
    constructor
    · rintro (⟨x, hx, rfl⟩ | ⟨x, hx, rfl⟩)
      · exact ⟨x, Or.inr hx, rfl⟩
      · exact ⟨x, Or.inl hx, rfl⟩
    · rintro ⟨x, hx | hx, rfl⟩
      · exact Or.inr ⟨x, hx, rfl⟩
      · exact Or.inl ⟨x, hx, rfl⟩
theorem vis_ex (e : Ex) : ∀ L, L ∈ e.vis ↔ ∃ x ∈ e.flat, L = labE x := by
  induction e using Ex.ind with
  | h k n b t kids ih =>
    intro L
    have h1 := vis_exs kids ih L
    simp only [Ex.vis, Ex.flat, List.mem_cons, h1]
    constructor
    · rintro (rfl | ⟨x, hx, rfl⟩)
      · exact ⟨_, Or.inl rfl, rfl⟩
      · exact ⟨x, Or.inr hx, rfl⟩
    · rintro ⟨x, rfl | hx, rfl⟩
      · exact Or.inl rfl
      · exact Or.inr ⟨x, hx, rfl⟩
def InSt (l : List St) (L : Lab) : Prop := (∃ s ∈ l, L = labS s) ∨ ∃ x ∈ allOf l, L = labE x
theorem InSt.append {l m : List St} {L : Lab} : InSt (l ++ m) L ↔ InSt l L ∨ InSt m L := by
  unfold InSt
  rw [allOf_append]
  constructor
  · rintro (⟨s, hs, rfl⟩ | ⟨x, hx, rfl⟩)
    · rcases List.mem_append.1 hs with hs | hs
      · exact Or.inl (Or.inl ⟨s, hs, rfl⟩)
      · exact Or.inr (Or.inl ⟨s, hs, rfl⟩)
    · rcases List.mem_append.1 hx with hx | hx
      · exact Or.inl (Or.inr ⟨x, hx, rfl⟩)
      · exact Or.inr (Or.inr ⟨x, hx, rfl⟩)
  · rintro ((⟨s, hs, rfl⟩ | ⟨x, hx, rfl⟩) | (⟨s, hs, rfl⟩ | ⟨x, hx, rfl⟩))
    · exact Or.inl ⟨s, List.mem_append_left _ hs, rfl⟩
    · exact Or.inr ⟨x, List.mem_append_left _ hx, rfl⟩
    · exact Or.inl ⟨s, List.mem_append_right _ hs, rfl⟩
    · exact Or.inr ⟨x, List.mem_append_right _ hx, rfl⟩
theorem vis_sts : ∀ (l : List St), (∀ e ∈ l, ∀ L, L ∈ e.vis ↔ InSt e.flat L) → ∀ L, L ∈ stsVis l ↔ InSt (stsFlat l) L
  | [], _, L => by simp [stsVis, stsFlat, InSt, allOf]
  | e :: l, h, L => by
    have h1 := h e (by simp) L
    have h2 := vis_sts l (fun x hx => h x (by simp [hx])) L
    have e3 : stsFlat (e :: l) = e.flat ++ stsFlat l := rfl
    rw [e3, InSt.append, ← h1, ← h2]
    simp only [stsVis, List.mem_append]
    exact Or.comm
theorem vis_st (e : St) : ∀ L, L ∈ e.vis ↔ InSt e.flat L := by
  induction e using St.ind with
  | h k n b exps xs ys ihx ihy =>
    intro L
    have h1 := vis_sts xs ihx L
    have h2 := vis_sts ys ihy L
    have h3 := vis_exs exps (fun e _ => vis_ex e) L
    have e3 : (St.mk k n b exps xs ys).flat = [St.mk k n b exps xs ys] ++ (stsFlat xs ++ stsFlat ys) := rfl
    rw [e3, InSt.append, InSt.append, ← h1, ← h2]
    simp only [St.vis, List.mem_cons, List.mem_append, h3]
    have e4 : InSt [St.mk k n b exps xs ys] L ↔ L = .st k n b exps.length xs.length ys.length ∨ ∃ x ∈ exsFlat exps, L = labE x := by
      simp [InSt, allOf, labS, St.exps]
    rw [e4]
    constructor
    · rintro (h | h | h | h)
      · exact Or.inl (Or.inl h)
      · exact Or.inr (Or.inr h)
      · exact Or.inr (Or.inl h)
      · exact Or.inl (Or.inr h)
    · rintro ((h | h) | (h | h))
      · exact Or.inl h
      · exact Or.inr (Or.inr (Or.inr h))
      · exact Or.inr (Or.inr (Or.inl h))
      · exact Or.inr (Or.inl h)
theorem vis_body (l : List St) : ∀ L, L ∈ stsVis l ↔ InSt (stsFlat l) L := vis_sts l fun e _ => vis_st e
def exVars (x : Ex) : List Int := labVar (labE x)
def stSets (s : St) : List Int := labSet (labS s)
def stTch (s : St) : List Int := labTch (labS s)
def exTch (x : Ex) : List Int := labTch (labE x)
def varsP (e : Ex) : List Int := addAll (e.flat.flatMap exVars)
def setsP (b : List St) : List Int := addAll ((stsFlat b).flatMap stSets)
def tchP (b : List St) : List Int := addAll ((stsFlat b).flatMap stTch ++ (allOf (stsFlat b)).flatMap exTch)
theorem mem_vars (e : Ex) (y : Int) : y ∈ (exsVis [e]).flatMap labVar ↔ y ∈ e.flat.flatMap exVars := by
  simp only [List.mem_flatMap, exsVis, List.nil_append]
  constructor
  · rintro ⟨L, hL, hy⟩
    obtain ⟨x, hx, rfl⟩ := (vis_ex e L).1 hL
    exact ⟨x, hx, hy⟩
  · rintro ⟨x, hx, hy⟩
    exact ⟨labE x, (vis_ex e _).2 ⟨x, hx, rfl⟩, hy⟩
theorem labSet_ex (x : Ex) : labSet (labE x) = [] := by obtain ⟨k, n, b, t, kids⟩ := x; rfl
theorem mem_sets (l : List St) (y : Int) : y ∈ (stsVis l).flatMap labSet ↔ y ∈ (stsFlat l).flatMap stSets := by
  simp only [List.mem_flatMap]
  constructor
  · rintro ⟨L, hL, hy⟩
    rcases (vis_body l L).1 hL with ⟨s, hs, rfl⟩ | ⟨x, hx, rfl⟩
    · exact ⟨s, hs, hy⟩
    · rw [labSet_ex] at hy; simp at hy
  · rintro ⟨s, hs, hy⟩
    exact ⟨labS s, (vis_body l _).2 (Or.inl ⟨s, hs, rfl⟩), hy⟩
theorem mem_tch (l : List St) (y : Int) : y ∈ (stsVis l).flatMap labTch ↔ y ∈ (stsFlat l).flatMap stTch ++ (allOf (stsFlat l)).flatMap exTch := by
  simp only [List.mem_append, List.mem_flatMap]
  constructor
  · rintro ⟨L, hL, hy⟩
    rcases (vis_body l L).1 hL with ⟨s, hs, rfl⟩ | ⟨x, hx, rfl⟩
    · exact Or.inl ⟨s, hs, hy⟩
    · exact Or.inr ⟨x, hx, hy⟩
  · rintro (⟨s, hs, hy⟩ | ⟨x, hx, hy⟩)
    · exact ⟨labS s, (vis_body l _).2 (Or.inl ⟨s, hs, rfl⟩), hy⟩
    · exact ⟨labE x, (vis_body l _).2 (Or.inr ⟨x, hx, rfl⟩), hy⟩
theorem addAll_append (l m : List Int) : addAll (l ++ m) = m.foldl addTo (addAll l) := by simp [addAll, List.foldl_append]
theorem addTo_len1 (y : Int) : ∀ (m : List Int), (addTo m y).length ≤ m.length + 1
  | [] => by simp [addTo]
  | z :: m => by
    have ih := addTo_len1 y m
    unfold addTo
    split
    · simp; exact ih
    · split <;> simp
theorem foldl_len : ∀ (ys l : List Int), (ys.foldl addTo l).length ≤ l.length + ys.length
  | [], l => by simp
  | y :: ys, l => by
    have := foldl_len ys (addTo l y)
    have := addTo_len1 y l
    simp only [List.foldl_cons, List.length_cons]
    omega
theorem addAll_len2 (xs : List Int) : (addAll xs).length ≤ xs.length := by
  have := foldl_len xs []
  unfold addAll
  simpa using this
theorem flatMap_len {α : Type} (f : α → List Int) (hf : ∀ x, (f x).length ≤ 1) : ∀ l : List α, (l.flatMap f).length ≤ l.length
  | [] => by simp
  | x :: l => by
    have := flatMap_len f hf l
    have := hf x
    simp only [List.flatMap_cons, List.length_append, List.length_cons]
    omega
theorem labVar_len (L : Lab) : (labVar L).length ≤ 1 := by
  cases L with
  | ex k n b t m => unfold labVar; simp only; split; · simp
                    split <;> simp
  | st => simp [labVar]
theorem labSet_len (L : Lab) : (labSet L).length ≤ 1 := by
  cases L with
  | ex => simp [labSet]
  | st k n b e x y => unfold labSet; simp only; split <;> simp
theorem labTch_len (L : Lab) : (labTch L).length ≤ 1 := by
  cases L with
  | ex k n b t m => unfold labTch; simp only; split <;> simp
  | st k n b e x y => unfold labTch; simp only; split <;> simp
theorem flatMap_take {α : Type} (f : α → List Int) (l : List α) (j : Nat) (h : j < l.length) : (l.take (j + 1)).flatMap f = (l.take j).flatMap f ++ f l[j] := by
  rw [List.take_succ_eq_append_getElem h, List.flatMap_append]; simp
theorem sets_few (b : List St) (h : stsSz b ≤ 1048576) : (setsP b).length ≤ 3000000 := by
  have h1 := addAll_len2 ((stsFlat b).flatMap stSets)
  have h2 := flatMap_len stSets (fun x => labSet_len _) (stsFlat b)
  have h3 := flat_le_sts b fun e _ => flat_le_st e
  unfold setsP; omega
theorem tch_few (b : List St) (h : stsSz b ≤ 1048576) : (tchP b).length ≤ 3000000 := by
  have h1 := addAll_len2 ((stsFlat b).flatMap stTch ++ (allOf (stsFlat b)).flatMap exTch)
  have h2 := flatMap_len stTch (fun x => labTch_len _) (stsFlat b)
  have h3 := flat_le_sts b fun e _ => flat_le_st e
  have h4 := flatMap_len exTch (fun x => labTch_len _) (allOf (stsFlat b))
  have h5 := all_le_sts b fun e _ => all_le_st e
  rw [List.length_append] at h1
  unfold tchP; omega
theorem vars_few (e : Ex) (h : e.sz ≤ 1048576) : (varsP e).length ≤ 3000000 := by
  have h1 := addAll_len2 (e.flat.flatMap exVars)
  have h2 := flatMap_len exVars (fun x => labVar_len _) e.flat
  have h3 := flat_le_ex e
  unfold varsP; omega
end Go.Proofs.Ytdkdimklacblaah
