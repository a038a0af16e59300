/- impl.Deep: its map of ends, and what its loops carry. -/
import Derived.Test.YtooaoankloocmabEmI
import Derived.Test.YtooaoankloocmabDepP
import Derived.Test.YtooaoankloocmabLpwI
import Derived.Test.YtooaoankloocmabBksI
namespace Go.Proofs.Ytooaoankloocmab
open Go.ChangeShapes Go.WideShapes Go.ChangeAt Go.RowKit Go.Maps
/-- The ends of the pairs with this head. -/
def fsQ (Q : List (Nat × Nat)) (s : Int) : List Int := (Q.filter (fun p => decide ((p.2 : Int) = s))).map (fun p => (p.1 : Int))
theorem fsQ_same {Q : List (Nat × Nat)} {p : Nat × Nat} : fsQ (Q ++ [p]) (p.2 : Int) = fsQ Q (p.2 : Int) ++ [(p.1 : Int)] := by simp [fsQ]
theorem fsQ_other {Q : List (Nat × Nat)} {p : Nat × Nat} {s : Int} (h : s ≠ (p.2 : Int)) : fsQ (Q ++ [p]) s = fsQ Q s := by
  have h2 : ¬ (p.2 : Int) = s := fun e => h e.symm
  simp [fsQ, h2]
theorem fsQ_mem {Q : List (Nat × Nat)} {s x : Int} : x ∈ fsQ Q s ↔ ∃ p ∈ Q, (p.2 : Int) = s ∧ (p.1 : Int) = x := by
  unfold fsQ
  simp only [List.mem_map, List.mem_filter, decide_eq_true_eq]
  constructor
  · rintro ⟨p, ⟨h1, h2⟩, h3⟩; exact ⟨p, h1, h2, h3⟩
  · rintro ⟨p, h1, h2, h3⟩; exact ⟨p, ⟨h1, h2⟩, h3⟩
theorem fsQ_len (Q : List (Nat × Nat)) (s : Int) : (fsQ Q s).length ≤ Q.length := by unfold fsQ; rw [List.length_map]; exact List.length_filter_le _ _
theorem way_union {pre : Nat → List Int} {fs : List Int} {hd y : Int} : Way pre fs hd y ↔ ∃ a ∈ fs, Way pre [a] hd y := by
  constructor
  · intro h
    induction h with
    | @zero a ha hw => exact ⟨a, ha, Way.zero (by simp) hw⟩
    | step _ hb hw ih => obtain ⟨a, ha, h2⟩ := ih; exact ⟨a, ha, Way.step h2 hb hw⟩
  · rintro ⟨a, ha, h⟩
    exact h.congr (fun _ _ h => h) (fun y hy => by rw [List.mem_singleton.1 hy]; exact ha)
theorem dpM_iff {xs : List Blk} {Q : List (Nat × Nat)} {hd y : Int} (hne : fsQ Q hd ≠ []) : DpM xs Q hd y ↔ (y = hd ∨ Way (prdL xs) (fsQ Q hd) hd y) := by
  unfold DpM LopM
  constructor
  · rintro ⟨p, hp, he, h1 | h1⟩
    · exact Or.inl h1
    · exact Or.inr (way_union.2 ⟨_, fsQ_mem.2 ⟨p, hp, he, rfl⟩, h1⟩)
  · rintro (h1 | h1)
    · obtain ⟨x, hx⟩ := List.exists_mem_of_ne_nil _ hne
      obtain ⟨p, hp, he, _⟩ := fsQ_mem.1 hx
      exact ⟨p, hp, he, Or.inl h1⟩
    · obtain ⟨a, ha, h2⟩ := way_union.1 h1
      obtain ⟨p, hp, he, rfl⟩ := fsQ_mem.1 ha
      exact ⟨p, hp, he, Or.inr h2⟩
/-- Block b: for each head of a pair the list of its ends, each in a block of its own. -/
structure EdAt (W : World) (lo b n : Nat) (E : Int → Option Value) (Q : List (Nat × Nat)) : Prop where
  em : EmAt W b n E
  own : ∀ s v, E s = some v → OwnI W lo v (fsQ Q s)
  there : ∀ s, (E s).isSome = true ↔ fsQ Q s ≠ []
  dis : ∀ s t u v, E s = some u → E t = some v → s ≠ t → ∀ g, u.ownBlock = some g → v.ownBlock ≠ some g
section
variable {W W1 W6 W7 : World} {lo b n : Nat} {E : Int → Option Value} {Q : List (Nat × Nat)}
theorem EdAt.stays (h : EdAt W lo b n E Q) (bel : Below W.heap.size W W1) : EdAt W1 lo b n E Q := ⟨h.em.stays bel, fun s v e => (h.own s v e).stays bel, h.there, h.dis⟩
theorem EdAt.numN (h : EdAt W lo b n E Q) (s : Int) : NumN W lo ((E s).getD (.slice none 0 0)) (fsQ Q s) := by
  cases e : E s with
  | none =>
    left
    refine ⟨rfl, ?_⟩
    cases Classical.em (fsQ Q s = []) with
    | inl h2 => exact h2
    | inr h2 => have := (h.there s).2 h2; rw [e] at this; cases this
  | some v => exact Or.inr (h.own s v e)
theorem EdAt.made (w : World) (lo : Nat) : EdAt (w.alloc (.map #[] 0)) lo w.heap.size 0 (fun _ => none) [] := ⟨EmAt.made w, fun _ _ e => (by cases e), fun s => by simp [fsQ], fun _ _ _ _ e => (by cases e)⟩
/-- One pair more. -/
theorem EdAt.step (h : EdAt W lo b n E Q) {p : Nat × Nat} {v6 : Value} (b1 : Below W.heap.size W W1) (ho : OwnI W6 lo v6 (fsQ Q (p.2 : Int) ++ [(p.1 : Int)])) (hg : W1.grownBy W6 ((E (p.2 : Int)).getD (.slice none 0 0)).ownBlock) (hl : v6.ownBlock = ((E (p.2 : Int)).getD (.slice none 0 0)).ownBlock ∨ v6.ownBlock = some W1.heap.size) (hem : EmAt W7 b (n + 1) (fun z => if z = (p.2 : Int) then Option.some v6 else E z)) (hb : But b W6 W7) :
    EdAt W7 lo b (n + 1) (fun z => if z = (p.2 : Int) then Option.some v6 else E z) (Q ++ [p]) := by
  have h1 := h.stays b1
  obtain ⟨es, cl, hmap⟩ := h1.em.isMap
  have hbt : ∀ {v : Value} {l : List Int}, OwnI W1 lo v l → v.ownBlock ≠ Option.some b := fun {v l} hv e => by
    obtain ⟨g, cap, cur, hvv, _, hh, _⟩ := hv.parts
    have e2 : g = b := by rw [hvv] at e; simpa [Value.ownBlock] using e
    rw [e2, hmap] at hh
    cases hh
  have hbl : b < W1.heap.size := hltP hmap
  have h6b : v6.ownBlock ≠ Option.some b := fun e => by
    rcases hl with hl | hl
    · rw [hl] at e
      cases he : E (p.2 : Int) with
      | none => rw [he] at e; cases e
      | some v => rw [he] at e; exact hbt (h1.own _ v he) e
    · rw [hl] at e
      injection e with e
      omega
  have keepO : ∀ s v, s ≠ (p.2 : Int) → E s = Option.some v → OwnI W7 lo v (fsQ Q s) := fun s v hs e => by
    have o1 := h1.own s v e
    have o2 : OwnI W6 lo v (fsQ Q s) := o1.kept hg (fun e2 => by
      obtain ⟨g, cap, hv, _⟩ := id o1
      have hvo : v.ownBlock = Option.some g := by rw [hv]; rfl
      cases he : E (p.2 : Int) with
      | none => rw [he, hvo] at e2; cases e2
      | some u =>
        rw [he] at e2
        exact h1.dis s _ v u e he hs g hvo (by rw [← hvo]; exact e2.symm))
    exact o2.butG hb (hbt o1)
  refine ⟨hem, fun s v e => ?_, fun s => ?_, fun s t u v e1 e2 hst g hgu => ?_⟩
  · by_cases c : s = (p.2 : Int)
    · subst c
      simp only [if_true] at e
      cases e
      rw [fsQ_same]
      exact ho.butG hb h6b
    · simp only [if_neg c] at e
      rw [fsQ_other c]
      exact keepO s v c e
  · by_cases c : s = (p.2 : Int)
    · subst c
      rw [fsQ_same]
      simp
    · simp only [if_neg c]
      rw [fsQ_other c]
      exact h.there s
  · have fresh : ∀ x y, x ≠ (p.2 : Int) → E x = Option.some y → ∀ q, v6.ownBlock = Option.some q → y.ownBlock ≠ Option.some q := fun x y hx ex q hq e3 => by
      rcases hl with hl | hl
      · rw [hl] at hq
        cases he : E (p.2 : Int) with
        | none => rw [he] at hq; cases hq
        | some z => rw [he] at hq; exact h1.dis _ x z y he ex (fun e4 => hx e4.symm) q hq e3
      · rw [hl] at hq
        have := (h1.own x y ex).low q e3
        injection hq with hq
        omega
    by_cases c1 : s = (p.2 : Int)
    · by_cases c2 : t = (p.2 : Int)
      · exact absurd (c1.trans c2.symm) hst
      · simp only [if_pos c1] at e1
        simp only [if_neg c2] at e2
        cases e1
        exact fresh t v c2 e2 g hgu
    · simp only [if_neg c1] at e1
      by_cases c2 : t = (p.2 : Int)
      · simp only [if_pos c2] at e2
        cases e2
        exact fun e3 => fresh s u c1 e1 g e3 hgu
      · simp only [if_neg c2] at e2
        exact h1.dis s t u v e1 e2 hst g hgu
end
open Classical in
/-- In how many of these heads' loops. -/
noncomputable def cntD (xs : List Blk) (Q : List (Nat × Nat)) (dn : List Int) (y : Int) : Nat := (dn.filter (fun hd => decide (DpM xs Q hd y))).length
open Classical in
theorem cntD_app (xs : List Blk) (Q : List (Nat × Nat)) (dn : List Int) (x y : Int) : cntD xs Q (dn ++ [x]) y = cntD xs Q dn y + if DpM xs Q x y then 1 else 0 := by
  unfold cntD
  rw [List.filter_append, List.length_append]
  by_cases c : DpM xs Q x y <;> simp [c]
open Classical in
theorem cntD_end {xs : List Blk} {Q : List (Nat × Nat)} {dn : List Int} (hQ : ∀ p ∈ Q, (p.2 : Int) < xs.length) (hd : ∀ s, s ∈ dn ↔ fsQ Q s ≠ []) (hn : dn.Nodup) (y : Int) : cntD xs Q dn y = depN xs Q xs.length y := by
  unfold cntD depN
  refine List.Perm.length_eq ((List.perm_ext_iff_of_nodup (hn.filter _) ((upB_up _ _).imp (fun {a b} h => by omega))).2 (fun s => ?_))
  rw [List.mem_filter, upB_mem, decide_eq_true_eq]
  constructor
  · rintro ⟨h1, p, hp, he, h2⟩
    exact ⟨p.2, he.symm, by have := hQ p hp; omega, by rw [decide_eq_true_eq]; exact ⟨p, hp, rfl, by rw [he]; exact h2⟩⟩
  · rintro ⟨i, rfl, _, h⟩
    have h2 := of_decide_eq_true h
    obtain ⟨p, hp, he, hl⟩ := id h2
    refine ⟨(hd _).2 (fun e => ?_), h2⟩
    have : (p.1 : Int) ∈ fsQ Q (i : Int) := fsQ_mem.2 ⟨p, hp, he, rfl⟩
    rw [e] at this
    simp at this
theorem step_lookE {ops : Array Oper} {o : Oper} {a : Act} {Q : Exit → Act → World → Prop} {K : Act → World → Prop} {F : Prop} (w : World) (hgd : o.guard = none) (T : TypeId) (m x : Operand) (ho : o.op = Op.lookup T m x false) (b : Nat) (s : Int) (v : Value) (hm : a.eval m = .map (some b)) (hx : a.eval x = .int .i64 s) (hr : (Instr.lookup T (.map (some b)) (.int .i64 s) false).run Try.prog w = .ok v w) (h : K (a.put o.dst v) w) :
    if Region.wanted o (yielded ops a.tmps) = true then Oper.wp Try.prog o a w K Q else F := by
  have hw : Region.wanted o (yielded ops a.tmps) = true := by simp [Region.wanted, hgd]
  rw [if_pos hw]
  unfold Oper.wp
  simp [execOp, ho, hm, hx, hr, Result.andThen]
  exact h
theorem step_putE {ops : Array Oper} {o : Oper} {a : Act} {Q : Exit → Act → World → Prop} {K : Act → World → Prop} {F : Prop} (w w' : World) (hgd : o.guard = none) (T : TypeId) (m x y : Operand) (ho : o.op = Op.mapUpdate T m x y) (b : Nat) (s : Int) (v : Value) (hm : a.eval m = .map (some b)) (hx : a.eval x = .int .i64 s) (hy : a.eval y = v) (hr : (Instr.mapUpdate T (.map (some b)) (.int .i64 s) v).run Try.prog w = .ok () w') (h : K (a.put o.dst undef) w') :
    if Region.wanted o (yielded ops a.tmps) = true then Oper.wp Try.prog o a w K Q else F := by
  have hw : Region.wanted o (yielded ops a.tmps) = true := by simp [Region.wanted, hgd]
  rw [if_pos hw]
  unfold Oper.wp
  simp [execOp, ho, hm, hx, hy, hr, Result.andThen]
  exact h
end Go.Proofs.Ytooaoankloocmab
