/- The contract of impl.Edge. -/
import Derived.Test.YtooaoankloocmaaRmsI
import Derived.Test.YtooaoankloocmaaEdgP
import Derived.Test.YtooaoankloocmaaSrtI
namespace Go.Proofs.Ytooaoankloocmaa
open Go.ChangeShapes Go.WideShapes Go.ChangeAt Go.RowKit Go.Maps
theorem AhAt.putNil {lo n ga : Nat} {av : Nat → Value} {pre : Nat → List Int} {W : World} (h : AhAt lo n ga av pre W) {t : Nat} (ht : t < n) : AhAt lo n ga (fun u => if u = t then .slice none 0 0 else av u) (fun u => if u = t then [] else pre u) (W.setCell ⟨ga, t, none⟩ (.slice none 0 0)) := by
  obtain ⟨cur, r1, r2, r3⟩ := h.row
  have hb : But ga W (W.setCell ⟨ga, t, none⟩ (.slice none 0 0)) := (But.refl ga W).set _ _
  refine ⟨⟨cur.setIfInBounds t (.slice none 0 0), heap_setCell_same W ga t cur _ _ r1, by simpa using r2, fun u hu => ?_⟩, fun u hu => ?_, fun u s hu hs hus g hg => ?_⟩
  · rw [Array.getElem?_setIfInBounds]
    by_cases e : t = u
    · subst e
      rw [if_pos rfl, if_pos (by omega), if_pos rfl]
    · rw [if_neg e, if_neg (fun e2 => e e2.symm)]
      exact r3 u hu
  · by_cases e : u = t
    · subst e
      simp only [if_pos]
      exact Or.inl ⟨rfl, rfl⟩
    · simp only [if_neg e]
      refine (h.own u hu).keep (fun g hg2 hlt => hb.block g hlt (fun e2 => ?_))
      subst e2
      obtain ⟨_, _, c, hc⟩ := (h.own u hu).low g hg2
      rw [r1] at hc
      injection hc with hc
      injection hc with _ e2
      exact absurd e2 (by decide)
  · by_cases e1 : u = t
    · subst e1
      simp only [if_pos] at hg
      cases hg
    · simp only [if_neg e1] at hg
      by_cases e2 : s = t
      · subst e2
        rw [if_pos rfl]
        exact fun e => by cases e
      · rw [if_neg e2]
        exact h.dis u s hu hs hus g hg
/-- What the loops of Edge carry. -/
structure EiAt (w : World) (bv : Array Value) (lo1 n gm : Nat) (ms c : Nat → Nat) (ls : Nat → List Int) (ga : Nat) (av : Nat → Value) (f : Nat → List Int) (W : World) : Prop where
  ah : AhAt w.heap.size n ga av f W
  bh : BhAt lo1 n gm ms n c ls W
  box : W.heap[w.heap.size]? = some (.cells bv 31 (0, 0))
  bel : Below w.heap.size w W
section
variable {w W W' : World} {bv : Array Value} {lo1 n gm : Nat} {ms c : Nat → Nat} {ls : Nat → List Int} {ga : Nat} {av : Nat → Value} {f f' : Nat → List Int}
theorem EiAt.stays (h : EiAt w bv lo1 n gm ms c ls ga av f W) (b : Below W.heap.size W W') : EiAt w bv lo1 n gm ms c ls ga av f W' := ⟨h.ah.stays b, h.bh.stays b, (b.block _ (hltP h.box)).trans h.box, below_trans h.bel b⟩
/-- Something that is no cells and none of the sets is written. -/
theorem EiAt.other {b : Nat} {o : Obj} (h : EiAt w bv lo1 n gm ms c ls ga av f W) (hg : W.grownBy W' (some b)) (ho : W.heap[b]? = some o) (hc : ∀ c T q, o ≠ .cells c T q) (hm : ∀ i, i < n → ms i ≠ b) (hb : w.heap.size ≤ b) : EiAt w bv lo1 n gm ms c ls ga av f W' := by
  have kc : ∀ (g : Nat) c T q, W.heap[g]? = some (.cells c T q) → W'.heap[g]? = W.heap[g]? := fun g c T q hh => hg.block g (hltP hh) (fun e => by
    injection e with e
    subst e
    rw [hh] at ho
    injection ho with ho
    exact hc _ _ _ ho.symm)
  obtain ⟨cur, r1, r2⟩ := h.bh.row
  exact ⟨h.ah.keep (fun g c T hh _ => kc g c T _ hh), ⟨⟨cur, (kc gm _ _ _ r1).trans r1, r2⟩, fun i hi => ⟨(h.bh.set i hi).1.blk (hg.block _ (h.bh.set i hi).1.lt (fun e => by injection e with e; exact hm i hi e)), (h.bh.set i hi).2⟩, h.bh.dis⟩, (kc _ _ _ _ h.box).trans h.box, h.bel.grown hg h.bel.size (fun b' hb' => by injection hb' with e; omega)⟩
theorem EiAt.sets (h : EiAt w bv lo1 n gm ms c ls ga av f W) : ∀ i, i < n → ms i < W.heap.size := fun i hi => (h.bh.set i hi).1.lt
/-- A cell of the row is written. -/
theorem EiAt.putA {av' : Nat → Value} {v : Value} {t : Nat} (h : EiAt w bv lo1 n gm ms c ls ga av f W) (hga : w.heap.size < ga) (ha : AhAt w.heap.size n ga av' f' (W.setCell ⟨ga, t, none⟩ v)) : EiAt w bv lo1 n gm ms c ls ga av' f' (W.setCell ⟨ga, t, none⟩ v) := by
  have hb : But ga W (W.setCell ⟨ga, t, none⟩ v) := (But.refl ga W).set _ _
  obtain ⟨cur, r1, _⟩ := h.ah.row
  refine ⟨ha, h.bh.other hb.grow (fun g e => ?_), hb.keepB h.box (by omega), h.bel.trans (hb.below (Nat.le_of_lt hga) h.bel.size)⟩
  injection e with e
  subst e
  exact ⟨cur, _, r1, by decide⟩
theorem EiAt.congr (h : EiAt w bv lo1 n gm ms c ls ga av f W) (e : ∀ t, t < n → f t = f' t) : EiAt w bv lo1 n gm ms c ls ga av f' W := ⟨h.ah.congr e, h.bh, h.box, h.bel⟩
end
/-- What the set holds: of the blocks that have come, and of r steps of the one at hand. -/
def EdM (xs : List Blk) (j : Int) (dn nx : List Int) (r : Nat) (y : Int) : Prop := ((∃ k ∈ dn, y ∈ nxt xs k) ∨ y ∈ nx.take r) ∧ (¬ RulMd xs j y ∨ y = j)
section
variable {xs : List Blk} {j : Int} {dn nx nx' es : List Int} {r : Nat}
theorem edM_enter (h : ∀ y, y ∈ es ↔ EdM xs j dn nx 0 y) : ∀ y, y ∈ es ↔ EdM xs j dn nx' 0 y := fun y => by rw [h]; unfold EdM; simp
theorem edM_out {k : Int} (e : nxt xs k = nx) (h : ∀ y, y ∈ es ↔ EdM xs j dn nx nx.length y) : ∀ y, y ∈ es ↔ EdM xs j (dn ++ [k]) nx' 0 y := fun y => by
  rw [h]
  unfold EdM
  rw [List.take_length]
  refine and_congr_left (fun _ => ?_)
  constructor
  · rintro (⟨q, hq, hy⟩ | hy)
    · exact Or.inl ⟨q, List.mem_append_left _ hq, hy⟩
    · exact Or.inl ⟨k, by simp, e ▸ hy⟩
  · rintro (⟨q, hq, hy⟩ | hy)
    · rcases List.mem_append.1 hq with hq | hq
      · exact Or.inl ⟨q, hq, hy⟩
      · rw [List.mem_singleton.1 hq] at hy
        exact Or.inr (e ▸ hy)
    · simp at hy
theorem edM_skip {t : Int} (hr : r < nx.length) (ht : nx[r] = t) (hc : ¬ (¬ RulMd xs j t ∨ t = j)) (h : ∀ y, y ∈ es ↔ EdM xs j dn nx r y) : ∀ y, y ∈ es ↔ EdM xs j dn nx (r + 1) y := fun y => by
  rw [h]
  unfold EdM
  rw [List.take_succ_eq_append_getElem hr, ht]
  constructor
  · rintro ⟨h1 | h1, h2⟩
    · exact ⟨Or.inl h1, h2⟩
    · exact ⟨Or.inr (List.mem_append_left _ h1), h2⟩
  · rintro ⟨h1 | h1, h2⟩
    · exact ⟨Or.inl h1, h2⟩
    · rcases List.mem_append.1 h1 with h1 | h1
      · exact ⟨Or.inr h1, h2⟩
      · rw [List.mem_singleton.1 h1] at h2
        exact absurd h2 hc
theorem edM_add {t : Int} (hr : r < nx.length) (ht : nx[r] = t) (hc : ¬ RulMd xs j t ∨ t = j) (h : ∀ y, y ∈ es ↔ EdM xs j dn nx r y) : ∀ y, y ∈ es ++ [t] ↔ EdM xs j dn nx (r + 1) y := fun y => by
  rw [List.mem_append, h, List.mem_singleton]
  unfold EdM
  rw [List.take_succ_eq_append_getElem hr, ht, List.mem_append, List.mem_singleton]
  constructor
  · rintro (⟨h1 | h1, h2⟩ | rfl)
    · exact ⟨Or.inl h1, h2⟩
    · exact ⟨Or.inr (Or.inl h1), h2⟩
    · exact ⟨Or.inr (Or.inr rfl), hc⟩
  · rintro ⟨h1 | h1 | rfl, h2⟩
    · exact Or.inl ⟨Or.inl h1, h2⟩
    · exact Or.inl ⟨Or.inr h1, h2⟩
    · exact Or.inr rfl
theorem edM_done (hx : AllIn xs) (h0 : 0 < xs.length) {l : List Int} (hl : ∀ y, y ∈ l ↔ RulMd xs j y) (hd : ∀ q, q ∈ dn ↔ q ∈ l) (h : ∀ y, y ∈ es ↔ EdM xs j dn nx 0 y) : ∀ y, y ∈ es ↔ Edg xs j y := fun y => by
  rw [h]
  unfold EdM Edg EdC
  constructor
  · rintro ⟨⟨k, hk, hy⟩ | hy, h2⟩
    · have hr := (hl k).1 ((hd k).1 hk)
      obtain ⟨a, b⟩ := rulMd_in hx h0 hr
      have e : ((k.toNat : Nat) : Int) = k := by omega
      exact ⟨k.toNat, by omega, by rw [e]; exact (rul_iff hx _ _).2 hr, by rw [e]; exact hy, h2.elim (fun h3 => Or.inl (fun h4 => h3 ((rul_iff hx _ _).1 h4))) Or.inr⟩
    · simp at hy
  · rintro ⟨k, _, hr, hy, h2⟩
    exact ⟨Or.inl ⟨(k : Int), (hd _).2 ((hl _).2 ((rul_iff hx _ _).1 hr)), hy⟩, h2.elim (fun h3 => Or.inl (fun h4 => h3 ((rul_iff hx _ _).2 h4))) Or.inr⟩
end
end Go.Proofs.Ytooaoankloocmaa
