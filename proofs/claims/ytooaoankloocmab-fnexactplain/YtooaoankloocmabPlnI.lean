/- The contract of impl.Plain. -/
import Derived.Test.YtooaoankloocmabDfI
import Derived.Test.YtooaoankloocmabBksI
import Derived.Test.YtooaoankloocmabCtA
import Derived.Test.YtooaoankloocmabRndP
import Derived.Test.YtooaoankloocmabLopP
import Derived.Test.YtooaoankloocmabBlocksK
import Derived.Test.YtooaoankloocmabRmdP
namespace Go.Proofs.Ytooaoankloocmab
open Go.ChangeShapes Go.WideShapes Go.ChangeAt Go.RowKit Go.Maps
/-- The ways of block t without those of the first pairs. -/
def cutN (xs : List Blk) (L : List (Nat × Nat)) (t : Nat) : List Int := (preN xs t).filter (fun z => !decide ((t, z.toNat) ∈ L))
theorem cutN_nil (xs : List Blk) (t : Nat) : cutN xs [] t = preN xs t := by unfold cutN; exact List.filter_eq_self.2 (fun z _ => by simp)
theorem cutN_other {xs : List Blk} {L : List (Nat × Nat)} {p : Nat × Nat} {t : Nat} (h : t ≠ p.1) : cutN xs (L ++ [p]) t = cutN xs L t := by
  unfold cutN
  refine List.filter_congr (fun z _ => ?_)
  have e : (t, z.toNat) ∈ L ++ [p] ↔ (t, z.toNat) ∈ L := by
    rw [List.mem_append, List.mem_singleton]
    refine ⟨fun h2 => h2.elim id (fun e => absurd (by rw [← e]) h), Or.inl⟩
  simp only [e]
theorem cutN_same {xs : List Blk} (hx : AllIn xs) {L : List (Nat × Nat)} {p : Nat × Nat} : cutN xs (L ++ [p]) p.1 = (cutN xs L p.1).filter (fun z => !decide (z = (p.2 : Int))) := by
  unfold cutN
  rw [List.filter_filter]
  refine List.filter_congr (fun z hz => ?_)
  have h0 := (nxt_in hx _ z hz).1
  obtain ⟨a, b⟩ := p
  have e : (a, z.toNat) ∈ L ++ [(a, b)] ↔ z = (b : Int) ∨ (a, z.toNat) ∈ L := by
    rw [List.mem_append, List.mem_singleton]
    constructor
    · rintro (h | h)
      · exact Or.inr h
      · injection h with _ h
        exact Or.inl (by omega)
    · rintro (h | h)
      · exact Or.inr (by rw [h]; simp)
      · exact Or.inl h
  simp only [e]
  by_cases c : z = (b : Int) <;> simp [c]
theorem cutN_end {g : Gr} (hok : grOk g = true) {t : Nat} (ht : t < g.blocks.length) : cutN g.blocks (backsP g) t = nD g.blocks t := by
  unfold cutN nD
  refine List.filter_congr (fun z hz => ?_)
  have hx := allIn_of hok
  have h0 := (nxt_in hx _ z hz).1
  have e : (t, z.toNat) ∈ backsP g ↔ rulB g.blocks z (t : Int) = true := by
    unfold backsP
    rw [if_pos hok, backsUp_mem, show (((t, z.toNat) : Nat × Nat).2 : Int) = z by show ((z.toNat : Nat) : Int) = z; omega, bkTo_mem hx]
    exact ⟨fun h => h.2.2, fun h => ⟨ht, hz, h⟩⟩
  cases h : rulB g.blocks z (t : Int) with
  | true => simp [e.2 h]
  | false =>
    have : ¬ (t, z.toNat) ∈ backsP g := fun h2 => by rw [e.1 h2] at h; cases h
    simp [this]
theorem blocks_inP {g : Gr} (hok : grOk g = true) : ∀ x ∈ blocksP g, ∃ t : Nat, x = (t : Int) ∧ t < g.blocks.length := fun x hx => by
  have hr : Reach g.blocks x := by
    unfold blocksP at hx
    rw [addAll_mem] at hx
    exact (order_mem hok x).1 hx
  obtain ⟨h1, h2⟩ := reach_in hok hr
  exact ⟨x.toNat, by omega, by omega⟩
/-- What the loops of Plain carry: the ways, as they are now, each list in a block of its own. -/
structure PnAt (w : World) (bv : Array Value) (lo n ga : Nat) (av : Nat → Value) (f : Nat → List Int) (W : World) : Prop where
  ah : AhAt lo n ga av f W
  own : ∀ t, t < n → OwnI W lo (av t) (f t)
  box : W.heap[w.heap.size]? = some (.cells bv 30 (0, 0))
  lo1 : w.heap.size < lo
  lo2 : lo ≤ ga
  bel : Below w.heap.size w W
section
variable {w W W' : World} {bv : Array Value} {lo n ga : Nat} {av : Nat → Value} {f f' : Nat → List Int}
theorem PnAt.stays (h : PnAt w bv lo n ga av f W) (b : Below W.heap.size W W') : PnAt w bv lo n ga av f W' := ⟨h.ah.stays b, fun t ht => (h.own t ht).stays b, (b.block _ (hltP h.box)).trans h.box, h.lo1, h.lo2, below_trans h.bel b⟩
theorem PnAt.congr (h : PnAt w bv lo n ga av f W) (e : ∀ t, t < n → f t = f' t) : PnAt w bv lo n ga av f' W := ⟨h.ah.congr e, fun t ht => by rw [← e t ht]; exact h.own t ht, h.box, h.lo1, h.lo2, h.bel⟩
/-- One list is cut in place. -/
theorem PnAt.cut {t : Nat} {v' : Value} {l : List Int} (h : PnAt w bv lo n ga av f W) (ht : t < n) {g : Nat} (hg : (av t).ownBlock = some g) (hb : But g W W') (ho : OwnI W' lo v' l) (hv : v'.ownBlock = some g) :
    PnAt w bv lo n ga (fun u => if u = t then v' else av u) (fun u => if u = t then l else f u) (W'.setCell ⟨ga, t, none⟩ v') := by
  have hgl := (h.own t ht).low g hg
  have hgr : W.grownBy W' (av t).ownBlock := by rw [hg]; exact hb.grow
  have A := h.ah.putL ht (Below.refl _ _) (W2 := W') ho hgr (Or.inl (by rw [hv, hg]))
  have hb2 : But ga W' (W'.setCell ⟨ga, t, none⟩ v') := (But.refl _ _).set _ _
  have h1 := h.lo1
  have h2 := h.lo2
  refine ⟨A, fun u hu => ?_, hb2.keepB (hb.keepB h.box (by omega)) (by omega), h.lo1, h.lo2, (h.bel.trans (hb.below (by omega) h.bel.size)).trans (hb2.below (by omega) (Nat.le_trans h.bel.size hb.size))⟩
  have ga1 : ∀ {v : Value} {k : List Int}, OwnI W' lo v k → v.ownBlock ≠ some ga := fun {v k} hk e => by
    obtain ⟨cur, r1, _⟩ := h.ah.row
    have hgn : g ≠ ga := fun e2 => by
      obtain ⟨_, _, c, hc⟩ := (h.ah.own t ht).low g hg
      rw [e2, r1] at hc
      injection hc with hc
      injection hc with _ e3
      exact absurd e3 (by decide)
    have r1' := hb.keepB r1 (fun e2 => hgn e2.symm)
    obtain ⟨g', cap', cur', hv', _, hh, _⟩ := hk.parts
    have e3 : g' = ga := by rw [hv'] at e; simpa [Value.ownBlock] using e
    rw [e3, r1'] at hh
    injection hh with hh
    injection hh with _ e4
    exact absurd e4 (by decide)
  by_cases e : u = t
  · subst e
    simp only [if_pos]
    exact ho.butG hb2 (ga1 ho)
  · simp only [if_neg e]
    have o1 := (h.own u hu).butG hb (fun e2 => h.ah.dis t u ht hu (fun e3 => e e3.symm) g hg e2)
    exact o1.butG hb2 (ga1 o1)
end
end Go.Proofs.Ytooaoankloocmab
