/- Rows of lists of numbers, and of sets (written by wip/mkseth.py). -/
import Derived.Test.YtfoelnblnfcaiaaSetH
namespace Go.Proofs.Ytfoelnblnfcaiaa
open Go.ChangeShapes Go.WideShapes Go.ChangeAt Go.RowKit Go.Maps
def SetMade (w : World) (N : Nat) (P : Int → Prop) (e : Ending) (w' : World) : Prop := ∃ m n l, e = .returned (.map (some m)) ∧ w.heap.size ≤ m ∧ SetIs InK w' m n l ∧ n ≤ N ∧ (∀ s, s ∈ l ↔ P s) ∧ Below w.heap.size w w'
/-- A list of numbers that a call owns, or nil. -/
def NumN (w : World) (lo : Nat) (v : Value) (l : List Int) : Prop := (v = .slice none 0 0 ∧ l = []) ∨ OwnI w lo v l
theorem NumN.keep {w w' : World} {lo : Nat} {v : Value} {l : List Int} (h : NumN w lo v l) (hk : ∀ g, v.ownBlock = some g → g < w.heap.size → w'.heap[g]? = w.heap[g]?) : NumN w' lo v l := by
  rcases h with h | h
  · exact Or.inl h
  · right
    obtain ⟨g, cap, cur, rfl, hB, hh, hc, hm, hs, hx⟩ := h.parts
    exact OwnI.of_parts hB ((hk g rfl (hltP hh)).trans hh) hc hm hs hx
theorem NumN.low {w : World} {lo : Nat} {v : Value} {l : List Int} (h : NumN w lo v l) : ∀ b, v.ownBlock = some b → lo ≤ b ∧ b < w.heap.size ∧ ∃ cur, w.heap[b]? = some (.cells cur 3 (0, 0)) := fun b hb => by
  rcases h with ⟨rfl, _⟩ | h
  · cases hb
  · obtain ⟨g, cap, cur, rfl, hB, hh, _⟩ := h.parts
    have : g = b := by simpa [Value.ownBlock] using hb
    subst this
    exact ⟨hB, hltP hh, cur, hh⟩
theorem run_appN {w : World} {lo : Nat} {v : Value} {l : List Int} {x : Int} {b o cap2 : Nat} (ty : TypeId) (h1 : NumN w lo v l) (h2 : w.cell? ⟨b, o, none⟩ = some (.int .i64 x)) (hn : l.length + 1 ≤ 8000000) (hB : lo ≤ w.heap.size) :
    ∃ v' w', (Builtin.append_ #[22, 22] ty #[v, .slice (some ⟨b, o, none⟩) 1 cap2]).run Try.prog w = .ok v' w' ∧ OwnI w' lo v' (l ++ [x]) ∧ w.grownBy w' v.ownBlock ∧ (v'.ownBlock = v.ownBlock ∨ v'.ownBlock = some w.heap.size) := by
  rcases h1 with ⟨rfl, rfl⟩ | h1
  · obtain ⟨i0, hi, hz0, hz1, hz2⟩ := info_parts infoInt
    obtain ⟨v', w', hr, ho, hg, hnil, hloc⟩ := run_append_own_at (P := Try.prog) w lo 22 ty 3 i0 (.int .i64 0) 1 8 Try.underlying22 hi hz0 hz1 hz2 rfl (by omega) (.slice none 0 0) 0 [] (World.ownsRow_nil _ _ _ _) ⟨b, o, none⟩ 1 cap2 [.int .i64 x] rfl (fun j u hj => by
      have hj0 : j = 0 := by have := (List.getElem?_eq_some_iff.1 hj).1; simpa using this
      subst hj0
      simp at hj
      rw [addr_add', Nat.add_zero, h2, hj]) (fun u hu => by simp at hu; rw [hu]; rfl) (by unfold maxLen; omega) (by omega) hB
    refine ⟨v', w', hr, ?_, hg, hloc⟩
    obtain ⟨_, ⟨h0, _⟩ | ⟨g', cap', _, hv', _⟩⟩ := id ho
    · have := (hnil.1 h0).2; omega
    · exact ⟨g', cap', hv', by simpa using ho⟩
  · exact run_appI (l2 := [x]) ty h1 (fun j hj => by
      have hj0 : j = 0 := by simpa using hj
      subst hj0
      simpa using h2) (by simpa using hn) hB
theorem step_appN {ops : Array Oper} {o : Oper} {a : Act} {Q : Exit → Act → World → Prop} {K : Act → World → Prop} {F : Prop} (w : World) (hgd : o.guard = none) (s y : Operand) (ho : o.op = .call { callee := .builtin .append, args := #[s, y], argTypes := #[22, 22] })
    (lo : Nat) (v : Value) (l : List Int) (x : Int) (b o2 cap2 : Nat) (hs : a.eval s = v) (hx : a.eval y = .slice (some ⟨b, o2, none⟩) 1 cap2) (h1 : NumN w lo v l) (h2 : w.cell? ⟨b, o2, none⟩ = some (.int .i64 x)) (hn : l.length + 1 ≤ 8000000) (hB : lo ≤ w.heap.size)
    (h : ∀ v' w', OwnI w' lo v' (l ++ [x]) → w.grownBy w' v.ownBlock → (v'.ownBlock = v.ownBlock ∨ v'.ownBlock = some w.heap.size) → K (a.put o.dst v') w') :
    if Region.wanted o (yielded ops a.tmps) = true then Oper.wp Try.prog o a w K Q else F := by
  have hw : Region.wanted o (yielded ops a.tmps) = true := by simp [Region.wanted, hgd]
  rw [if_pos hw]
  obtain ⟨v', w', hr, r1, r2, r3⟩ := run_appN (cap2 := cap2) o.type h1 h2 hn hB
  unfold Oper.wp execOp
  simp only [ho, resolve, invoke, builtin, Sem.run_bind, Sem.run_pure, Result.andThen_ok, List.map_toArray, List.map_cons, List.map_nil, hs, hx, hr]
  exact h v' w' r1 r2 r3
/-- Row ga: for each block a list of numbers, each in a block of its own. -/
structure AhAt (lo n ga : Nat) (av : Nat → Value) (pre : Nat → List Int) (W : World) : Prop where
  row : ∃ cur, W.heap[ga]? = some (.cells cur 22 (0, 0)) ∧ cur.size = n ∧ ∀ t, t < n → cur[t]? = some (av t)
  own : ∀ t, t < n → NumN W lo (av t) (pre t)
  dis : ∀ t u, t < n → u < n → t ≠ u → ∀ g, (av t).ownBlock = some g → (av u).ownBlock ≠ some g
section
variable {lo n ga : Nat} {av : Nat → Value} {pre : Nat → List Int} {W W' : World}
theorem AhAt.keep (h : AhAt lo n ga av pre W) (hk : ∀ (g : Nat) c T, W.heap[g]? = some (.cells c T (0, 0)) → (T = 3 ∨ T = 22) → W'.heap[g]? = W.heap[g]?) : AhAt lo n ga av pre W' := by
  obtain ⟨cur, h1, h2⟩ := h.row
  refine ⟨⟨cur, (hk ga _ _ h1 (Or.inr rfl)).trans h1, h2⟩, fun t ht => (h.own t ht).keep (fun g hg _ => ?_), h.dis⟩
  obtain ⟨_, _, c, hc⟩ := (h.own t ht).low g hg
  exact hk g _ _ hc (Or.inl rfl)
theorem AhAt.stays (h : AhAt lo n ga av pre W) (b : Below W.heap.size W W') : AhAt lo n ga av pre W' := h.keep (fun g _ _ hg _ => b.block g (hltP hg))
theorem AhAt.other (h : AhAt lo n ga av pre W) {b : Nat} (hb : But b W W') (hne : ∀ c T, W.heap[b]? = some (.cells c T (0, 0)) → ¬ (T = 3 ∨ T = 22)) : AhAt lo n ga av pre W' := h.keep (fun g c T hg hT => hb.block g (hltP hg) (fun e => by subst e; exact hne c T hg hT))
theorem AhAt.at (h : AhAt lo n ga av pre W) {t : Nat} (ht : t < n) : W.cell? ⟨ga, t, none⟩ = some (av t) ∧ ∀ i, W.frozen? ⟨ga, i, none⟩ = false := by
  obtain ⟨cur, h1, _, h3⟩ := h.row
  exact ⟨by simp only [World.cell?, h1]; exact h3 t ht, (cells_of h1).2⟩
/-- One number more in list t. -/
theorem AhAt.app (h : AhAt lo n ga av pre W) {t : Nat} (ht : t < n) {W1 W2 : World} (b1 : Below W.heap.size W W1) {v' : Value} {x : Int} (ho : OwnI W2 lo v' (pre t ++ [x])) (hg : W1.grownBy W2 (av t).ownBlock) (hl : v'.ownBlock = (av t).ownBlock ∨ v'.ownBlock = some W1.heap.size) :
    AhAt lo n ga (fun u => if u = t then v' else av u) (fun u => if u = t then pre t ++ [x] else pre u) (W2.setCell ⟨ga, t, none⟩ v') := by
  have h1 := h.stays b1
  obtain ⟨cur, r1, r2, r3⟩ := h1.row
  have hga : (av t).ownBlock ≠ some ga := fun e => by
    obtain ⟨_, _, c, hc⟩ := (h1.own t ht).low ga e
    rw [r1] at hc
    injection hc with hc
    injection hc with _ e2
    exact absurd e2 (by decide)
  have r1' : W2.heap[ga]? = some (.cells cur 22 (0, 0)) := (hg.block _ (hltP r1) (fun e => hga e.symm)).trans r1
  have hb : But ga W2 (W2.setCell ⟨ga, t, none⟩ v') := (But.refl ga W2).set _ _
  have notga : ∀ g, v'.ownBlock = some g → g ≠ ga := fun g hg2 e => by
    subst e
    rcases hl with hl | hl
    · rw [hl] at hg2; exact hga hg2
    · rw [hl] at hg2
      have : W1.heap.size = g := by simpa using hg2
      have := hltP r1
      omega
  refine ⟨⟨cur.setIfInBounds t v', heap_setCell_same W2 ga t cur _ _ r1', by simpa using r2, fun u hu => ?_⟩, fun u hu => ?_, fun u s hu hs hus g hg1 => ?_⟩
  · rw [Array.getElem?_setIfInBounds]
    by_cases e : t = u
    · subst e
      rw [if_pos rfl, if_pos (by omega), if_pos rfl]
    · rw [if_neg e, if_neg (fun e2 => e e2.symm)]
      exact r3 u hu
  · by_cases e : u = t
    · subst e
      simp only [if_pos]
      exact NumN.keep (Or.inr ho) (fun g hg2 hlt => hb.block g hlt (notga g hg2))
    · simp only [if_neg e]
      refine (h1.own u hu).keep (fun g hg2 hlt => ?_)
      have hne : g ≠ ga := fun e2 => by
        subst e2
        obtain ⟨_, _, c, hc⟩ := (h1.own u hu).low g hg2
        rw [r1] at hc
        injection hc with hc
        injection hc with _ e2
        exact absurd e2 (by decide)
      have hnt : (av t).ownBlock ≠ some g := fun e2 => h.dis t u ht hu (fun e3 => e e3.symm) g e2 hg2
      exact (hb.block g (Nat.lt_of_lt_of_le hlt hg.size) hne).trans (hg.block g hlt (fun e2 => hnt e2.symm))
  · by_cases e1 : u = t
    · subst e1
      simp only [if_pos] at hg1
      rw [if_neg (fun e2 => hus e2.symm)]
      intro h2
      rcases hl with hl | hl
      · rw [hl] at hg1
        exact h.dis u s hu hs hus g hg1 h2
      · rw [hl] at hg1
        have e3 : W1.heap.size = g := by simpa using hg1
        have := ((h1.own s hs).low g h2).2.1
        omega
    · simp only [if_neg e1] at hg1
      by_cases e2 : s = t
      · subst e2
        rw [if_pos rfl]
        intro h2
        rcases hl with hl | hl
        · rw [hl] at h2
          exact h.dis s u hs hu (fun e3 => hus e3.symm) g h2 hg1
        · rw [hl] at h2
          have e3 : W1.heap.size = g := by simpa using h2
          have := ((h1.own u hu).low g hg1).2.1
          omega
      · rw [if_neg e2]
        exact h.dis u s hu hs hus g hg1
end
/-- Row gm: the first k cells name sets, each in a block of its own. -/
structure BhAt (lo n gm : Nat) (ms : Nat → Nat) (k : Nat) (c : Nat → Nat) (ls : Nat → List Int) (W : World) : Prop where
  row : ∃ cur, W.heap[gm]? = some (.cells cur 53 (0, 0)) ∧ cur.size = n ∧ (∀ i, i < k → cur[i]? = some (.map (some (ms i))))
  set : ∀ i, i < k → SetIs InK W (ms i) (c i) (ls i) ∧ lo ≤ ms i
  dis : ∀ i j, i < k → j < k → i ≠ j → ms i ≠ ms j
section
variable {lo n gm : Nat} {ms : Nat → Nat} {k : Nat} {c c' : Nat → Nat} {ls ls' : Nat → List Int} {W W' : World}
theorem SetIs.isMap {w : World} {b n : Nat} {l : List Int} (h : SetIs InK w b n l) : ∃ es clock, w.heap[b]? = some (.map es clock) := let ⟨_, _, _, _, ⟨es, clock, h1, _⟩, _⟩ := h; ⟨es, clock, h1⟩
theorem BhAt.keep (h : BhAt lo n gm ms k c ls W) (hm : ∀ (g : Nat) es cl, W.heap[g]? = some (.map es cl) → W'.heap[g]? = W.heap[g]?) (hc : ∀ (g : Nat) c, W.heap[g]? = some (.cells c 53 (0, 0)) → W'.heap[g]? = W.heap[g]?) : BhAt lo n gm ms k c ls W' := by
  obtain ⟨cur, h1, h2⟩ := h.row
  refine ⟨⟨cur, (hc gm _ h1).trans h1, h2⟩, fun i hi => ⟨?_, (h.set i hi).2⟩, h.dis⟩
  obtain ⟨es, cl, h3⟩ := (h.set i hi).1.isMap
  exact (h.set i hi).1.blk (hm _ _ _ h3)
theorem BhAt.stays (h : BhAt lo n gm ms k c ls W) (b : Below W.heap.size W W') : BhAt lo n gm ms k c ls W' := h.keep (fun g _ _ hg => b.block g (hltP hg)) (fun g _ hg => b.block g (hltP hg))
theorem BhAt.other (h : BhAt lo n gm ms k c ls W) {b : Option Nat} (hb : W.grownBy W' b) (hne : ∀ g, b = some g → ∃ c T, W.heap[g]? = some (.cells c T (0, 0)) ∧ T ≠ 53) : BhAt lo n gm ms k c ls W' := by
  refine h.keep (fun g _ _ hg => hb.block g (hltP hg) (fun e => ?_)) (fun g _ hg => hb.block g (hltP hg) (fun e => ?_))
  · obtain ⟨c, T, h1, _⟩ := hne g e.symm
    rw [hg] at h1; cases h1
  · obtain ⟨c, T, h1, h2⟩ := hne g e.symm
    rw [hg] at h1
    injection h1 with h1
    injection h1 with _ e2
    exact h2 e2.symm
theorem BhAt.at (h : BhAt lo n gm ms k c ls W) {i : Nat} (hi : i < k) : W.cell? ⟨gm, i, none⟩ = some (.map (some (ms i))) := by
  obtain ⟨cur, h1, _, h3⟩ := h.row
  simp only [World.cell?, h1]; exact h3 i hi
/-- One set is written. -/
theorem BhAt.put (h : BhAt lo n gm ms k c ls W) {i : Nat} (hi : i < k) (hb : But (ms i) W W') (hs : SetIs InK W' (ms i) (c' i) (ls' i)) (e : ∀ j, j ≠ i → c' j = c j ∧ ls' j = ls j) : BhAt lo n gm ms k c' ls' W' := by
  obtain ⟨cur, h1, h2⟩ := h.row
  have hne : gm ≠ ms i := fun e => by
    obtain ⟨es, cl, h3⟩ := (h.set i hi).1.isMap
    rw [← e, h1] at h3; cases h3
  refine ⟨⟨cur, (hb.block gm (hltP h1) hne).trans h1, h2⟩, fun j hj => ⟨?_, (h.set j hj).2⟩, h.dis⟩
  by_cases e1 : j = i
  · subst e1; exact hs
  · rw [(e j e1).1, (e j e1).2]
    exact (h.set j hj).1.blk (hb.block _ (h.set j hj).1.lt (h.dis j i hj hi e1))
/-- One set more. -/
theorem BhAt.more (h : BhAt lo n gm ms k c ls W) (hk : k < n) (hlo : lo ≤ W.heap.size) (hc : c k = 0) (hls : ls k = []) : BhAt lo n gm (fun i => if i = k then W.heap.size else ms i) (k + 1) c ls ((W.alloc (.map #[] 0)).setCell ⟨gm, k, none⟩ (.map (some W.heap.size))) := by
  have b1 : Below W.heap.size W (W.alloc (.map #[] 0)) := (Below.refl W.heap.size W).alloc (Nat.le_refl _) _
  have h1 := h.stays b1
  obtain ⟨cur, r1, r2, r3⟩ := h1.row
  obtain ⟨cur0, q1, _⟩ := h.row
  have hb : But gm (W.alloc (.map #[] 0)) ((W.alloc (.map #[] 0)).setCell ⟨gm, k, none⟩ (.map (some W.heap.size))) := (But.refl gm _).set _ _
  have hgm := hltP q1
  refine ⟨⟨cur.setIfInBounds k (.map (some W.heap.size)), heap_setCell_same _ gm k cur _ _ r1, by simpa using r2, fun i hi => ?_⟩, fun i hi => ?_, fun i j hi hj hij => ?_⟩
  · rw [Array.getElem?_setIfInBounds]
    by_cases e : k = i
    · subst e
      rw [if_pos rfl, if_pos (by omega), if_pos rfl]
    · rw [if_neg e, if_neg (fun e2 => e e2.symm)]
      exact r3 i (by omega)
  · by_cases e : i = k
    · subst e
      simp only [if_pos]
      refine ⟨?_, hlo⟩
      rw [hc, hls]
      exact (SetIs.made InK_ok W).blk (hb.block _ (by simp) (by omega))
    · simp only [if_neg e]
      obtain ⟨s1, s2⟩ := h1.set i (by omega)
      refine ⟨s1.blk (hb.block _ s1.lt (fun e2 => ?_)), s2⟩
      obtain ⟨es, cl, h3⟩ := s1.isMap
      rw [e2, r1] at h3; cases h3
  · have key : ∀ a, a < k → ms a ≠ W.heap.size := fun a ha => by have := (h.set a ha).1.lt; omega
    by_cases e1 : i = k
    · subst e1
      rw [if_pos rfl, if_neg (fun e2 => hij e2.symm)]
      exact fun e2 => key j (by omega) e2.symm
    · rw [if_neg e1]
      by_cases e2 : j = k
      · subst e2
        rw [if_pos rfl]
        exact key i (by omega)
      · rw [if_neg e2]
        exact h.dis i j (by omega) (by omega) hij
end
theorem newB9 (w : World) (o : Obj) : ∀ (b : Nat) (ob : Obj), w.heap[b]? = some ob → (w.alloc o).heap[b]? = some ob := fun b _ h => (((Below.refl w.heap.size w).alloc (Nat.le_refl _) o).block b (hltP h)).trans h
theorem made_one (z : Value) (n : Nat) : ∀ t, t < n → (madeCells #[z] n)[t]? = some z := fun t ht => by simp [madeCells, ht, Nat.mod_one]
theorem infoIS : (Try.prog.info? 22).map (fun i => (i.zero, i.size, i.bytes)) = some (some (.slice none 0 0), 1, 24) := by kernel_rfl
theorem infoSI : (Try.prog.info? 53).map (fun i => (i.zero, i.size, i.bytes)) = some (some (.map none), 1, 8) := by kernel_rfl
theorem make_ints (n : Nat) (hn : n ≤ 1000) (W : World) : (Instr.makeSlice 60 (.int .i64 (n : Int)) (.int .i64 (n : Int))).run Try.prog W = .ok (.slice (some ⟨W.heap.size, 0, none⟩) n n) (W.alloc (.cells (madeCells #[.slice none 0 0] n) 22)) := by
  have := make_n (P := Try.prog) Try.underlying60 infoIS n (by omega) (by omega) W
  rw [Nat.mul_one] at this
  exact this
end Go.Proofs.Ytfoelnblnfcaiaa
