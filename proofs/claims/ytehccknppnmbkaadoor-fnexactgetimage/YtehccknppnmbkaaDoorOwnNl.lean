/- Lists that a call owns and that may be nil: append of one in a drawn region; as the lists of an image. -/
import Derived.Test.YtehccknppnmbkaaDoorWrG
namespace Go.Proofs.YtehccknppnmbkaaDoor
open Go.ChangeShapes Go.WideShapes Go.ChangeAt Go.RowKit
def IntE : Elem Int := { T := 3, ST := 22, sz := 1, bys := 8, z := .int .i64 0, cs := fun x => [.int .i64 x] }
theorem IntOk : IntE.Ok where
  und := Tryd.underlying22
  info := by kernel_rfl
  zs := rfl
  pos := by decide
  few := by decide
  len := fun _ => rfl
  one := fun x u hu => by simp [IntE] at hu; subst hu; rfl
section
variable {α : Type} {E : Elem α}
/-- nil, or a slice in a block of its own from B on. -/
def OwnN (E : Elem α) (w : World) (B : Nat) (v : Value) (l : List α) : Prop := w.ownsRow B E.T E.sz v l.length (l.flatMap E.cs)
theorem OwnN.nil {w : World} {B : Nat} : OwnN E w B (.slice none 0 0) [] := ⟨by simp, Or.inl ⟨rfl, rfl⟩⟩
theorem OwnN.keep {w w' : World} {B : Nat} {v : Value} {l : List α} (h : OwnN E w B v l) (k : ∀ g, B ≤ g → g < w.heap.size → w'.heap[g]? = w.heap[g]?) : OwnN E w' B v l := by
  obtain ⟨hl, h0 | ⟨g, cap, cur, hv, hB, hh, hr⟩⟩ := h
  · exact ⟨hl, Or.inl h0⟩
  · exact ⟨hl, Or.inr ⟨g, cap, cur, hv, hB, (k g hB (Array.getElem?_eq_some_iff.1 hh).1).trans hh, hr⟩⟩
theorem OwnN.own {w : World} {B : Nat} {v : Value} {l : List α} (h : OwnN E w B v l) (hne : l ≠ []) : OwnE E w B v l := by
  obtain ⟨_, ⟨_, h0⟩ | ⟨g, cap, cur, hv, _⟩⟩ := id h
  · exact absurd (List.eq_nil_of_length_eq_zero h0) hne
  · exact ⟨g, cap, hv, h⟩
theorem OwnN.shape {w : World} {B : Nat} {v : Value} {l : List α} (h : OwnN E w B v l) : ∃ a n c, v = .slice a n c := by
  obtain ⟨_, ⟨h0, _⟩ | ⟨g, cap, _, hv, _⟩⟩ := h
  · exact ⟨_, _, _, h0⟩
  · exact ⟨_, _, _, hv⟩
theorem OwnN.low {w : World} {B : Nat} {v : Value} {l : List α} (h : OwnN E w B v l) : ∀ b, v.ownBlock = some b → B ≤ b ∧ b < w.heap.size := fun b hb => World.ownsRow.lt h b hb
theorem run_appN (O : E.Ok) {w : World} {B : Nat} {v1 : Value} {l1 : List α} {x : α} {b o2 cap2 : Nat} (ty : TypeId) (h1 : OwnN E w B v1 l1) (h2 : ∀ r, r < E.sz → w.cell? ⟨b, o2 + r, none⟩ = (E.cs x)[r]?) (hn : l1.length + 1 ≤ 8000000) (hB : B ≤ w.heap.size) :
    ∃ v' w', (Builtin.append_ #[E.ST, E.ST] ty #[v1, .slice (some ⟨b, o2, none⟩) 1 cap2]).run Tryd.prog w = .ok v' w' ∧ OwnN E w' B v' (l1 ++ [x]) ∧ w.grownBy w' v1.ownBlock := by
  obtain ⟨i0, hi, hz0, hz1, hz2⟩ := info_parts O.info
  have hbn : (l1.length + 1) * E.bys ≤ 8000000 * 1000 := Nat.mul_le_mul hn O.few
  obtain ⟨v', w', hr, ho, hg, _, _⟩ := run_append_own_at (P := Tryd.prog) w B E.ST ty E.T i0 E.z E.sz E.bys O.und hi hz0 hz1 hz2 O.zs O.pos v1 l1.length (l1.flatMap E.cs) h1 ⟨b, o2, none⟩ 1 cap2 (E.cs x) (by rw [O.len, Nat.one_mul]) (fun j u hj => by
      have hlt : j < E.sz := by have := (List.getElem?_eq_some_iff.1 hj).1; rwa [O.len] at this
      rw [addr_add']
      exact (h2 j hlt).trans hj) (fun u hu => O.one x u hu) (by unfold maxLen; omega) (by omega) hB
  refine ⟨v', w', hr, ?_, hg⟩
  unfold OwnN
  rw [List.length_append, List.flatMap_append]
  simpa using ho
/-- append of one to such a list, in a region that draws its order. -/
theorem step_appN (O : E.Ok) {ops : Array Oper} {o : Oper} {a : Act} {Q : Exit → Act → World → Prop} {K : Act → World → Prop} {F : Prop} (w : World) (hgd : o.guard = none) (s y : Operand) (ho : o.op = .call { callee := .builtin .append, args := #[s, y], argTypes := #[E.ST, E.ST] })
    (B : Nat) (v1 : Value) (l1 : List α) (x : α) (b o2 cap2 : Nat) (hs : a.eval s = v1) (hx : a.eval y = .slice (some ⟨b, o2, none⟩) 1 cap2) (h1 : OwnN E w B v1 l1) (h2 : ∀ r, r < E.sz → w.cell? ⟨b, o2 + r, none⟩ = (E.cs x)[r]?) (hn : l1.length + 1 ≤ 8000000) (hB : B ≤ w.heap.size)
    (h : ∀ v' w', OwnN E w' B v' (l1 ++ [x]) → w.grownBy w' v1.ownBlock → K (a.put o.dst v') w') :
    if Region.wanted o (yielded ops a.tmps) = true then Oper.wp Tryd.prog o a w K Q else F := by
  have hw : Region.wanted o (yielded ops a.tmps) = true := by simp [Region.wanted, hgd]
  rw [if_pos hw]
  obtain ⟨v', w', hr, r1, r2⟩ := run_appN O (cap2 := cap2) o.type h1 h2 hn hB
  unfold Oper.wp execOp
  simp only [ho, resolve, invoke, builtin, Sem.run_bind, Sem.run_pure, Result.andThen_ok, List.map_toArray, List.map_cons, List.map_nil, hs, hx, hr]
  exact h v' w' r1 r2
end
theorem intE_flat (l : List Int) : l.flatMap IntE.cs = l.map (Value.int .i64) := by
  induction l with
  | nil => rfl
  | cons x r ih => rw [List.flatMap_cons, ih]; rfl
theorem OwnN.ownI {w : World} {B : Nat} {v : Value} {l : List Int} (h : OwnN IntE w B v l) (hne : l ≠ []) : OwnI w B v l := by
  obtain ⟨g, cap, hv, ho⟩ := h.own hne
  refine ⟨g, cap, hv, ?_⟩
  rw [intE_flat] at ho
  exact ho
theorem OwnN.ints {w : World} {B : Nat} {v : Value} {l : List Int} (h : OwnN IntE w B v l) : ∃ u c, v = .slice u l.length c ∧ IntsIs w B u l := by
  cases l with
  | nil =>
    obtain ⟨_, ⟨hv, _⟩ | ⟨g, cap, cur, hv, hB, hh, hc, hm, hs, ht⟩⟩ := h
    · exact ⟨_, _, hv, Nat.zero_le _, Or.inl rfl⟩
    · exact ⟨_, _, hv, Nat.zero_le _, Or.inl rfl⟩
  | cons x r =>
    obtain ⟨g, cap, hv, _⟩ := id (h.ownI (by simp))
    refine ⟨_, _, hv, ?_⟩
    have := h.ownI (by simp)
    rw [hv] at this
    exact this.is.2
theorem OwnN.wrds {w : World} {B : Nat} {v : Value} {l : List Wrd} (h : OwnN WrE w B v l) (hwf : ∀ x ∈ l, x.wf) : ∃ u c, v = .slice u l.length c ∧ SlIs WrdIs 5 w B u l := by
  cases l with
  | nil =>
    obtain ⟨_, ⟨hv, _⟩ | ⟨g, cap, cur, hv, hB, hh, hc, hm, hs, ht⟩⟩ := h
    · exact ⟨_, _, hv, Nat.zero_le _, fun _ => #[], Or.inl rfl, fun i hi => absurd hi (Nat.not_lt_zero _)⟩
    · exact ⟨_, _, hv, Nat.zero_le _, fun _ => #[], Or.inl rfl, fun i hi => absurd hi (Nat.not_lt_zero _)⟩
  | cons x r =>
    obtain ⟨g, cap, hv, _⟩ := id (h.own (by simp))
    refine ⟨_, _, hv, ?_⟩
    have := h.own (by simp)
    rw [hv] at this
    exact wrd_slis this hwf
end Go.Proofs.YtehccknppnmbkaaDoor
