/- Chapter 10, plain: whether one comes back to a block by steps of which none goes back. -/
import Derived.Test.YtooaoankloocmabOrdPA
import Derived.Test.YtooaoankloocmabBksP
import Derived.Test.YtooaoankloocmabAheadP
namespace Go.Proofs.Ytooaoankloocmab
open Go.ChangeShapes Go.WideShapes Go.ChangeAt Go.RowKit
/-- Where one goes from block t, but not back. -/
noncomputable def nD (xs : List Blk) (t : Nat) : List Int := (nxt xs (t : Int)).filter (fun z => !rulB xs z (t : Int))
theorem nD_mem {xs : List Blk} {t : Nat} (z : Int) : z ∈ nD xs t ↔ z ∈ nxt xs (t : Int) ∧ rulB xs z (t : Int) = false := by
  unfold nD
  rw [List.mem_filter]
  simp
theorem nD_in {xs : List Blk} (hx : AllIn xs) {t : Nat} : ∀ z ∈ nD xs t, InR xs.length z := fun z hz => nxt_in hx _ z ((nD_mem z).1 hz).1
def Rnd (xs : List Blk) (a y : Int) : Prop := Way (nD xs) (nD xs a.toNat) (-1) y
open Classical in
noncomputable def rndB (xs : List Blk) (a : Int) : Bool := decide (Rnd xs a a)
/-- None of these blocks is come back to. -/
noncomputable def plainP (g : Gr) : Bool := grOk g && (blocksP g).all (fun a => !rndB g.blocks a)
/-- What is known between two rounds: dn was gone on from, todo waits, met is marked. -/
structure RdB (xs : List Blk) (a : Int) (dn todo met : List Int) : Prop where
  eq : dn ++ todo = a :: met
  sound : ∀ y ∈ met, Rnd xs a y
  closed : ∀ y ∈ dn, ∀ z ∈ nD xs y.toNat, z ∈ met
  few : Few xs.length met
structure RdV (xs : List Blk) (a : Int) (dn : List Int) (c : Int) (todo met nx : List Int) (k : Nat) : Prop where
  eq : dn ++ [c] ++ todo = a :: met
  sound : ∀ y ∈ met, Rnd xs a y
  closed : ∀ y ∈ dn, ∀ z ∈ nD xs y.toNat, z ∈ met
  some : ∀ z ∈ nx.take k, rulB xs z c = false → z ∈ met
  few : Few xs.length met
section
variable {xs : List Blk} {a c : Int} {dn todo met nx : List Int} {k : Nat}
theorem rdB_start : RdB xs a [] [a] [] := ⟨rfl, fun y hy => by simp at hy, fun y hy => by simp at hy, few_nil _⟩
theorem RdB.enter (h : RdB xs a dn (c :: todo) met) : RdV xs a dn c todo met nx 0 := ⟨by rw [← h.eq]; simp, h.sound, h.closed, by simp, h.few⟩
theorem RdV.there {z : Int} (h : RdV xs a dn c todo met nx k) (hk : k < nx.length) (hz : nx[k] = z) (hm : rulB xs z c = true ∨ z ∈ met) : RdV xs a dn c todo met nx (k + 1) :=
  ⟨h.eq, h.sound, h.closed, fun y hy hr => by
    rw [List.take_succ_eq_append_getElem hk, hz] at hy
    rcases List.mem_append.1 hy with hy | hy
    · exact h.some y hy hr
    · rw [List.mem_singleton.1 hy] at hr ⊢
      exact hm.elim (fun e => by rw [e] at hr; cases hr) id, h.few⟩
theorem RdV.new {z : Int} (hx : AllIn xs) (h : RdV xs a dn c todo met nx k) (hk : k < nx.length) (hz : nx[k] = z) (hr : rulB xs z c = false) (hm : ¬ z ∈ met) (hc : 0 ≤ c) (hn : nxt xs c = nx) : RdV xs a dn c (todo ++ [z]) (met ++ [z]) nx (k + 1) := by
  have hzn : z ∈ nxt xs c := by rw [hn, ← hz]; exact List.getElem_mem hk
  have hin := nxt_in hx _ _ hzn
  have hzd : z ∈ nD xs c.toNat := (nD_mem z).2 (by rw [show ((c.toNat : Nat) : Int) = c by omega]; exact ⟨hzn, hr⟩)
  have hR : Rnd xs a z := by
    have hca : c ∈ a :: met := by rw [← h.eq]; simp
    rcases List.mem_cons.1 hca with e | e
    · exact Way.zero (by rw [← e]; exact hzd) (by have := hin.1; omega)
    · exact Way.step (h.sound c e) hzd (by have := hin.1; omega)
  refine ⟨by rw [← List.append_assoc, h.eq]; simp, fun y hy => ?_, fun y hy w hw => List.mem_append_left _ (h.closed y hy w hw), fun y hy hr2 => ?_, h.few.step hm hin⟩
  · rcases List.mem_append.1 hy with hy | hy
    · exact h.sound y hy
    · rw [List.mem_singleton.1 hy]; exact hR
  · rw [List.take_succ_eq_append_getElem hk, hz] at hy
    rcases List.mem_append.1 hy with hy | hy
    · exact List.mem_append_left _ (h.some y hy hr2)
    · rw [List.mem_singleton.1 hy]; simp
theorem RdV.out (h : RdV xs a dn c todo met nx nx.length) (hc : 0 ≤ c) (hn : nxt xs c = nx) : RdB xs a (dn ++ [c]) todo met :=
  ⟨h.eq, h.sound, fun y hy => by
    rcases List.mem_append.1 hy with hy | hy
    · exact h.closed y hy
    · rw [List.mem_singleton.1 hy]
      intro z hz
      have := (nD_mem z).1 hz
      rw [show ((c.toNat : Nat) : Int) = c by omega] at this
      exact h.some z (by rw [List.take_length, ← hn]; exact this.1) this.2, h.few⟩
theorem RdB.done (h : RdB xs a dn [] met) (y : Int) : y ∈ met ↔ Rnd xs a y := by
  have e := h.eq
  rw [List.append_nil] at e
  refine ⟨h.sound y, fun hy => ?_⟩
  unfold Rnd at hy
  induction hy with
  | zero hz _ => exact h.closed a (by rw [e]; simp) _ hz
  | @step b z hb hz _ ih => exact h.closed b (by rw [e]; exact List.mem_cons_of_mem _ ih) _ hz
theorem RdB.short (h : RdB xs a dn todo met) : dn.length + todo.length ≤ xs.length + 1 := by
  have h1 := congrArg List.length h.eq
  have h2 := h.few
  unfold Few at h2
  rw [List.length_append, List.length_cons] at h1
  omega
theorem RdV.short (h : RdV xs a dn c todo met nx k) : dn.length + 1 + todo.length ≤ xs.length + 1 := by
  have h1 := congrArg List.length h.eq
  have h2 := h.few
  unfold Few at h2
  simp only [List.length_append, List.length_cons, List.length_nil] at h1
  omega
theorem RdB.inR (hx : AllIn xs) (ha : InR xs.length a) (h : RdB xs a dn (c :: todo) met) : InR xs.length c := by
  have hca : c ∈ a :: met := by rw [← h.eq]; simp
  rcases List.mem_cons.1 hca with e | e
  · rw [e]; exact ha
  · have := h.sound c e
    unfold Rnd at this
    cases this with
    | zero hz _ => exact nD_in hx _ hz
    | step _ hz _ => exact nD_in hx _ hz
end
end Go.Proofs.Ytooaoankloocmab
