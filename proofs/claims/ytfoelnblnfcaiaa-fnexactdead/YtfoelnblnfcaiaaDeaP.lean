/- The words that one does not come to: plain. -/
import Derived.Test.YtfoelnblnfcaiaaAimQ
import Derived.Test.YtfoelnblnfcaiaaWyL
import Derived.Test.YtfoelnblnfcaiaaImgL
namespace Go.Proofs.Ytfoelnblnfcaiaa
open Go.ChangeShapes Go.WideShapes Go.ChangeAt Go.RowKit
/-- The words that one comes to from word i. -/
def nxX (i : Nat) (x : Wrd) : List Int := if x.op = 10 then [] else if x.op = 8 then [x.n] else if x.op = 9 then [x.n, (i : Int) + 1] else [(i : Int) + 1]
def nxW (code : List Wrd) (i : Nat) : List Int := match code[i]? with | some x => nxX i x | none => []
theorem nxW_at {code : List Wrd} {i : Nat} (h : i < code.length) : nxW code i = nxX i code[i] := by unfold nxW; rw [List.getElem?_eq_getElem h]
theorem nxX_len (i : Nat) (x : Wrd) : (nxX i x).length ≤ 2 := by 
  unfold nxX
  split
  · simp
  · split
    · simp
    · split <;> simp
theorem nxW_len (code : List Wrd) (i : Nat) : (nxW code i).length ≤ 2 := by
  unfold nxW
  split
  · exact nxX_len _ _
  · simp
theorem nxW_in {m : Img} (h : imgOk m = true) (i : Nat) (hi : i < m.code.length) : ∀ y ∈ nxW m.code i, InR m.code.length y := by
  unfold imgOk at h
  simp only [Bool.and_eq_true, List.all_eq_true] at h
  obtain ⟨⟨_, hall⟩, hlast⟩ := h
  have hw := hall _ (List.getElem_mem hi)
  rw [nxW_at hi]
  have hl : i + 1 < m.code.length ∨ (m.code[i].op = 10 ∨ m.code[i].op = 8) := by
    by_cases e : i + 1 < m.code.length
    · exact Or.inl e
    · right
      unfold lastOk at hlast
      rw [List.getLast?_eq_getElem?, show m.code.length - 1 = i by omega, List.getElem?_eq_getElem hi] at hlast
      simpa using hlast
  obtain ⟨x, hx⟩ : ∃ x, m.code[i] = x := ⟨_, rfl⟩
  rw [hx] at hw hl ⊢
  obtain ⟨op, r, a, b, n⟩ := x
  simp only at hl
  intro y hy
  unfold nxX at hy
  simp only at hy
  by_cases h10 : op = 10
  · rw [if_pos h10] at hy; simp at hy
  rw [if_neg h10] at hy
  by_cases h8 : op = 8
  · rw [if_pos h8] at hy
    subst h8
    rw [wrd_8] at hw
    simp only [Bool.and_eq_true, belI, decide_eq_true_eq] at hw
    rw [List.mem_singleton.1 hy]
    exact hw.2.2
  rw [if_neg h8] at hy
  have hl2 : i + 1 < m.code.length := hl.resolve_right (fun e => e.elim h10 h8)
  have hi1 : InR m.code.length ((i : Int) + 1) := ⟨by omega, by omega⟩
  by_cases h9 : op = 9
  · rw [if_pos h9] at hy
    subst h9
    rw [wrd_9] at hw
    simp only [Bool.and_eq_true, belI, decide_eq_true_eq] at hw
    rcases List.mem_cons.1 hy with e | e
    · rw [e]; exact hw.2.2
    · rw [List.mem_singleton.1 e]; exact hi1
  · rw [if_neg h9] at hy
    rw [List.mem_singleton.1 hy]; exact hi1
open Classical in
/-- Of the first j numbers those of which it does not hold, rising. -/
noncomputable def dnP (P : Int → Prop) : Nat → List Int
  | 0 => []
  | j + 1 => if P (j : Int) then dnP P j else dnP P j ++ [(j : Int)]
theorem dnP_yes {P : Int → Prop} {j : Nat} (h : P (j : Int)) : dnP P (j + 1) = dnP P j := if_pos h
theorem dnP_no {P : Int → Prop} {j : Nat} (h : ¬ P (j : Int)) : dnP P (j + 1) = dnP P j ++ [(j : Int)] := if_neg h
theorem dnP_len (P : Int → Prop) : ∀ j : Nat, (dnP P j).length ≤ j
  | 0 => by simp [dnP]
  | j + 1 => by
    have := dnP_len P j
    by_cases h : P (j : Int)
    · rw [dnP_yes h]; omega
    · rw [dnP_no h, List.length_append, List.length_singleton]; omega
noncomputable def deadP (m : Img) : List Int := if imgOk m = true then dnP (Way (nxW m.code) [0] (-1)) m.code.length else []
theorem deadP_len (m : Img) (h : m.code.length ≤ 3000000) : (deadP m).length ≤ 3000000 := by
  unfold deadP
  split
  · exact Nat.le_trans (dnP_len _ _) h
  · simp
/-- What is known between two rounds: dn was gone on from, todo waits. -/
structure BfsW (pre : Nat → List Int) (n : Nat) (dn todo : List Int) : Prop where
  zero : 0 ∈ dn ++ todo
  reach : ∀ y ∈ dn ++ todo, Way pre [0] (-1) y
  inr : ∀ y ∈ dn ++ todo, InR n y
  closed : ∀ y ∈ dn, ∀ z ∈ pre y.toNat, z ∈ dn ++ todo
  few : Few n (dn ++ todo)
theorem bfsW_start (pre : Nat → List Int) (n : Nat) (h : 1 ≤ n) : BfsW pre n [] [0] :=
  ⟨by simp, fun y hy => by simp at hy; subst hy; exact Way.zero (by simp) (by omega), fun y hy => by simp at hy; subst hy; exact ⟨by omega, by omega⟩, fun y hy => by simp at hy, (few_nil _).step (by simp) ⟨by omega, by omega⟩⟩
/-- Within a round: a was taken, k of those that it goes to were looked at. -/
structure BfsWI (pre : Nat → List Int) (n : Nat) (dn : List Int) (a : Int) (todo : List Int) (k : Nat) : Prop where
  zero : 0 ∈ dn ++ [a] ++ todo
  reach : ∀ y ∈ dn ++ [a] ++ todo, Way pre [0] (-1) y
  inr : ∀ y ∈ dn ++ [a] ++ todo, InR n y
  closed : ∀ y ∈ dn, ∀ z ∈ pre y.toNat, z ∈ dn ++ [a] ++ todo
  some : ∀ z ∈ (pre a.toNat).take k, z ∈ dn ++ [a] ++ todo
  few : Few n (dn ++ [a] ++ todo)
theorem BfsW.inn {pre : Nat → List Int} {n : Nat} {dn todo : List Int} {a : Int} (h : BfsW pre n dn (a :: todo)) : BfsWI pre n dn a todo 0 := by
  have e : dn ++ a :: todo = dn ++ [a] ++ todo := by simp
  obtain ⟨h1, h2, h3, h4, h5⟩ := h
  rw [e] at h1 h2 h3 h4 h5
  exact ⟨h1, h2, h3, h4, by simp, h5⟩
theorem BfsWI.there {pre : Nat → List Int} {n : Nat} {dn todo : List Int} {a : Int} {k : Nat} (h : BfsWI pre n dn a todo k) (hk : k < (pre a.toNat).length) (hm : (pre a.toNat)[k] ∈ dn ++ [a] ++ todo) : BfsWI pre n dn a todo (k + 1) :=
  ⟨h.zero, h.reach, h.inr, h.closed, fun z hz => by
    rw [List.take_succ_eq_append_getElem hk] at hz
    rcases List.mem_append.1 hz with hz | hz
    · exact h.some z hz
    · rw [List.mem_singleton.1 hz]; exact hm, h.few⟩
theorem BfsWI.new {pre : Nat → List Int} {n : Nat} {dn todo : List Int} {a : Int} {k : Nat} (h : BfsWI pre n dn a todo k) (hk : k < (pre a.toNat).length) (hm : ¬ (pre a.toNat)[k] ∈ dn ++ [a] ++ todo) (hr : InR n (pre a.toNat)[k]) : BfsWI pre n dn a (todo ++ [(pre a.toNat)[k]]) (k + 1) := by
  have up : ∀ z, z ∈ dn ++ [a] ++ todo → z ∈ dn ++ [a] ++ (todo ++ [(pre a.toNat)[k]]) := fun z hz => by
    rw [← List.append_assoc]; exact List.mem_append_left _ hz
  refine ⟨up _ h.zero, fun y hy => ?_, fun y hy => ?_, fun y hy z hz => up z (h.closed y hy z hz), fun z hz => ?_, ?_⟩
  · rw [← List.append_assoc] at hy
    rcases List.mem_append.1 hy with hy | hy
    · exact h.reach y hy
    · rw [List.mem_singleton.1 hy]
      exact Way.step (h.reach a (by simp)) (List.getElem_mem hk) (by have := hr.1; omega)
  · rw [← List.append_assoc] at hy
    rcases List.mem_append.1 hy with hy | hy
    · exact h.inr y hy
    · rw [List.mem_singleton.1 hy]; exact hr
  · rw [List.take_succ_eq_append_getElem hk] at hz
    rcases List.mem_append.1 hz with hz | hz
    · exact up z (h.some z hz)
    · rw [List.mem_singleton.1 hz]; simp
  · rw [← List.append_assoc]; exact h.few.step hm hr
theorem BfsWI.out {pre : Nat → List Int} {n : Nat} {dn todo : List Int} {a : Int} (h : BfsWI pre n dn a todo (pre a.toNat).length) : BfsW pre n (dn ++ [a]) todo :=
  ⟨h.zero, h.reach, h.inr, fun y hy => by
    rcases List.mem_append.1 hy with hy | hy
    · exact h.closed y hy
    · rw [List.mem_singleton.1 hy]
      have := h.some
      rw [List.take_length] at this
      exact this, h.few⟩
theorem BfsW.done {pre : Nat → List Int} {n : Nat} {dn : List Int} (h : BfsW pre n dn []) (y : Int) : y ∈ dn ↔ Way pre [0] (-1) y := by
  obtain ⟨h1, h2, _, h3, _⟩ := h
  simp only [List.append_nil] at h1 h2 h3
  refine ⟨h2 y, fun hy => ?_⟩
  induction hy with
  | zero h _ => rw [List.mem_singleton.1 h]; exact h1
  | step _ hb _ ih => exact h3 _ ih _ hb
end Go.Proofs.Ytfoelnblnfcaiaa
