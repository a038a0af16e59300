/- Alias and AliasText, as functions; the contracts of both sides. -/
import Derived.Test.YtgiboadcfnfooabAliP
import Derived.WalkKit
import Derived.BigQuiet
import Derived.Test.YtgiboadcfnfooabHasP
import Derived.Test.YtgiboadcfnfooabOwnG
import Derived.Test.YtgiboadcfnfooabOwnPl
namespace Go.Proofs.Ytgiboadcfnfooab
open Go.ChangeShapes Go.WideShapes Go.ChangeAt Go.RowKit
def plV (p : Pla) : Array Value := #[.int .i64 p.r, .int .i64 p.i, .int .i64 p.j, .int .i64 p.off]
def aliasP (a b : Pla) : Int := if a.r = b.r then (if a.i = b.i ∧ a.j = b.j then (if a.off = b.off then 2 else 0) else 1) else 0
set_option maxHeartbeats 1000000 in
theorem implAlias_any (a b : Pla) (w : World) :
    Calls Try.prog 41 #[.agg (plV a), .agg (plV b)] w fun e w' => e = .returned (.int .i64 (aliasP a b)) ∧ Below w.heap.size w w' := by
  obtain ⟨r, i, j, o⟩ := a
  obtain ⟨r', i', j', o'⟩ := b
  simp only [plV]
  go_enter Try.func41, Try.ntmps41
  go_wp2
  all_goals go_ret
  all_goals refine ⟨ret_int ?_, by first | exact below2 w _ _ | exact (below2 w _ _).drew⟩
  all_goals simp_all [aliasP]
set_option maxHeartbeats 1000000 in
theorem specAlias_any (a b : Pla) (w : World) :
    Calls Try.prog 38 #[.agg (plV a), .agg (plV b)] w fun e w' => e = .returned (.int .i64 (aliasP a b)) ∧ Below w.heap.size w w' := by
  obtain ⟨r, i, j, o⟩ := a
  obtain ⟨r', i', j', o'⟩ := b
  simp only [plV]
  go_enter Try.func38, Try.ntmps38
  go_wp2
  all_goals go_ret
  all_goals refine ⟨ret_int ?_, by first | exact below2 w _ _ | exact (below2 w _ _).drew⟩
  all_goals simp_all [aliasP]
end Go.Proofs.Ytgiboadcfnfooab

/- Which steps clash, as a function: the pairs in order. -/
namespace Go.Proofs.Ytgiboadcfnfooab
open Go.ChangeShapes Go.WideShapes Go.ChangeAt Go.RowKit
def touchB (x : Ins) : Bool := decide (x.op = 3 ∨ x.op = 4)
def meetP (x y : Ins) : Bool := touchB x && touchB y && (decide (x.op = 4) || decide (y.op = 4))
def clIn (f : Nat → Nat → Bool) (i : Nat) : Nat → List (Nat × Nat)
  | 0 => []
  | k + 1 => if i < k ∧ f i k = true then clIn f i k ++ [(i, k)] else clIn f i k
def clUp (f : Nat → Nat → Bool) (n : Nat) : Nat → List (Nat × Nat)
  | 0 => []
  | i + 1 => clUp f n i ++ clIn f i n
theorem clIn_low (f : Nat → Nat → Bool) (i k : Nat) (h : k ≤ i + 1) : clIn f i k = [] := by
  induction k with
  | zero => rfl
  | succ k ih => unfold clIn; rw [if_neg (by omega), ih (by omega)]
theorem clIn_yes {f : Nat → Nat → Bool} {i k : Nat} (h : i < k) (hf : f i k = true) : clIn f i (k + 1) = clIn f i k ++ [(i, k)] := if_pos ⟨h, hf⟩
theorem clIn_no {f : Nat → Nat → Bool} {i k : Nat} (hf : f i k = false) : clIn f i (k + 1) = clIn f i k := if_neg (by simp [hf])
theorem clIn_len (f : Nat → Nat → Bool) (i k : Nat) : (clIn f i k).length ≤ k := by
  induction k with
  | zero => simp [clIn]
  | succ k ih =>
    unfold clIn
    split
    · simp; omega
    · omega
theorem clUp_len (f : Nat → Nat → Bool) (n i : Nat) : (clUp f n i).length ≤ i * n := by
  induction i with
  | zero => simp [clUp]
  | succ i ih =>
    have := clIn_len f i n
    unfold clUp
    rw [List.length_append, Nat.succ_mul]; omega
def clF (V : Nat) (code : List Ins) (i k : Nat) : Bool :=
  match code[i]?, code[k]?, (placesUp V code code.length)[i]?, (placesUp V code code.length)[k]? with
  | some x, some y, some p, some q => meetP x y && !decide (aliasP p q = 0)
  | _, _, _, _ => false
theorem clF_at {V : Nat} {code : List Ins} {i k : Nat} {x y : Ins} {p q : Pla} (h1 : code[i]? = some x) (h2 : code[k]? = some y) (h3 : (placesUp V code code.length)[i]? = some p) (h4 : (placesUp V code code.length)[k]? = some q) : clF V code i k = (meetP x y && !decide (aliasP p q = 0)) := by
  simp [clF, h1, h2, h3, h4]
def clashUp (V : Nat) (code : List Ins) : List (Nat × Nat) := clUp (clF V code) code.length code.length
def clashP (g : Gr) (n : Int) : List (Nat × Nat) := if hasB6 g n then clashUp g.slots.toNat (codeAt g n) else []
theorem clashP_len (g : Gr) (n : Int) : (clashP g n).length ≤ 1000000 := by
  unfold clashP
  split
  · rename_i h
    obtain ⟨i, V, _, _, _, hi, hce, hcl, _⟩ := hasB6_ok h
    rw [hce]
    have := clUp_len (clF g.slots.toNat (g.blocks[i]).code) (g.blocks[i]).code.length (g.blocks[i]).code.length
    have h2 : (g.blocks[i]).code.length * (g.blocks[i]).code.length ≤ 1000 * 1000 := Nat.mul_le_mul hcl hcl
    unfold clashUp; omega
  · simp
/-- The r-th place tells whether its step loads or stores. -/
theorem placeP_r {l : Led} {x : Ins} {R : Int} {V : Int} (hx : insOk R V x = true) : ((placeP l x).r = -1) ↔ ¬ (x.op = 3 ∨ x.op = 4) := by
  by_cases h : x.op = 3 ∨ x.op = 4
  · have hn : 0 ≤ x.n := by
      rcases insOk_slots hx with ⟨e, _⟩ | ⟨e, _⟩ | ⟨e, _⟩ | ⟨_, _, _, _, hn, _⟩ | ⟨_, _, _, hn, _⟩ | ⟨e, _⟩ | e
      all_goals first | exact hn | omega
    refine ⟨fun e => ?_, fun e => absurd h e⟩
    unfold placeP at e
    rw [if_pos h] at e
    simp only at e
    omega
  · simp [placeP, h]
def A2E : Elem (Nat × Nat) := { T := 73, ST := 39, sz := 2, bys := 16, z := .agg #[.int .i64 0, .int .i64 0], cs := fun p => [.int .i64 (p.1 : Int), .int .i64 (p.2 : Int)] }
theorem A2Ok : A2E.Ok where
  und := Try.underlying39
  info := by kernel_rfl
  zs := rfl
  pos := by decide
  few := by decide
  len := fun _ => rfl
  one := fun x u hu => by simp [A2E] at hu; rcases hu with rfl | rfl <;> rfl
theorem placesUp_step (V : Nat) (code : List Ins) (n : Nat) (hn : n ≤ code.length) (i : Nat) (hi : i < n) : (placesUp V code n)[i]? = (code[i]?).map (placeP (ledP V (code.take i))) := by
  induction n with
  | zero => omega
  | succ n ih =>
    rw [placesUp_at V (by omega)]
    have hl := placesUp_len V code n (by omega)
    by_cases h : i < n
    · rw [List.getElem?_append_left (by omega)]; exact ih (by omega) h
    · obtain rfl : i = n := by omega
      rw [List.getElem?_append_right (by omega), hl]
      simp [show i < code.length by omega]
end Go.Proofs.Ytgiboadcfnfooab

/- The cells of a place in a list that a call owns. -/
namespace Go.Proofs.Ytgiboadcfnfooab
open Go.ChangeShapes Go.WideShapes Go.ChangeAt Go.RowKit
theorem pla_at {w : World} {B g n cap : Nat} {l : List Pla} (h : OwnE PlE w B (.slice (some ⟨g, 0, none⟩) n cap) l) (j : Nat) (hj : j < l.length) :
    w.cell? ⟨g, j * 4, none⟩ = some (.int .i64 l[j].r) ∧ w.cell? ⟨g, j * 4 + 1, none⟩ = some (.int .i64 l[j].i) ∧ w.cell? ⟨g, j * 4 + 2, none⟩ = some (.int .i64 l[j].j) ∧ w.cell? ⟨g, j * 4 + 3, none⟩ = some (.int .i64 l[j].off) := by
  have h0 := h.at PlOk j hj 0 (by decide)
  have h1 := h.at PlOk j hj 1 (by decide)
  have h2 := h.at PlOk j hj 2 (by decide)
  have h3 := h.at PlOk j hj 3 (by decide)
  simp [PlE] at h0 h1 h2 h3
  exact ⟨h0, h1, h2, h3⟩
end Go.Proofs.Ytgiboadcfnfooab
