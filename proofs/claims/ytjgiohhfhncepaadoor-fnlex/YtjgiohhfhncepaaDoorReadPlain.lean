/- Plain numerals: which text is the text of which number, and how it is read back. -/
import Derived.Test.YtjgiohhfhncepaaDoorPlain
import Derived.Test.YtjgiohhfhncepaaDoorDecPlain
import Derived.Lib.Atoi
import Derived.Lib.AtoiTie
namespace Go.Proofs.YtjgiohhfhncepaaDoor
open Go.Lib (decDigits itoa decFrom decNat atoi digitVal nDigits)

theorem digitVal_ofNat (d : Nat) (h : d < 10) : digitVal (UInt8.ofNat (48 + d)) = some d := by
  have e : (UInt8.ofNat (48 + d)).toNat = 48 + d := by simp; omega
  unfold digitVal; rw [e, if_pos (by omega)]; simp
theorem decFrom_append (l r : List UInt8) : ∀ acc, decFrom acc (l ++ r) = (decFrom acc l).bind fun a => decFrom a r := by
  induction l with
  | nil => intro acc; rfl
  | cons c l ih =>
    intro acc
    simp only [List.cons_append, decFrom]
    cases digitVal c with
    | none => rfl
    | some d => exact ih _
theorem decFrom_decDigits (u : Nat) : decFrom 0 (decDigits u) = some u := by
  induction u using Nat.strongRecOn with
  | _ u ih =>
    by_cases h : u < 10
    · rw [decDigits, dif_pos h]; simp only [decFrom, digitVal_ofNat u h, Nat.zero_mul, Nat.zero_add]
    · rw [decDigits, dif_neg h, decFrom_append, ih (u / 10) (by omega)]
      simp only [Option.bind_some, decFrom, digitVal_ofNat (u % 10) (by omega)]
      congr 1; omega
theorem decDigits_ne (u : Nat) : decDigits u ≠ [] := by
  intro e
  have := Lib.decDigits_length u
  rw [e] at this
  have h1 := Lib.nDigits_pos u
  simp at this; omega
theorem decNat_decDigits (u : Nat) : decNat (decDigits u) = some u := by
  unfold decNat
  rw [if_neg (by simp [decDigits_ne u]), decFrom_decDigits]
theorem nDigits_le (k : Nat) : ∀ u : Nat, u < 10 ^ (k + 1) → nDigits u ≤ k + 1 := by
  induction k with
  | zero => intro u h; rw [Lib.nDigits_small (by simpa using h)]; exact Nat.le_refl _
  | succ k ih =>
    intro u h
    by_cases h10 : u < 10
    · rw [Lib.nDigits_small h10]; omega
    · rw [Lib.nDigits_big h10]
      have := ih (u / 10) (by rw [Nat.pow_succ] at h; omega)
      omega
theorem decDigits_len6 (u : Nat) (h : u ≤ 999999) : (decDigits u).length ≤ 6 := by
  rw [Lib.decDigits_length]
  exact nDigits_le 5 u (by have : (10 : Nat) ^ (5 + 1) = 1000000 := by decide
                           omega)
/-- Each byte of a numeral is a digit. -/
theorem decDigits_dig (u : Nat) : ∀ c ∈ decDigits u, digB c.toNat = true := by
  induction u using Nat.strongRecOn with
  | _ u ih =>
    have one : ∀ d : Nat, d < 10 → digB ((UInt8.ofNat (48 + d)).toNat : Nat) = true := by
      intro d hd
      have e : (UInt8.ofNat (48 + d)).toNat = 48 + d := by simp; omega
      unfold digB inB; rw [e]; exact decide_eq_true (by omega)
    by_cases h : u < 10
    · intro c hc
      rw [decDigits, dif_pos h] at hc
      simp only [List.mem_singleton] at hc
      rw [hc]; exact one u h
    · intro c hc
      rw [decDigits, dif_neg h] at hc
      rcases List.mem_append.1 hc with hc | hc
      · exact ih (u / 10) (by omega) c hc
      · simp only [List.mem_singleton] at hc
        rw [hc]; exact one _ (by omega)
theorem digB_not (c : UInt8) (h : digB c.toNat = true) : c ≠ 45 ∧ c ≠ 43 := by
  have := of_decide_eq_true h
  constructor <;> (rintro rfl; simp at this)

/-- The text of a number of -999999 .. 999999. -/
def IsNum (l : List UInt8) (n : Int) : Prop := -999999 ≤ n ∧ n ≤ 999999 ∧ itoa n = l
/-- The text behind a minus. -/
def bare (l : List UInt8) : List UInt8 := if l.head? = some 45 then l.tail else l
theorem itoa_nn (u : Nat) : itoa (u : Int) = decDigits u := by unfold itoa; rw [if_neg (by omega)]; simp
theorem itoa_mn (u : Nat) (h : 1 ≤ u) : itoa (-(u : Int)) = 45 :: decDigits u := by unfold itoa; rw [if_pos (by omega)]; simp
theorem head_dec (u : Nat) : (decDigits u).head? ≠ some 45 := by
  intro h
  have hm : (45 : UInt8) ∈ decDigits u := List.mem_of_mem_head? h
  exact (digB_not 45 (decDigits_dig u 45 hm)).1 rfl
theorem head_dec' (u : Nat) : (decDigits u).head? ≠ some 43 := by
  intro h
  have hm : (43 : UInt8) ∈ decDigits u := List.mem_of_mem_head? h
  exact (digB_not 43 (decDigits_dig u 43 hm)).2 rfl
theorem isNum_form {l : List UInt8} {n : Int} (h : IsNum l n) : bare l = decDigits n.natAbs ∧ (l.head? = some 45 ↔ n < 0) := by
  obtain ⟨h0, h1, rfl⟩ := h
  by_cases hn : n < 0
  · have e : n = -((n.natAbs : Nat) : Int) := by omega
    have e2 : itoa n = 45 :: decDigits n.natAbs := by rw [e, itoa_mn _ (by omega)]; congr 2; omega
    rw [e2]
    refine ⟨rfl, ?_⟩
    simp [hn]
  · have e : n = ((n.natAbs : Nat) : Int) := by omega
    have e2 : itoa n = decDigits n.natAbs := by rw [e, itoa_nn]; congr 1
    rw [e2]
    refine ⟨by unfold bare; rw [if_neg (head_dec _)], ?_⟩
    constructor
    · intro h; exact absurd h (head_dec _)
    · intro h; exact absurd h hn
theorem atoi_cons (b : UInt8) (r : List UInt8) : atoi (b :: r) = if b == 45 then (decNat r).map (fun (m : Nat) => -(m : Int)) else if b == 43 then (decNat r).map (fun (m : Nat) => (m : Int)) else (decNat (b :: r)).map (fun (m : Nat) => (m : Int)) := rfl
theorem atoi_isNum {l : List UInt8} {n : Int} (h : IsNum l n) : atoi l = some n := by
  obtain ⟨hb, hh⟩ := isNum_form h
  obtain ⟨h0, h1, he⟩ := h
  by_cases hn : n < 0
  · have e : n = -((n.natAbs : Nat) : Int) := by omega
    rw [← he, e, itoa_mn _ (by omega)]
    rw [atoi_cons, if_pos (by decide), decNat_decDigits]; rfl
  · have e : n = ((n.natAbs : Nat) : Int) := by omega
    rw [← he, e, itoa_nn]
    cases hd : decDigits n.natAbs with
    | nil => exact absurd hd (decDigits_ne _)
    | cons c r =>
      have hc1 : c ≠ 45 := by intro hc; exact head_dec n.natAbs (by rw [hd, hc]; rfl)
      have hc2 : c ≠ 43 := by intro hc; exact head_dec' n.natAbs (by rw [hd, hc]; rfl)
      rw [atoi_cons, if_neg (by simpa using hc1), if_neg (by simpa using hc2), ← hd, decNat_decDigits]; rfl
theorem isNum_len {l : List UInt8} {n : Int} (h : IsNum l n) : l.length ≤ 7 := by
  obtain ⟨h0, h1, he⟩ := h
  have h6 := decDigits_len6 n.natAbs (by omega)
  by_cases hn : n < 0
  · have e : n = -((n.natAbs : Nat) : Int) := by omega
    rw [← he, e, itoa_mn _ (by omega)]
    simp; omega
  · have e : n = ((n.natAbs : Nat) : Int) := by omega
    rw [← he, e, itoa_nn]
    simp; omega
theorem atoiAll_isNum {l : List UInt8} {n : Int} (h : IsNum l n) : Lib.atoiAll l = .ok n := by
  rw [Lib.atoiAll_short l (by have := isNum_len h; omega), atoi_isNum h]; rfl
/-- What ReadInt answers. -/
def readR (l : List UInt8) : Int × Bool := match atoi l with
  | some n => if -999999 ≤ n ∧ n ≤ 999999 ∧ itoa n = l then (n, true) else (0, false)
  | none => (0, false)
theorem readR_yes {l : List UInt8} {n : Int} (h : IsNum l n) : readR l = (n, true) := by
  unfold readR; rw [atoi_isNum h]; exact if_pos h
theorem readR_no {l : List UInt8} (h : ∀ n, ¬ IsNum l n) : readR l = (0, false) := by
  unfold readR
  cases ha : atoi l with
  | none => rfl
  | some n => exact if_neg (h n)
theorem readR_bd (l : List UInt8) : -999999 ≤ (readR l).1 ∧ (readR l).1 ≤ 999999 := by
  unfold readR
  cases atoi l with
  | none => exact ⟨by simp, by simp⟩
  | some n =>
    by_cases h : -999999 ≤ n ∧ n ≤ 999999 ∧ itoa n = l
    · simp only [if_pos h]; exact ⟨h.1, h.2.1⟩
    · simp only [if_neg h]; exact ⟨by simp, by simp⟩
/-- No number: some byte behind the minus is no digit. -/
theorem no_digit {l : List UInt8} {c : UInt8} (hc : c ∈ bare l) (hd : digB c.toNat = false) : ∀ n, ¬ IsNum l n := by
  intro n h
  rw [(isNum_form h).1] at hc
  rw [decDigits_dig _ c hc] at hd; cases hd
theorem no_long {l : List UInt8} (hc : 6 < (bare l).length) : ∀ n, ¬ IsNum l n := by
  intro n h
  rw [(isNum_form h).1] at hc
  have := decDigits_len6 n.natAbs (by have := h.1; have := h.2.1; omega)
  omega
theorem no_empty {l : List UInt8} (hc : bare l = []) : ∀ n, ¬ IsNum l n := by
  intro n h
  rw [(isNum_form h).1] at hc
  exact decDigits_ne _ hc
theorem no_other {l : List UInt8} {v : Nat} {n : Int} (hv : decFrom 0 (bare l) = some v) (hn : n = if l.head? = some 45 then -(v : Int) else v) (hne : itoa n ≠ l) : ∀ m, ¬ IsNum l m := by
  intro m h
  obtain ⟨hb, hh⟩ := isNum_form h
  rw [hb, decFrom_decDigits] at hv
  have hv' : m.natAbs = v := Option.some.inj hv
  apply hne
  have : n = m := by
    rw [hn]
    by_cases hm : m < 0
    · rw [if_pos (hh.2 hm)]; omega
    · rw [if_neg (fun e => hm (hh.1 e))]; omega
  rw [this]; exact h.2.2
theorem yes_num {l : List UInt8} {v : Nat} {n : Int} (hv : decFrom 0 (bare l) = some v) (h6 : (bare l).length ≤ 6) (hn : n = if l.head? = some 45 then -(v : Int) else v) (he : itoa n = l) : IsNum l n := by
  have h1 := Lib.decFrom_lt (bare l) 0 v hv
  have h2 : (10 : Nat) ^ (bare l).length ≤ 10 ^ 6 := Nat.pow_le_pow_right (by decide) h6
  have h3 : (10 : Nat) ^ 6 = 1000000 := by decide
  refine ⟨?_, ?_, he⟩ <;> (rw [hn]; split <;> omega)
end Go.Proofs.YtjgiohhfhncepaaDoor
