/- Plain numerals of 64 bits: which text is the text of which number, and how it is read back. -/
import Derived.Test.YtjgiohhfhncepaaDoorReadPlain
import Derived.Lib.AtoiAllCases
import Derived.RowKit
namespace Go.Proofs.YtjgiohhfhncepaaDoor
open Go.RowKit
open Go.Lib (decDigits itoa decFrom decNat atoi digitVal nDigits)
theorem digitVal_lt {c : UInt8} {d : Nat} (h : digitVal c = some d) : 48 ≤ c.toNat ∧ c.toNat ≤ 57 ∧ d = c.toNat - 48 := by
  unfold digitVal at h
  split at h
  · injection h with h; omega
  · cases h
theorem decFrom_le : ∀ (l : List UInt8) (acc u : Nat), decFrom acc l = some u → acc ≤ u
  | [], acc, u, h => by simp only [decFrom] at h; injection h with h; omega
  | c :: r, acc, u, h => by
    simp only [decFrom] at h
    cases hd : digitVal c with
    | none => rw [hd] at h; cases h
    | some d =>
      rw [hd] at h
      have := decFrom_le r _ u h
      omega
theorem parse_of : ∀ (l : List UInt8) (acc u : Nat), decFrom acc l = some u → u < 18446744073709551616 → Lib.parseUint10 acc l = .ok u
  | [], acc, u, h, _ => by simp only [decFrom] at h; injection h with h; subst h; rfl
  | c :: r, acc, u, h, hu => by
    simp only [decFrom] at h
    cases hd : digitVal c with
    | none => rw [hd] at h; cases h
    | some d =>
      rw [hd] at h
      obtain ⟨h1, h2, rfl⟩ := digitVal_lt hd
      have hle := decFrom_le r _ u h
      simp only [Lib.parseUint10]
      rw [if_pos ⟨h1, h2⟩, if_neg (by omega), if_neg (by omega)]
      exact parse_of r _ u h hu
theorem parseMag_dec (u : Nat) (hu : u < 18446744073709551616) : Lib.parseMag (decDigits u) = .ok u := by
  unfold Lib.parseMag
  rw [if_neg (decDigits_ne u)]
  exact parse_of _ _ _ (decFrom_decDigits u) hu
/-- The text of a number of 64 bits. -/
def IsN64 (l : List UInt8) (n : Int) : Prop := -9223372036854775808 ≤ n ∧ n ≤ 9223372036854775807 ∧ itoa n = l
theorem isN64_form {l : List UInt8} {n : Int} (h : IsN64 l n) : bare l = decDigits n.natAbs ∧ (l.head? = some 45 ↔ n < 0) := by
  obtain ⟨h0, h1, rfl⟩ := h
  by_cases hn : n < 0
  · have e : n = -((n.natAbs : Nat) : Int) := by omega
    have e2 : itoa n = 45 :: decDigits n.natAbs := by rw [e, itoa_mn _ (by omega)]; congr 2; omega
    rw [e2]
    refine ⟨rfl, ?_⟩
    simp [hn]
  · have e : n = ((n.natAbs : Nat) : Int) := by omega
    have e2 : itoa n = decDigits n.natAbs := by rw [e, itoa_nn]; congr 1
    rw [e2]
    refine ⟨by unfold bare; rw [if_neg (head_dec _)], ?_⟩
    constructor
    · intro h; exact absurd h (head_dec _)
    · intro h; exact absurd h hn
theorem atoiAll_isN64 {l : List UInt8} {n : Int} (h : IsN64 l n) : Lib.atoiAll l = .ok n := by
  obtain ⟨h0, h1, he⟩ := h
  by_cases hn : n < 0
  · have e : n = -((n.natAbs : Nat) : Int) := by omega
    rw [← he, e, itoa_mn _ (by omega), Lib.atoiAll_minus, parseMag_dec _ (by omega)]
    simp only [Lib.signed]
    rw [if_neg (by omega)]
  · have e : n = ((n.natAbs : Nat) : Int) := by omega
    rw [← he, e, itoa_nn]
    cases hd : decDigits n.natAbs with
    | nil => exact absurd hd (decDigits_ne _)
    | cons c r =>
      have hc1 : c ≠ 45 := by intro hc; exact head_dec n.natAbs (by rw [hd, hc]; rfl)
      have hc2 : c ≠ 43 := by intro hc; exact head_dec' n.natAbs (by rw [hd, hc]; rfl)
      rw [Lib.atoiAll_plain c r (fun e => hc2 (UInt8.toNat_inj.1 e)) (fun e => hc1 (UInt8.toNat_inj.1 e)), ← hd, parseMag_dec _ (by omega)]
      simp only [Lib.signless]
      rw [if_neg (by omega)]
/-- What ReadNum answers. -/
def numR (l : List UInt8) : Int × Bool := match Lib.atoiAll l with
  | .ok n => if itoa n = l then (n, true) else (0, false)
  | _ => (0, false)
theorem numR_yes {l : List UInt8} {n : Int} (h : IsN64 l n) : numR l = (n, true) := by
  unfold numR; rw [atoiAll_isN64 h]; exact if_pos h.2.2
theorem numR_no {l : List UInt8} (h : ∀ n, ¬ IsN64 l n) : numR l = (0, false) := by
  unfold numR
  cases ha : Lib.atoiAll l with
  | ok n => exact if_neg fun e => h n ⟨(Lib.atoiAll_bounds ha).1, (Lib.atoiAll_bounds ha).2, e⟩
  | «syntax» => rfl
  | range => rfl
theorem numR_bd (l : List UInt8) : -9223372036854775808 ≤ (numR l).1 ∧ (numR l).1 ≤ 9223372036854775807 := by
  unfold numR
  cases ha : Lib.atoiAll l with
  | ok n =>
    have hb := Lib.atoiAll_bounds ha
    by_cases h : itoa n = l
    · simp only [if_pos h]; exact hb
    · simp only [if_neg h]; exact ⟨by simp, by simp⟩
  | «syntax» => exact ⟨by simp, by simp⟩
  | range => exact ⟨by simp, by simp⟩
theorem isN64_of_numR {l : List UInt8} (h : (numR l).2 = true) : IsN64 l (numR l).1 := by
  unfold numR at h ⊢
  cases ha : Lib.atoiAll l with
  | ok n =>
    rw [ha] at h
    have hb := Lib.atoiAll_bounds ha
    by_cases he : itoa n = l
    · simp only [if_pos he]; exact ⟨hb.1, hb.2, he⟩
    · simp only [if_neg he] at h; cases h
  | «syntax» => rw [ha] at h; cases h
  | range => rw [ha] at h; cases h
theorem no_digit64 {l : List UInt8} {c : UInt8} (hc : c ∈ bare l) (hd : digB c.toNat = false) : ∀ n, ¬ IsN64 l n := by
  intro n h
  rw [(isN64_form h).1] at hc
  rw [decDigits_dig _ c hc] at hd; cases hd
theorem no_long64 {l : List UInt8} (hc : 19 < (bare l).length) : ∀ n, ¬ IsN64 l n := by
  intro n h
  rw [(isN64_form h).1, Lib.decDigits_length] at hc
  have := nDigits_le 18 n.natAbs (by have h1 := h.1; have h2 := h.2.1; have : (10 : Nat) ^ (18 + 1) = 10000000000000000000 := by decide
                                     omega)
  omega
theorem no_empty64 {l : List UInt8} (hc : bare l = []) : ∀ n, ¬ IsN64 l n := by
  intro n h
  rw [(isN64_form h).1] at hc
  exact decDigits_ne _ hc
/-- What the digits come to in 64 bits. -/
def numW (l : List UInt8) (v : Nat) : Int := if l.head? = some 45 then wrap64 (-(wrap64 v)) else wrap64 v
theorem numW_bd (l : List UInt8) (v : Nat) : -9223372036854775808 ≤ numW l v ∧ numW l v ≤ 9223372036854775807 := by
  unfold numW wrap64
  split <;> omega
theorem no_other64 {l : List UInt8} {v : Nat} (hv : decFrom 0 (bare l) = some v) (hne : itoa (numW l v) ≠ l) : ∀ m, ¬ IsN64 l m := by
  intro m h
  obtain ⟨hb, hh⟩ := isN64_form h
  rw [hb, decFrom_decDigits] at hv
  have hv' : m.natAbs = v := Option.some.inj hv
  apply hne
  have h1 := h.1
  have h2 := h.2.1
  have : numW l v = m := by
    unfold numW wrap64
    by_cases hm : m < 0
    · rw [if_pos (hh.2 hm)]; omega
    · rw [if_neg (fun e => hm (hh.1 e))]; omega
  rw [this]; exact h.2.2
theorem yes_num64 {l : List UInt8} {v : Nat} (he : itoa (numW l v) = l) : IsN64 l (numW l v) := ⟨(numW_bd l v).1, (numW_bd l v).2, he⟩
end Go.Proofs.YtjgiohhfhncepaaDoor
