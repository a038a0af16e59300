/- Plain numerals: the digits that are put ahead of each other. -/
import Derived.Lib.ItoaNum
namespace Go.Proofs.YtjgiohhfhncepaaDoor
def dd (a : Nat) : List UInt8 := if a = 0 then [] else Lib.decDigits a
theorem dd_zero : dd 0 = [] := rfl
theorem dd_pos {a : Nat} (h : a ≠ 0) : dd a = Lib.decDigits a := by unfold dd; rw [if_neg h]
theorem dd_step {a : Nat} (h : a ≠ 0) : dd a = dd (a / 10) ++ [UInt8.ofNat (48 + a % 10)] := by
  rw [dd_pos h]
  by_cases h10 : a < 10
  · rw [Lib.decDigits, dif_pos h10, show a / 10 = 0 by omega, dd_zero, show a % 10 = a by omega]; rfl
  · rw [Lib.decDigits, dif_neg h10, dd_pos (by omega)]
def tenS : ByteArray := ⟨#[48, 49, 50, 51, 52, 53, 54, 55, 56, 57]⟩
theorem tenS_fin : ∀ d : Fin 10, (tenS.extract d.val (d.val + 1)).data.toList = [UInt8.ofNat (48 + d.val)] := by decide +kernel
theorem tenS_at (d : Nat) (h : d < 10) (l : List UInt8) : ((⟨#[48, 49, 50, 51, 52, 53, 54, 55, 56, 57]⟩ : ByteArray).extract d (d + 1) ++ ⟨l.toArray⟩ : ByteArray) = ⟨(UInt8.ofNat (48 + d) :: l).toArray⟩ := by
  have h1 := tenS_fin ⟨d, h⟩
  apply ByteArray.ext
  apply Array.ext'
  rw [ByteArray.data_append, Array.toList_append]
  show (tenS.extract d (d + 1)).data.toList ++ _ = _
  rw [h1]; simp
theorem minus_app (l : List UInt8) : ((⟨#[45]⟩ : ByteArray) ++ ⟨l.toArray⟩ : ByteArray) = ⟨(45 :: l).toArray⟩ := by
  apply ByteArray.ext; apply Array.ext'; rw [ByteArray.data_append, Array.toList_append]; simp
theorem nDigits_20 (u : Nat) (h1 : 1 ≤ u) (h : u ≤ 9223372036854775808) : Lib.nDigits u ≤ 20 := by
  by_cases hh : Lib.nDigits u ≤ 20
  · exact hh
  · exfalso
    have key : ∀ k u : Nat, k < Lib.nDigits u → 10 ^ k ≤ u ∨ k = 0 := by
      intro k
      induction k with
      | zero => intro u _; exact Or.inr rfl
      | succ k ih =>
        intro u hk
        left
        by_cases h10 : u < 10
        · rw [Lib.nDigits_small h10] at hk; omega
        · rw [Lib.nDigits_big h10] at hk
          rcases ih (u / 10) (by omega) with h | h
          · rw [Nat.pow_succ]; omega
          · subst h; simp; omega
    rcases key 20 u (by omega) with h' | h'
    · have : (10 : Nat) ^ 20 = 100000000000000000000 := by decide
      omega
    · omega
theorem dd_len {a u : Nat} {l : List UInt8} (hu : u ≠ 0) (hU : u ≤ 9223372036854775808) (h : dd a ++ l = dd u) : l.length ≤ 20 := by
  have h1 := congrArg List.length h
  rw [List.length_append, dd_pos hu, Lib.decDigits_length] at h1
  have := nDigits_20 u (by omega) hU
  omega
theorem itoa_pos' {n : Int} (h : 0 < n) : Lib.itoa n = dd n.natAbs := by unfold Lib.itoa; rw [if_neg (by omega), dd_pos (by omega), show n.toNat = n.natAbs by omega]
theorem itoa_neg' {n : Int} (h : n < 0) : Lib.itoa n = 45 :: dd n.natAbs := by unfold Lib.itoa; rw [if_pos h, dd_pos (by omega)]
theorem itoa_zero' : Lib.itoa 0 = [48] := by unfold Lib.itoa Lib.decDigits; rfl
end Go.Proofs.YtjgiohhfhncepaaDoor
