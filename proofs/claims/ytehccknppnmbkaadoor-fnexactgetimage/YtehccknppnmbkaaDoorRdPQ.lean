/- Reading an image out of bytes: the numbers at multiples of eight bytes, and what both readers tell. -/
import Derived.Test.YtehccknppnmbkaaDoorPutP
import Derived.Test.YtehccknppnmbkaaDoorAimQ
import Derived.Laws.Bits64b
namespace Go.Proofs.YtehccknppnmbkaaDoor
open Go.ChangeShapes Go.WideShapes Go.ChangeAt Go.RowKit
def byteN (s : ByteArray) (i : Nat) : Nat := match s.data.toList[i]? with | some c => c.toNat | none => 0
theorem byteN_at {s : ByteArray} {i : Nat} (h : i < s.size) : byteN s i = s[i].toNat := by
  have hl : i < s.data.toList.length := by rw [Array.length_toList]; exact h
  unfold byteN
  rw [List.getElem?_eq_getElem hl]; rfl
theorem byteN_lt (s : ByteArray) (i : Nat) : byteN s i < 256 := by
  unfold byteN
  split
  · rename_i c _; exact c.toNat_lt
  · decide
/-- What the first k bytes from p on tell. -/
def accN (s : ByteArray) (p : Nat) : Nat → Nat
  | 0 => 0
  | k + 1 => accN s p k * 256 + byteN s (p + k)
theorem accN_lt (s : ByteArray) (p : Nat) : ∀ k, accN s p k < 256 ^ k
  | 0 => by show 0 < 1; decide
  | k + 1 => by
    have h := accN_lt s p k
    have hb := byteN_lt s (p + k)
    rw [Nat.pow_succ]
    show accN s p k * 256 + _ < _
    omega
theorem accN_few (s : ByteArray) (p k : Nat) (h : k < 8) : accN s p k < 72057594037927936 := by
  have h1 := accN_lt s p k
  have h2 : 256 ^ k ≤ 256 ^ 7 := Nat.pow_le_pow_right (by decide) (by omega)
  have h3 : (256 : Nat) ^ 7 = 72057594037927936 := by decide
  omega
theorem or_byte {U : Nat} (hU : U < 72057594037927936) {b : Nat} (hb : b < 256) : bits .or .u64 (IntKind.u64.wrap ((U : Int) * 256)) (IntKind.u64.wrap (b : Int)) = ((U * 256 + b : Nat) : Int) := by
  have e1 : IntKind.u64.wrap ((U : Int) * 256) = ((U * 256 : Nat) : Int) := by simp [IntKind.wrap, IntKind.bits, IntKind.signed]; omega
  have e2 : IntKind.u64.wrap (b : Int) = ((b : Nat) : Int) := by simp [IntKind.wrap, IntKind.bits, IntKind.signed]; omega
  rw [e1, e2, bits_or_u64_nat _ _ (by omega) (by omega)]
  have := Nat.two_pow_add_eq_or_of_lt (i := 8) (b := b) (by omega) U
  rw [show U * 256 = 2 ^ 8 * U by omega, ← this]
/-- A number of 64 bits out of its eight bytes. -/
def numAt (s : ByteArray) (p : Nat) : Int := wrap64 (accN s p 8 : Nat)
theorem numAt_i64 (s : ByteArray) (p : Nat) : I64 (numAt s p) := by unfold numAt I64 wrap64; omega
def valI (s : ByteArray) (i : Nat) : Int := if 8 * (i + 1) ≤ s.size then numAt s (8 * i) else 0
theorem valI_i64 (s : ByteArray) (i : Nat) : I64 (valI s i) := by
  unfold valI; split
  · exact numAt_i64 _ _
  · unfold I64; decide
def restAt (s : ByteArray) (i : Nat) : ByteArray := if 8 * i ≤ s.size then s.extract (8 * i) s.size else ⟨#[]⟩
def valsI (s : ByteArray) (p : Nat) : Nat → List Int
  | 0 => []
  | j + 1 => valsI s p j ++ [valI s (p + j)]
def wrdI (s : ByteArray) (p : Nat) : Wrd := ⟨valI s p, valI s (p + 1), valI s (p + 2), valI s (p + 3), valI s (p + 4)⟩
def wrdsI (s : ByteArray) (p : Nat) : Nat → List Wrd
  | 0 => []
  | j + 1 => wrdsI s p j ++ [wrdI s (p + 5 * j)]
theorem valsI_len (s : ByteArray) (p : Nat) : ∀ j, (valsI s p j).length = j
  | 0 => rfl
  | j + 1 => by show (valsI s p j ++ _).length = _; rw [List.length_append, valsI_len s p j]; rfl
theorem wrdsI_len (s : ByteArray) (p : Nat) : ∀ j, (wrdsI s p j).length = j
  | 0 => rfl
  | j + 1 => by show (wrdsI s p j ++ _).length = _; rw [List.length_append, wrdsI_len s p j]; rfl
def kI (s : ByteArray) : Nat := (min (valI s 0) 4).toNat
def cI (s : ByteArray) : Nat := (min (valI s (3 + kI s)) 6000).toNat
def pI (s : ByteArray) : Img := ⟨valsI s 1 (kI s), valI s (1 + kI s), valI s (2 + kI s), wrdsI s (4 + kI s) (cI s)⟩
theorem pI_wf (s : ByteArray) : (pI s).wf := ⟨valI_i64 _ _, valI_i64 _ _⟩
theorem wrdsI_wf (s : ByteArray) (p : Nat) : ∀ j, ∀ x ∈ wrdsI s p j, x.wf
  | 0, x, h => by simp [wrdsI] at h
  | j + 1, x, h => by
    rcases List.mem_append.1 h with h | h
    · exact wrdsI_wf s p j x h
    · simp at h; subst h; exact ⟨valI_i64 _ _, valI_i64 _ _, valI_i64 _ _, valI_i64 _ _, valI_i64 _ _⟩
theorem pI_code (s : ByteArray) : ∀ x ∈ (pI s).code, x.wf := wrdsI_wf _ _ _
theorem kI_le (s : ByteArray) : kI s ≤ 4 := by unfold kI; omega
theorem cI_le (s : ByteArray) : cI s ≤ 6000 := by unfold cI; omega
/-- What both tell. -/
def okI (s : ByteArray) : Bool := imgOk (pI s) && decide (putS (pI s) = s)
def zImg : Img := ⟨[], 0, 0, []⟩
def getP (s : ByteArray) : Img := if okI s = true then pI s else zImg
theorem getP_wf (s : ByteArray) : (getP s).wf ∧ ∀ x ∈ (getP s).code, x.wf := by
  unfold getP; split
  · exact ⟨pI_wf s, pI_code s⟩
  · exact ⟨by unfold Img.wf I64 zImg; decide, by simp [zImg]⟩
/-- The specification's conditions, ahead of the last. -/
def condS (s : ByteArray) : Bool :=
  decide (1 ≤ s.size / 8) && decide (1 ≤ numAt s 0 ∧ numAt s 0 ≤ 4) &&
  decide (numAt s 0 + 10 ≤ ((s.size / 8 : Nat) : Int)) && decide (1 ≤ numAt s (8 * (numAt s 0).toNat + 24) ∧ numAt s (8 * (numAt s 0).toNat + 24) ≤ 6000) &&
  decide (((s.size / 8 : Nat) : Int) = numAt s 0 + 5 + 5 * numAt s (8 * (numAt s 0).toNat + 24))
theorem strB_byte (l : List Int) (i : Nat) (h : i < l.length) : byteN (strB l) i = l[i].toNat % 256 := by
  have : (strB l).data.toList = l.map fun n => UInt8.ofNat n.toNat := strOfNums_data l
  unfold byteN
  rw [this, List.getElem?_map, List.getElem?_eq_getElem h]
  simp
theorem numUp_get? (n : Int) : ∀ (k j : Nat), j < k → (numUp n k)[j]? = some (byteV n j)
  | 0, j, h => by omega
  | k + 1, j, h => by
    have hl := numUp_len n k
    show (numUp n k ++ [byteV n k])[j]? = _
    by_cases hj : j < k
    · rw [List.getElem?_append_left (by omega)]; exact numUp_get? n k j hj
    · have hjk : j = k := by omega
      subst hjk
      rw [List.getElem?_append_right (by omega), hl]; simp
theorem numsL_split (a : List Int) (x : Int) (r : List Int) : numsL (a ++ x :: r) = numsL a ++ (numL x ++ numsL r) := by unfold numsL; simp
theorem byteV_lt (n : Int) (k : Nat) : 0 ≤ byteV n k ∧ byteV n k < 256 := by unfold byteV; omega
theorem nums_byte (a r : List Int) (x : Int) (j : Nat) (hj : j < 8) : (byteN (strB (numsL (a ++ x :: r))) (8 * a.length + j) : Int) = byteV x j := by
  have hl : (numsL (a ++ x :: r)).length = 8 * (a.length + (1 + r.length)) := by rw [numsL_len]; simp; omega
  rw [strB_byte _ _ (by rw [hl]; omega)]
  have e : (numsL (a ++ x :: r))[8 * a.length + j]'(by rw [hl]; omega) = byteV x j := by
    have h1 : (numsL (a ++ x :: r))[8 * a.length + j]? = some (byteV x j) := by
      rw [numsL_split, List.getElem?_append_right (by rw [numsL_len]; omega), numsL_len, show 8 * a.length + j - 8 * a.length = j by omega, List.getElem?_append_left (by rw [numL_len]; exact hj)]
      exact numUp_get? x 8 j hj
    exact (List.getElem?_eq_some_iff.1 h1).2
  rw [e]
  have := byteV_lt x j
  omega
theorem nums_at (a r : List Int) (x : Int) (hx : I64 x) : numAt (strB (numsL (a ++ x :: r))) (8 * a.length) = x := by
  have b0 := nums_byte a r x 0 (by decide)
  have b1 := nums_byte a r x 1 (by decide)
  have b2 := nums_byte a r x 2 (by decide)
  have b3 := nums_byte a r x 3 (by decide)
  have b4 := nums_byte a r x 4 (by decide)
  have b5 := nums_byte a r x 5 (by decide)
  have b6 := nums_byte a r x 6 (by decide)
  have b7 := nums_byte a r x 7 (by decide)
  obtain ⟨h0, h1⟩ := hx
  generalize strB (numsL (a ++ x :: r)) = s at *
  unfold numAt
  simp only [accN]
  unfold byteV at *
  have p7 : (256 : Int) ^ (7 - 0) = 72057594037927936 := by decide
  have p6 : (256 : Int) ^ (7 - 1) = 281474976710656 := by decide
  have p5 : (256 : Int) ^ (7 - 2) = 1099511627776 := by decide
  have p4 : (256 : Int) ^ (7 - 3) = 4294967296 := by decide
  have p3 : (256 : Int) ^ (7 - 4) = 16777216 := by decide
  have p2 : (256 : Int) ^ (7 - 5) = 65536 := by decide
  have p1 : (256 : Int) ^ (7 - 6) = 256 := by decide
  have p0 : (256 : Int) ^ (7 - 7) = 1 := by decide
  rw [p7] at b0; rw [p6] at b1; rw [p5] at b2; rw [p4] at b3; rw [p3] at b4; rw [p2] at b5; rw [p1] at b6; rw [p0] at b7
  generalize hU : x % 18446744073709551616 = U at *
  have hu0 : 0 ≤ U := by omega
  have hu1 : U < 18446744073709551616 := by omega
  have key : (((((((((0 * 256 + byteN s (8 * a.length + 0)) * 256 + byteN s (8 * a.length + 1)) * 256 + byteN s (8 * a.length + 2)) * 256 + byteN s (8 * a.length + 3)) * 256 + byteN s (8 * a.length + 4)) * 256 + byteN s (8 * a.length + 5)) * 256 + byteN s (8 * a.length + 6)) * 256 + byteN s (8 * a.length + 7) : Nat) : Int) = U := by
    omega
  rw [key]
  unfold wrap64
  omega
end Go.Proofs.YtehccknppnmbkaaDoor

/- The two readers' conditions come to one. -/
namespace Go.Proofs.YtehccknppnmbkaaDoor
open Go.ChangeShapes Go.WideShapes Go.ChangeAt Go.RowKit
theorem imgOk_lens {m : Img} (h : imgOk m = true) : 1 ≤ m.sizes.length ∧ m.sizes.length ≤ 4 ∧ 1 ≤ m.code.length ∧ m.code.length ≤ 6000 := by
  unfold imgOk regOk at h
  simp only [Bool.and_eq_true, decide_eq_true_eq] at h
  obtain ⟨⟨⟨⟨⟨⟨h1, _⟩, _⟩, _⟩, h2⟩, _⟩, _⟩ := h
  exact ⟨h1.1, h1.2, h2.1, h2.2⟩
theorem putL_nums (m : Img) : putL m = numsL (imgN m ++ [sumN (numsL (imgN m))]) := by rw [numsL_app]; rfl
theorem okI_cond {s : ByteArray} (h : okI s = true) : condS s = true := by
  unfold okI at h
  simp only [Bool.and_eq_true, decide_eq_true_eq] at h
  obtain ⟨h1, h2⟩ := h
  obtain ⟨l1, l2, l3, l4⟩ := imgOk_lens h1
  have es : s = strB (numsL (imgN (pI s) ++ [sumN (numsL (imgN (pI s)))])) := by
    conv => lhs; rw [← h2]
    unfold putS
    rw [if_pos h1, putL_nums]
  have hz : s.size = 8 * ((pI s).sizes.length + 4 + 5 * (pI s).code.length + 1) := by
    conv => lhs; rw [es]
    rw [strB_size, numsL_len, List.length_append, imgN_len]; rfl
  generalize pI s = m at *
  obtain ⟨sizes, params, slots, code⟩ := m
  simp only at *
  generalize hS : sumN (numsL (imgN ⟨sizes, params, slots, code⟩)) = S at es
  have n0 : numAt s 0 = ((sizes.length : Nat) : Int) := by
    have e : imgN ⟨sizes, params, slots, code⟩ ++ [S] = [] ++ ((sizes.length : Nat) : Int) :: ((sizes ++ [params, slots, ((code.length : Nat) : Int)]) ++ wrdsN code ++ [S]) := by simp [imgN, headN]
    rw [es, e]
    exact nums_at [] _ _ (by unfold I64; omega)
  have n3 : numAt s (8 * sizes.length + 24) = ((code.length : Nat) : Int) := by
    have e : imgN ⟨sizes, params, slots, code⟩ ++ [S] = (((sizes.length : Nat) : Int) :: sizes ++ [params, slots]) ++ ((code.length : Nat) : Int) :: (wrdsN code ++ [S]) := by simp [imgN, headN]
    rw [es, e]
    have := nums_at (((sizes.length : Nat) : Int) :: sizes ++ [params, slots]) (wrdsN code ++ [S]) ((code.length : Nat) : Int) (by unfold I64; omega)
    rw [show 8 * (((sizes.length : Nat) : Int) :: sizes ++ [params, slots]).length = 8 * sizes.length + 24 by simp; omega] at this
    exact this
  have t : (numAt s 0).toNat = sizes.length := by rw [n0]; simp
  unfold condS
  rw [t, n3, n0]
  simp only [Bool.and_eq_true, decide_eq_true_eq]
  omega
theorem cond_okI {s : ByteArray} (hc : condS s = true) : okI s = decide (putS (pI s) = s) := by
  unfold okI
  by_cases h2 : putS (pI s) = s
  · have h1 : imgOk (pI s) = true := by
      cases h : imgOk (pI s) with
      | true => rfl
      | false =>
        exfalso
        have : s.size = 0 := by rw [← h2]; unfold putS; rw [h]; rfl
        unfold condS at hc
        simp only [Bool.and_eq_true, decide_eq_true_eq] at hc
        omega
    rw [h1]; rfl
  · rw [decide_eq_false h2, Bool.and_false]
theorem ncond_okI {s : ByteArray} (hc : condS s = false) : okI s = false := by
  cases h : okI s with
  | false => rfl
  | true => rw [okI_cond h] at hc; cases hc
theorem valI_in {s : ByteArray} {i : Nat} (h : 8 * (i + 1) ≤ s.size) : valI s i = numAt s (8 * i) := if_pos h
theorem cond_parts {s : ByteArray} (hc : condS s = true) : 1 ≤ s.size / 8 ∧ (1 ≤ numAt s 0 ∧ numAt s 0 ≤ 4) ∧ numAt s 0 + 10 ≤ ((s.size / 8 : Nat) : Int) ∧ (1 ≤ numAt s (8 * (numAt s 0).toNat + 24) ∧ numAt s (8 * (numAt s 0).toNat + 24) ≤ 6000) ∧ ((s.size / 8 : Nat) : Int) = numAt s 0 + 5 + 5 * numAt s (8 * (numAt s 0).toNat + 24) := by
  unfold condS at hc
  simp only [Bool.and_eq_true, decide_eq_true_eq] at hc
  exact ⟨hc.1.1.1.1, hc.1.1.1.2, hc.1.1.2, hc.1.2, hc.2⟩
theorem kI_of {s : ByteArray} {N : Int} (h : numAt s 0 = N) (hz : 8 ≤ s.size) (h1 : 1 ≤ N) (h4 : N ≤ 4) : kI s = N.toNat := by
  have v0 : valI s 0 = N := by rw [← h]; exact valI_in (i := 0) hz
  unfold kI; rw [v0]; omega
theorem cI_of {s : ByteArray} {N : Int} (h : numAt s (8 * kI s + 24) = N) (hz : 8 * (kI s + 4) ≤ s.size) (h1 : 1 ≤ N) (h4 : N ≤ 6000) : cI s = N.toNat := by
  have v0 : valI s (3 + kI s) = N := by
    have := valI_in (s := s) (i := 3 + kI s) (by omega)
    rw [show 8 * (3 + kI s) = 8 * kI s + 24 by omega] at this
    rw [this, h]
  unfold cI; rw [v0]; omega
/-- Where the conditions hold: what the two counts are, and that all is there. -/
theorem cond_has {s : ByteArray} (hc : condS s = true) : numAt s 0 = ((kI s : Nat) : Int) ∧ 1 ≤ kI s ∧ numAt s (8 * kI s + 24) = ((cI s : Nat) : Int) ∧ 1 ≤ cI s ∧ s.size / 8 = kI s + 5 + 5 * cI s := by
  obtain ⟨h1, h2, h3, h4, h5⟩ := cond_parts hc
  obtain ⟨N, hN⟩ : ∃ N, numAt s 0 = N := ⟨_, rfl⟩
  rw [hN] at h2 h3 h4 h5
  have hk := kI_of hN (by omega) h2.1 h2.2
  rw [← hk] at h4 h5
  obtain ⟨M, hM⟩ : ∃ M, numAt s (8 * kI s + 24) = M := ⟨_, rfl⟩
  rw [hM] at h4 h5
  have hc2 := cI_of hM (by omega) h4.1 h4.2
  rw [hN, hM]
  clear hN hM hc
  generalize kI s = a at *
  generalize cI s = b at *
  omega
end Go.Proofs.YtehccknppnmbkaaDoor
