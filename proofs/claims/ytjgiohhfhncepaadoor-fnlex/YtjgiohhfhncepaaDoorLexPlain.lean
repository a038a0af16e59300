/- Plain lists: a text as its words. -/
import Derived.Test.YtjgiohhfhncepaaDoorPlain
namespace Go.Proofs.YtjgiohhfhncepaaDoor

/-- A word: its kind, its text, its number, how many bytes it takes. -/
structure Tk where
  k : Nat
  t : List UInt8
  n : Nat
  len : Nat
def dg (c : UInt8) : Bool := digB c.toNat
/-- How many digits a text begins with. -/
def dgl (l : List UInt8) : Nat := (l.takeWhile dg).length
def numL (l : List UInt8) : Nat := l.foldl (fun a c => 10 * a + (c.toNat - 48)) 0
def signL (c : UInt8) : Bool := [40, 41, 123, 125, 91, 93, 44, 59, 61, 60, 43, 45, 42, 38].contains c
def nameTok (l : List UInt8) : Option Tk := if isWordL (l.take (nlen l)) then some ⟨2, l.take (nlen l), 0, nlen l⟩ else if nameL (l.take (nlen l)) then some ⟨0, l.take (nlen l), 0, nlen l⟩ else none
def numTok (l : List UInt8) : Option Tk := if dgl l ≤ 9 then some ⟨1, [], numL (l.take (dgl l)), dgl l⟩ else none
def signTok (l : List UInt8) : Option Tk := if l.take 2 = [61, 61] then some ⟨2, [61, 61], 0, 2⟩ else if signL (l.headD 0) then some ⟨2, [l.headD 0], 0, 1⟩ else none
def nextL (l : List UInt8) : Option Tk := if letB (l.headD 0).toNat then nameTok l else if digB (l.headD 0).toNat then numTok l else signTok l

theorem dgl_cons (c : UInt8) (l : List UInt8) : dgl (c :: l) = if dg c = true then dgl l + 1 else 0 := by
  unfold dgl; rw [List.takeWhile_cons]; split <;> simp
theorem dgl_le (l : List UInt8) : dgl l ≤ l.length := by
  induction l with
  | nil => simp [dgl]
  | cons c l ih => rw [dgl_cons]; split <;> simp; omega
theorem nlen_pos {l : List UInt8} (hne : l ≠ []) (h : letB (l.headD 0).toNat = true) : 1 ≤ nlen l := by
  cases l with
  | nil => exact absurd rfl hne
  | cons c l => rw [nlen_cons, if_pos (by simp only [List.headD_cons] at h; simp [an, h])]; omega
theorem dgl_pos {l : List UInt8} (hne : l ≠ []) (h : digB (l.headD 0).toNat = true) : 1 ≤ dgl l := by
  cases l with
  | nil => exact absurd rfl hne
  | cons c l => rw [dgl_cons, if_pos (by simpa [dg] using h)]; omega
theorem nextL_bd {l : List UInt8} {tk : Tk} (hne : l ≠ []) (h : nextL l = some tk) : 1 ≤ tk.len ∧ tk.len ≤ l.length := by
  unfold nextL at h
  split at h
  · rename_i hl
    have h1 := nlen_pos hne hl
    have h2 := nlen_le l
    unfold nameTok at h
    split at h
    · cases h; exact ⟨h1, h2⟩
    · split at h
      · cases h; exact ⟨h1, h2⟩
      · cases h
  · split at h
    · rename_i hd
      have h1 := dgl_pos hne hd
      have h2 := dgl_le l
      unfold numTok at h
      split at h
      · cases h; exact ⟨h1, h2⟩
      · cases h
    · unfold signTok at h
      split at h
      · rename_i ht
        cases h
        have := congrArg List.length ht
        rw [List.length_take] at this
        simp at this
        exact ⟨by decide, by show 2 ≤ _; omega⟩
      · split at h
        · cases h
          refine ⟨Nat.le_refl 1, ?_⟩
          cases l with
          | nil => exact absurd rfl hne
          | cons c l => simp
        · cases h
/-- The words that are left, each with its line; the line of the first byte that begins none. -/
def lexF : Nat → List UInt8 → Nat → List (Tk × Nat) → List (Tk × Nat) × Nat
  | 0, _, _, acc => (acc, 0)
  | _ + 1, [], _, acc => (acc, 0)
  | f + 1, c :: r, line, acc =>
    if c = 32 then lexF f r line acc
    else if c = 10 then lexF f r (line + 1) acc
    else match nextL (c :: r) with
      | none => ([], line)
      | some tk => lexF f ((c :: r).drop tk.len) line (acc ++ [(tk, line)])
def lexL (l : List UInt8) : List (Tk × Nat) × Nat := if 3000 < l.length then ([], 1) else lexF (l.length + 1) l 1 []
theorem drop_byte (s : ByteArray) (i : Nat) (h : i < s.size) : ∃ r, s.data.toList.drop i = s[i] :: r ∧ r = s.data.toList.drop (i + 1) := ⟨_, drop_cons s i h, rfl⟩
/-- What the loop of Lex keeps. -/
def LInv (s : ByteArray) (i line : Nat) (acc : List (Tk × Nat)) : Prop := ∃ f, s.size - i < f ∧ lexL s.data.toList = lexF f (s.data.toList.drop i) line acc
theorem LInv.start (s : ByteArray) (h : s.size ≤ 3000) : LInv s 0 1 [] := by
  refine ⟨s.data.toList.length + 1, by rw [dlen]; omega, ?_⟩
  unfold lexL; rw [if_neg (by rw [dlen]; omega), List.drop_zero]
theorem LInv.blank {s : ByteArray} {i line : Nat} {acc : List (Tk × Nat)} (h : LInv s i line acc) (hi : i < s.size) (hb : s[i] = 32) : LInv s (i + 1) line acc := by
  obtain ⟨f, hf, he⟩ := h
  cases f with
  | zero => omega
  | succ f =>
    refine ⟨f, by omega, ?_⟩
    rw [he, drop_cons s i hi, hb]; simp [lexF]
theorem LInv.newline {s : ByteArray} {i line : Nat} {acc : List (Tk × Nat)} (h : LInv s i line acc) (hi : i < s.size) (hb : s[i] = 10) : LInv s (i + 1) (line + 1) acc := by
  obtain ⟨f, hf, he⟩ := h
  cases f with
  | zero => omega
  | succ f =>
    refine ⟨f, by omega, ?_⟩
    rw [he, drop_cons s i hi, hb]; simp [lexF]
theorem LInv.word {s : ByteArray} {i line : Nat} {acc : List (Tk × Nat)} {tk : Tk} (h : LInv s i line acc) (hi : i < s.size) (h1 : s[i] ≠ 32) (h2 : s[i] ≠ 10) (hn : nextL (s.data.toList.drop i) = some tk) : LInv s (i + tk.len) line (acc ++ [(tk, line)]) := by
  obtain ⟨f, hf, he⟩ := h
  have hbd := nextL_bd (by rw [drop_cons s i hi]; simp) hn
  cases f with
  | zero => omega
  | succ f =>
    refine ⟨f, by omega, ?_⟩
    rw [← List.drop_drop, he]
    rw [drop_cons s i hi] at hn ⊢
    rw [lexF, if_neg h1, if_neg h2, hn]
theorem LInv.bad {s : ByteArray} {i line : Nat} {acc : List (Tk × Nat)} (h : LInv s i line acc) (hi : i < s.size) (h1 : s[i] ≠ 32) (h2 : s[i] ≠ 10) (hn : nextL (s.data.toList.drop i) = none) : lexL s.data.toList = ([], line) := by
  obtain ⟨f, hf, he⟩ := h
  cases f with
  | zero => omega
  | succ f =>
    rw [he]
    rw [drop_cons s i hi] at hn ⊢
    rw [lexF, if_neg h1, if_neg h2, hn]
theorem LInv.done {s : ByteArray} {i line : Nat} {acc : List (Tk × Nat)} (h : LInv s i line acc) (hi : s.size ≤ i) : lexL s.data.toList = (acc, 0) := by
  obtain ⟨f, hf, he⟩ := h
  rw [he, List.drop_of_length_le (by rw [dlen]; exact hi)]
  cases f <;> rfl
/-! Numbers and signs -/
theorem dgl_step (s : ByteArray) (i k : Nat) (hk : i ≤ k) (h : k < s.size) (ha : digB s[k].toNat = true) (hd : dgl (s.data.toList.drop i) = (k - i) + dgl (s.data.toList.drop k)) : dgl (s.data.toList.drop i) = (k + 1 - i) + dgl (s.data.toList.drop (k + 1)) := by
  rw [hd, drop_cons s k h, dgl_cons, if_pos (show dg s[k] = true from ha)]; omega
theorem dgl_stop (s : ByteArray) (i k : Nat) (h : k < s.size) (ha : digB s[k].toNat = false) (hd : dgl (s.data.toList.drop i) = (k - i) + dgl (s.data.toList.drop k)) : dgl (s.data.toList.drop i) = k - i := by
  rw [hd, drop_cons s k h, dgl_cons, if_neg (by unfold dg; rw [ha]; simp)]; omega
theorem dgl_end (s : ByteArray) (i k : Nat) (h : s.size ≤ k) (hd : dgl (s.data.toList.drop i) = (k - i) + dgl (s.data.toList.drop k)) : dgl (s.data.toList.drop i) = k - i := by
  rw [hd, List.drop_of_length_le (by rw [dlen]; exact h)]; simp [dgl]
theorem numL_snoc (l : List UInt8) (c : UInt8) : numL (l ++ [c]) = 10 * numL l + (c.toNat - 48) := by unfold numL; rw [List.foldl_append]; rfl
theorem take_drop_snoc (s : ByteArray) (i k : Nat) (hk : i ≤ k) (h : k < s.size) : (s.data.toList.drop i).take (k + 1 - i) = (s.data.toList.drop i).take (k - i) ++ [s[k]] := by
  have e : s.data.toList.take (k + 1) = s.data.toList.take k ++ [s[k]] := by
    rw [List.take_succ_eq_append_getElem (by simpa using h)]; rfl
  have hl : (s.data.toList.take k).length = k := by rw [List.length_take, dlen]; omega
  rw [← List.drop_take, ← List.drop_take, e, List.drop_append_of_le_length (by rw [hl]; exact hk)]
theorem num_step (s : ByteArray) (i k v : Nat) (hk : i ≤ k) (h : k < s.size) (hv : v = numL ((s.data.toList.drop i).take (k - i))) : v * 10 + (s[k].toNat - 48) = numL ((s.data.toList.drop i).take (k + 1 - i)) := by
  rw [take_drop_snoc s i k hk h, numL_snoc, hv]; omega
theorem num_some {l : List UInt8} {d v : Nat} (hd : dgl l = d) (h9 : d ≤ 9) (hv : v = numL (l.take d)) : numTok l = some ⟨1, [], v, d⟩ := by
  subst hd; subst hv; unfold numTok; rw [if_pos h9]
theorem num_none {l : List UInt8} (h9 : 9 < dgl l) : numTok l = none := by unfold numTok; rw [if_neg (by omega)]
def theSigns : List ByteArray := [wd [40], wd [41], wd [123], wd [125], wd [91], wd [93], wd [44], wd [59], wd [61], wd [60], wd [43], wd [45], wd [42], wd [38]]
theorem head_drop (s : ByteArray) (i : Nat) (h : i < s.size) : (s.data.toList.drop i).headD 0 = s[i] := by rw [drop_cons s i h]; rfl
theorem extract_one (s : ByteArray) (i : Nat) (h : i < s.size) : s.extract i (i + 1) = wd [s[i]] := by
  apply ByteArray.ext; apply Array.ext'
  rw [Lib.extract_data, drop_cons s i h]
  have : i + 1 - i = 1 := by omega
  rw [this]; rfl
theorem single_beq (c d : UInt8) : ([c] == [d]) = (c == d) := by
  by_cases h : c = d
  · subst h; simp
  · have h1 : ([c] == [d]) = false := by simp [h]
    rw [h1]; symm; simpa using h
theorem hasB_signs (c : UInt8) : hasB theSigns (wd [c]) = signL c := by
  unfold theSigns signL
  simp only [hasB_cons, hasB_nil, wd_toList, single_beq, List.contains_cons, List.contains_nil]
theorem sign_two {l : List UInt8} (h : l.take 2 = [61, 61]) : signTok l = some ⟨2, [61, 61], 0, 2⟩ := by unfold signTok; rw [if_pos h]
theorem sign_one {l : List UInt8} {c : UInt8} (h : l.take 2 ≠ [61, 61]) (hc : l.headD 0 = c) (hs : signL c = true) : signTok l = some ⟨2, [c], 0, 1⟩ := by subst hc; unfold signTok; rw [if_neg h, if_pos hs]
theorem sign_none {l : List UInt8} {c : UInt8} (h : l.take 2 ≠ [61, 61]) (hc : l.headD 0 = c) (hs : signL c = false) : signTok l = none := by subst hc; unfold signTok; rw [if_neg h, if_neg (by rw [hs]; simp)]
end Go.Proofs.YtjgiohhfhncepaaDoor
