/- Plain lists: blanks behind a text change none of its words; the words' lines do not fall. -/
import Derived.Test.YtjgiohhfhncepaaDoorLexPlain
import Derived.Test.YtjgiohhfhncepaaDoorReadPlain
namespace Go.Proofs.YtjgiohhfhncepaaDoor

def blanks : List UInt8 := [32, 10, 32]
theorem nlen_app (l : List UInt8) : nlen (l ++ blanks) = nlen l := by
  induction l with
  | nil => decide
  | cons c l ih => rw [List.cons_append, nlen_cons, nlen_cons, ih]
theorem dgl_app (l : List UInt8) : dgl (l ++ blanks) = dgl l := by
  induction l with
  | nil => decide
  | cons c l ih => rw [List.cons_append, dgl_cons, dgl_cons, ih]
theorem two_app {l : List UInt8} (hne : l ≠ []) : ((l ++ blanks).take 2 = [61, 61]) ↔ (l.take 2 = [61, 61]) := by
  match l, hne with
  | [c], _ => simp [blanks]
  | c :: d :: r, _ => simp
theorem nextL_app {l : List UInt8} (hne : l ≠ []) : nextL (l ++ blanks) = nextL l := by
  have hh : (l ++ blanks).headD 0 = l.headD 0 := by cases l with | nil => exact absurd rfl hne | cons c r => rfl
  have h1 : (l ++ blanks).take (nlen l) = l.take (nlen l) := List.take_append_of_le_length (nlen_le l)
  have h2 : (l ++ blanks).take (dgl l) = l.take (dgl l) := List.take_append_of_le_length (dgl_le l)
  unfold nextL nameTok numTok signTok
  rw [hh, nlen_app, dgl_app, h1, h2]
  by_cases ht : l.take 2 = [61, 61]
  · rw [if_pos ht, if_pos ((two_app hne).2 ht)]
  · rw [if_neg ht, if_neg (fun e => ht ((two_app hne).1 e))]
theorem lexF_app : ∀ (f : Nat) (l : List UInt8) (line : Nat) (acc ts : List (Tk × Nat)) (f2 : Nat), 1 ≤ line → l.length < f → l.length + 3 < f2 → lexF f l line acc = (ts, 0) → lexF f2 (l ++ blanks) line acc = (ts, 0)
  | 0, l, line, acc, ts, f2, _, h, _, _ => by omega
  | f + 1, [], line, acc, ts, f2, _, _, h2, he => by
    obtain ⟨k, rfl⟩ : ∃ k, f2 = k + 4 := ⟨f2 - 4, by simp at h2; omega⟩
    simp only [lexF, Prod.mk.injEq, and_true] at he
    subst he
    simp [blanks, lexF]
  | f + 1, c :: r, line, acc, ts, f2, hl, h, h2, he => by
    obtain ⟨k, rfl⟩ : ∃ k, f2 = k + 1 := ⟨f2 - 1, by simp at h2; omega⟩
    have hr : r.length < f := by simp at h; omega
    have hr2 : r.length + 3 < k := by simp at h2; omega
    rw [lexF] at he
    rw [List.cons_append, lexF]
    split at he
    · rename_i hc; rw [if_pos hc]; exact lexF_app f r line acc ts k hl hr hr2 he
    · rename_i hc
      rw [if_neg hc]
      split at he
      · rename_i hc2; rw [if_pos hc2]; exact lexF_app f r (line + 1) acc ts k (by omega) hr hr2 he
      · rename_i hc2
        rw [if_neg hc2, ← List.cons_append, nextL_app (by simp)]
        split at he
        · simp only [Prod.mk.injEq] at he; omega
        · rename_i tk hn
          have hbd := nextL_bd (by simp) hn
          rw [List.drop_append_of_le_length hbd.2]
          refine lexF_app f _ line _ ts k hl ?_ ?_ he
          · rw [List.length_drop]; simp at h ⊢; omega
          · rw [List.length_drop]; simp at h2 ⊢; omega
theorem lexL_app {l : List UInt8} {ts : List (Tk × Nat)} (h : lexL l = (ts, 0)) (hl : l.length ≤ 2997) : lexL (l ++ blanks) = (ts, 0) := by
  unfold lexL at h ⊢
  rw [if_neg (by omega)] at h
  rw [if_neg (by simp [blanks]; omega)]
  exact lexF_app _ l 1 [] ts _ (Nat.le_refl _) (by omega) (by simp [blanks]) h
/-- A text that is none has no words. -/
theorem lexF_zero : ∀ (f : Nat) (l : List UInt8) (line : Nat) (acc : List (Tk × Nat)), (lexF f l line acc).2 ≠ 0 → (lexF f l line acc).1 = []
  | 0, l, line, acc, h => by simp [lexF] at h
  | f + 1, [], line, acc, h => by simp [lexF] at h
  | f + 1, c :: r, line, acc, h => by
    rw [lexF] at h ⊢
    split at h
    · rename_i hc; rw [if_pos hc]; exact lexF_zero f r line acc h
    · rename_i hc
      rw [if_neg hc]
      split at h
      · rename_i hc2; rw [if_pos hc2]; exact lexF_zero f r (line + 1) acc h
      · rename_i hc2
        rw [if_neg hc2]
        split at h
        · rfl
        · exact lexF_zero f _ line _ h
theorem lexL_zero (l : List UInt8) (h : (lexL l).2 ≠ 0) : (lexL l).1 = [] := by
  unfold lexL at h ⊢
  split
  · rfl
  · rename_i hc; rw [if_neg hc] at h; exact lexF_zero _ _ _ _ h
/-- The lines do not fall. -/
def Mono (ts : List (Tk × Nat)) : Prop := ∀ (i : Nat) (h : i + 1 < ts.length), ts[i].2 ≤ ts[i + 1].2
theorem Mono.snoc {ts : List (Tk × Nat)} (h : Mono ts) {tk : Tk} {line : Nat} (hl : ∀ x ∈ ts, x.2 ≤ line) : Mono (ts ++ [(tk, line)]) := fun i hi => by
  simp at hi
  by_cases e : i + 1 < ts.length
  · rw [List.getElem_append_left (by omega), List.getElem_append_left e]; exact h i e
  · rw [List.getElem_append_left (by omega), List.getElem_append_right (by omega)]
    have : i + 1 - ts.length = 0 := by omega
    simp [this]
    exact hl _ (List.getElem_mem (by omega))
theorem lexF_mono : ∀ (f : Nat) (l : List UInt8) (line : Nat) (acc : List (Tk × Nat)), Mono acc → (∀ x ∈ acc, x.2 ≤ line) → Mono (lexF f l line acc).1
  | 0, l, line, acc, h, _ => by simpa [lexF] using h
  | f + 1, [], line, acc, h, _ => by simpa [lexF] using h
  | f + 1, c :: r, line, acc, h, hx => by
    rw [lexF]
    split
    · exact lexF_mono f r line acc h hx
    · split
      · exact lexF_mono f r (line + 1) acc h (fun x hm => by have := hx x hm; omega)
      · split
        · intro i hi; simp at hi
        · refine lexF_mono f _ line _ (h.snoc hx) ?_
          intro x hm
          rcases List.mem_append.1 hm with hm | hm
          · exact hx x hm
          · simp only [List.mem_singleton] at hm; rw [hm]; exact Nat.le_refl _
theorem lexL_mono (l : List UInt8) : Mono (lexL l).1 := by
  unfold lexL
  split
  · intro i hi; simp at hi
  · exact lexF_mono _ _ _ _ (fun i hi => by simp at hi) (by simp)
theorem name_no_word (l : List UInt8) (h : isWordL l = true) : nameL l = false := by unfold nameL; rw [h]; simp
theorem read_back (l : List UInt8) (h : (readR l).2 = true) : Lib.itoa (readR l).1 = l := by
  unfold readR at h ⊢
  cases ha : Lib.atoi l with
  | none => rw [ha] at h; simp at h
  | some n =>
    rw [ha] at h
    simp only at h ⊢
    split at h
    · rename_i hc; rw [if_pos hc]; exact hc.2.2
    · simp at h
theorem lexF_len2 : ∀ (f : Nat) (l : List UInt8) (line : Nat) (acc : List (Tk × Nat)), (lexF f l line acc).1.length ≤ acc.length + f
  | 0, l, line, acc => by simp [lexF]
  | f + 1, [], line, acc => by simp [lexF]
  | f + 1, c :: r, line, acc => by
    rw [lexF]
    split
    · have := lexF_len2 f r line acc; omega
    · split
      · have := lexF_len2 f r (line + 1) acc; omega
      · split
        · simp
        · rename_i tk _
          have := lexF_len2 f ((c :: r).drop tk.len) line (acc ++ [(tk, line)])
          simp at this; simp; omega
theorem lexL_len2 (l : List UInt8) : (lexL l).1.length ≤ 3001 := by
  unfold lexL
  split
  · simp
  · have := lexF_len2 (l.length + 1) l 1 []
    simp at this; omega
end Go.Proofs.YtjgiohhfhncepaaDoor
