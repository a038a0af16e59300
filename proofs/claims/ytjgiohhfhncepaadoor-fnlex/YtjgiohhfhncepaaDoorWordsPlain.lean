/- Plain lists: a text cut at its blanks; the texts that the laws write into a list. -/
import Derived.Test.YtjgiohhfhncepaaDoorPlain
import Derived.Test.YtjgiohhfhncepaaDoorDecPlain
import Derived.Lib.Split
import Derived.Lib.IndexBytes
namespace Go.Proofs.YtjgiohhfhncepaaDoor

def wordsL : List UInt8 → List (List UInt8)
  | [] => [[]]
  | c :: r => if c = 32 then [] :: wordsL r else match wordsL r with
    | [] => [[c]]
    | h :: t => (c :: h) :: t
theorem wordsL_ne (l : List UInt8) : wordsL l ≠ [] := by
  cases l with
  | nil => simp [wordsL]
  | cons c r => unfold wordsL; split; · simp
                split <;> simp
/-- Something put ahead of the first piece. -/
def ahead (p : List UInt8) : List (List UInt8) → List (List UInt8)
  | [] => [p]
  | h :: t => (p ++ h) :: t
theorem wordsL_blank (r : List UInt8) : wordsL (32 :: r) = [] :: wordsL r := by simp [wordsL]
theorem wordsL_other (c : UInt8) (r : List UInt8) (h : c ≠ 32) : wordsL (c :: r) = ahead [c] (wordsL r) := by
  rw [wordsL, if_neg h]; cases wordsL r <;> rfl
theorem ahead_ahead (p q : List UInt8) (x : List (List UInt8)) : ahead p (ahead q x) = ahead (p ++ q) x := by
  cases x <;> simp [ahead]
theorem wordsL_pre (p r : List UInt8) (h : (32 : UInt8) ∉ p) : wordsL (p ++ 32 :: r) = p :: wordsL r := by
  induction p with
  | nil => exact wordsL_blank r
  | cons c p ih =>
    rw [List.cons_append, wordsL_other c _ (fun e => h (by rw [e]; exact List.mem_cons_self)), ih (fun hm => h (List.mem_cons_of_mem _ hm))]
    rfl
theorem wordsL_none (l : List UInt8) (h : (32 : UInt8) ∉ l) : wordsL l = [l] := by
  induction l with
  | nil => rfl
  | cons c p ih =>
    rw [wordsL_other c _ (fun e => h (by rw [e]; exact List.mem_cons_self)), ih (fun hm => h (List.mem_cons_of_mem _ hm))]
    rfl
theorem index_cases (l : List UInt8) : (Lib.index l [32] = -1 ∧ (32 : UInt8) ∉ l) ∨ ∃ p r, l = p ++ 32 :: r ∧ (32 : UInt8) ∉ p ∧ Lib.index l [32] = p.length := by
  induction l with
  | nil => left; exact ⟨rfl, by simp⟩
  | cons b l ih =>
    by_cases hb : b = 32
    · right; subst hb; exact ⟨[], l, rfl, by simp, by simp [Lib.index]⟩
    · have hp : List.isPrefixOf [32] (b :: l) = false := by simp [List.isPrefixOf, Ne.symm hb]
      rcases ih with ⟨h1, h2⟩ | ⟨p, r, h1, h2, h3⟩
      · left
        refine ⟨?_, by simp [h2, Ne.symm hb]⟩
        unfold Lib.index; rw [hp, h1]; rfl
      · right
        refine ⟨b :: p, r, by rw [h1]; rfl, by simp [h2, Ne.symm hb], ?_⟩
        unfold Lib.index
        rw [hp, h3]
        have : ((p.length : Int) == -1) = false := by rw [beq_eq_false_iff_ne]; omega
        simp only [this, Bool.false_eq_true, if_false, List.length_cons]; omega
theorem splitK_words : ∀ (k : Nat) (l : List UInt8), l.count 32 ≤ k → Lib.splitK [32] 0 k l = wordsL l
  | 0, l, h => by
    have : (32 : UInt8) ∉ l := by rw [← List.count_eq_zero]; omega
    rw [wordsL_none l this]; rfl
  | k + 1, l, h => by
    unfold Lib.splitK
    rcases index_cases l with ⟨h1, h2⟩ | ⟨p, r, h1, h2, h3⟩
    · rw [h1, wordsL_none l h2]; rfl
    · have hi : (Lib.index l [32] == -1) = false := by rw [h3, beq_eq_false_iff_ne]; omega
      rw [hi, h3]
      subst h1
      have hc : r.count 32 ≤ k := by rw [List.count_append, List.count_cons_self] at h; omega
      simp only [Bool.false_eq_true, if_false, Int.toNat_natCast, Nat.add_zero, List.length_singleton]
      rw [wordsL_pre p r h2, ← splitK_words k r hc]
      congr 1
      · simp
      · simp
theorem countFrom_words : ∀ (k : Nat) (l : List UInt8), l.length < k → Lib.countFrom [32] k l = l.count 32
  | 0, l, h => by omega
  | k + 1, l, h => by
    unfold Lib.countFrom
    rcases index_cases l with ⟨h1, h2⟩ | ⟨p, r, h1, h2, h3⟩
    · rw [h1, List.count_eq_zero.2 h2]; rfl
    · have hi : (Lib.index l [32] == -1) = false := by rw [h3, beq_eq_false_iff_ne]; omega
      rw [hi, h3]
      subst h1
      have hl : r.length < k := by simp at h; omega
      have ed : (p ++ 32 :: r).drop (p.length + 1) = r := by simp
      simp only [Bool.false_eq_true, if_false, Int.toNat_natCast, List.length_singleton]
      rw [ed, countFrom_words k r hl, List.count_append, List.count_cons_self, List.count_eq_zero.2 h2]; omega
theorem count_words (l : List UInt8) : Lib.count l [32] = l.count 32 := countFrom_words _ l (by omega)
theorem wordsL_length (l : List UInt8) : (wordsL l).length ≤ l.length + 1 := by
  induction l with
  | nil => simp [wordsL]
  | cons c r ih =>
    by_cases h : c = 32
    · subst h; rw [wordsL_blank]; simp; omega
    · rw [wordsL_other c r h]
      cases hw : wordsL r with
      | nil => exact absurd hw (wordsL_ne r)
      | cons a t => rw [hw] at ih; simp [ahead] at *; omega
theorem splitB_words (s : ByteArray) : (Lib.splitB (wd [32]) 0 (Lib.countB s (wd [32])) s).map (·.data.toList) = wordsL s.data.toList := by
  rw [Lib.splitB_data]
  exact splitK_words _ _ (by show _ ≤ Lib.count _ _; rw [show (wd [32]).data.toList = [32] from rfl, count_words]; exact Nat.le_refl _)
theorem bytes_inj : ∀ {a b : List ByteArray}, a.map (·.data.toList) = b.map (·.data.toList) → a = b
  | [], [], _ => rfl
  | [], _ :: _, h => by simp at h
  | _ :: _, [], h => by simp at h
  | x :: a, y :: b, h => by
    simp only [List.map_cons, List.cons.injEq] at h
    rw [bytes_inj h.2, show x = y from ByteArray.ext (Array.ext' h.1)]
/-- The texts that the laws write: m and a number. -/
def markS (k : Nat) : ByteArray := ⟨(109 :: dd k).toArray⟩
theorem digit_app (d : Nat) (l : List UInt8) : ((⟨#[48 + UInt8.ofNat d]⟩ : ByteArray) ++ ⟨l.toArray⟩ : ByteArray) = ⟨(UInt8.ofNat (48 + d) :: l).toArray⟩ := by
  have e : (48 : UInt8) + UInt8.ofNat d = UInt8.ofNat (48 + d) := by rw [UInt8.ofNat_add]; rfl
  rw [e]; apply ByteArray.ext; apply Array.ext'; rw [ByteArray.data_append, Array.toList_append]; simp
theorem mark_app (l : List UInt8) : ((⟨#[109]⟩ : ByteArray) ++ ⟨l.toArray⟩ : ByteArray) = ⟨(109 :: l).toArray⟩ := by
  apply ByteArray.ext; apply Array.ext'; rw [ByteArray.data_append, Array.toList_append]; simp
/-- So far: the pieces ps, and the bytes from f to k of the next one. -/
def WInv (s : ByteArray) (ps : List ByteArray) (f k : Nat) : Prop := wordsL s.data.toList = ps.map (fun b : ByteArray => b.data.toList) ++ ahead ((s.data.toList.take k).drop f) (wordsL (s.data.toList.drop k))
theorem ahead_nil {x : List (List UInt8)} (h : x ≠ []) : ahead [] x = x := by cases x with | nil => exact absurd rfl h | cons a t => simp [ahead]
theorem WInv.start (s : ByteArray) : WInv s [] 0 0 := by simp [WInv, ahead_nil (wordsL_ne _)]
theorem take_snoc (s : ByteArray) (k : Nat) (h : k < s.size) : s.data.toList.take (k + 1) = s.data.toList.take k ++ [s[k]] := by
  rw [List.take_succ_eq_append_getElem (by simpa using h)]; rfl
theorem WInv.hit {s : ByteArray} {ps : List ByteArray} {f k : Nat} (h : WInv s ps f k) (hk : k < s.size) (hb : s[k] = 32) : WInv s (ps ++ [s.extract f k]) (k + 1) (k + 1) := by
  unfold WInv at *
  have e1 : (s.data.toList.take (k + 1)).drop (k + 1) = [] := by
    apply List.drop_eq_nil_of_le; rw [List.length_take]; omega
  have e2 : (s.extract f k).data.toList = (s.data.toList.take k).drop f := by rw [Lib.extract_data, List.drop_take]
  rw [h, drop_cons s k hk, hb, wordsL_blank, e1, ahead_nil (wordsL_ne _), List.map_append, List.map_cons, List.map_nil, e2]
  simp only [ahead, List.append_nil, List.append_assoc, List.cons_append, List.nil_append]
theorem WInv.miss {s : ByteArray} {ps : List ByteArray} {f k : Nat} (h : WInv s ps f k) (hf : f ≤ k) (hk : k < s.size) (hb : s[k] ≠ 32) : WInv s ps f (k + 1) := by
  unfold WInv at *
  have hl : (s.data.toList.take k).length = k := by rw [List.length_take, dlen]; omega
  have e1 : (s.data.toList.take (k + 1)).drop f = (s.data.toList.take k).drop f ++ [s[k]] := by
    rw [take_snoc s k hk, List.drop_append_of_le_length (by rw [hl]; exact hf)]
  rw [h, drop_cons s k hk, wordsL_other _ _ hb, ahead_ahead, e1]
theorem WInv.done {s : ByteArray} {ps : List ByteArray} {f k : Nat} (h : WInv s ps f k) (hk : s.size ≤ k) : (ps ++ [s.extract f s.size]).map (fun b : ByteArray => b.data.toList) = wordsL s.data.toList := by
  unfold WInv at h
  have e2 : (s.extract f s.size).data.toList = (s.data.toList.take k).drop f := by
    rw [Lib.extract_data, List.take_of_length_le (by rw [List.length_drop, dlen]; omega), List.take_of_length_le (by rw [dlen]; exact hk)]
  have e3 : s.data.toList.drop k = [] := List.drop_of_length_le (by rw [dlen]; exact hk)
  rw [h, e3, List.map_append, List.map_cons, List.map_nil, e2]
  simp only [ahead, wordsL, List.append_nil]
end Go.Proofs.YtjgiohhfhncepaaDoor
