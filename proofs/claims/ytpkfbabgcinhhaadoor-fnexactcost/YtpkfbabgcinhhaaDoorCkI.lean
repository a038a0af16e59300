/- The contract of spec.l14Word: each word that is one of an image. -/
import Derived.Test.YtpkfbabgcinhhaaDoorMcW1
import Derived.Test.YtpkfbabgcinhhaaDoorMcW2
import Derived.Test.YtpkfbabgcinhhaaDoorMcW3
import Derived.Test.YtpkfbabgcinhhaaDoorMcW4
import Derived.Test.YtpkfbabgcinhhaaDoorCkB
namespace Go.Proofs.YtpkfbabgcinhhaaDoor
open Go.ChangeShapes Go.WideShapes Go.ChangeAt Go.RowKit
theorem wrd_rest {ns sl nc : Int} {x : Wrd} (h : wrdOk ns sl nc x = true) : (belI x.r 16 = true ∧ belI x.a 16 = true) ∧ belI x.b 16 = true := by
  unfold wrdOk at h
  simp only [Bool.and_eq_true] at h
  exact h.1
theorem wrd_nsl {ns sl nc : Int} {x : Wrd} (h : wrdOk ns sl nc x = true) (ho : x.op = 1 ∨ x.op = 2) : belI x.n sl = true := by
  unfold wrdOk at h
  simp only [Bool.and_eq_true] at h
  have h2 := h.2
  rw [if_neg (by omega), if_pos ho] at h2
  simp only [Bool.and_eq_true] at h2
  exact h2.2
theorem wrd_n6 {ns sl nc : Int} {x : Wrd} (h : wrdOk ns sl nc x = true) (ho : x.op = 3) : belI x.n 6 = true := by
  unfold wrdOk at h
  simp only [Bool.and_eq_true] at h
  have h2 := h.2
  rw [if_neg (by omega), if_neg (by omega), if_pos ho] at h2
  exact h2
theorem wrd_nns {ns sl nc : Int} {x : Wrd} (h : wrdOk ns sl nc x = true) (ho : x.op = 4 ∨ x.op = 5) : belI x.n ns = true := by
  unfold wrdOk at h
  simp only [Bool.and_eq_true] at h
  have h2 := h.2
  rw [if_neg (by omega), if_neg (by omega), if_neg (by omega), if_pos ho] at h2
  simp only [Bool.and_eq_true] at h2
  exact h2.2
theorem wrd_op {ns sl nc : Int} {x : Wrd} (h : wrdOk ns sl nc x = true) : 0 ≤ x.op ∧ x.op ≤ 11 := by
  unfold wrdOk at h
  simp only [Bool.and_eq_true] at h
  have h2 := h.2
  by_cases h0 : 0 ≤ x.op ∧ x.op ≤ 11
  · exact h0
  · rw [if_neg (by omega), if_neg (by omega), if_neg (by omega), if_neg (by omega), if_neg (by omega), if_neg (by omega), if_neg (by omega), if_neg (by omega)] at h2
    cases h2
theorem word_any (x : Wrd) (L : Lay) (D : Nat) (ui : Option Addr) (ci : Nat) (vo : Value) (w : World) (s : Mch) (g : List Int) (h : MAt L D ui ci vo w s g) (hg : g.length = 16) (k : Int) (hk : 0 ≤ k ∧ k ≤ 6000) (hci : ci ≤ maxLen) (nc : Int)
    (hx : wrdOk (s.mem.length : Nat) (s.vars.length : Nat) nc x = true) (hcode : s.code = 0) (hvl : ∀ l ∈ s.mem, l.length ≤ 1000000) (hout : s.out.length ≤ 1000000) :
    Calls Tryd.prog 34 #[.pointer (some ⟨L.b, 0, none⟩), .slice (some ⟨L.r, 0, none⟩) 16 L.cr, .agg #[.int .i64 x.op, .int .i64 x.r, .int .i64 x.a, .int .i64 x.b, .int .i64 x.n], .int .i64 k] w fun en w' => WordRes L D ci w (wordM x k s g) en w' := by
  obtain ⟨⟨h1, h2⟩, h3⟩ := wrd_rest hx
  have h4 := wrd_op hx
  obtain ⟨r, hr, hr2⟩ := belI_nat h1
  obtain ⟨a, ha, ha2⟩ := belI_nat h2
  obtain ⟨b, hb, hb2⟩ := belI_nat h3
  have q1 := fun ho => wrd_nsl hx ho
  have q2 := fun ho => wrd_n6 hx ho
  have q3 := fun ho => wrd_nns hx ho
  obtain ⟨op, xr, xa, xb, n⟩ := x
  simp only at hr ha hb h4 q1 q2 q3 ⊢
  subst hr ha hb
  have r16 : r < 16 := by omega
  have a16 : a < 16 := by omega
  have b16 : b < 16 := by omega
  by_cases e0 : op = 0; · subst e0; exact word_0 L D ui ci vo w s g h hg r a b n k r16 a16 b16 hk
  by_cases e1 : op = 1
  · subst e1
    obtain ⟨v, rfl, hv⟩ := belI_nat (q1 (Or.inl rfl))
    exact word_1 L D ui ci vo w s g h hg r a b _ k r16 a16 b16 hk v (by omega) rfl
  by_cases e2 : op = 2
  · subst e2
    obtain ⟨v, rfl, hv⟩ := belI_nat (q1 (Or.inr rfl))
    exact word_2 L D ui ci vo w s g h hg r a b _ k r16 a16 b16 hk v (by omega) rfl
  by_cases e3 : op = 3
  · subst e3
    obtain ⟨v, rfl, hv⟩ := belI_nat (q2 rfl)
    exact word_3 L D ui ci vo w s g h hg r a b _ k r16 a16 b16 hk v (by omega) rfl
  by_cases e4 : op = 4
  · subst e4
    obtain ⟨v, rfl, hv⟩ := belI_nat (q3 (Or.inl rfl))
    exact word_4 L D ui ci vo w s g h hg r a b _ k r16 a16 b16 hk v (by omega) hvl hcode rfl
  by_cases e5 : op = 5
  · subst e5
    obtain ⟨v, rfl, hv⟩ := belI_nat (q3 (Or.inr rfl))
    exact word_5 L D ui ci vo w s g h hg r a b _ k r16 a16 b16 hk v (by omega) hvl hcode rfl
  by_cases e6 : op = 6; · subst e6; exact word_6 L D ui ci vo w s g h hg r a b n k r16 a16 b16 hk hci
  by_cases e7 : op = 7; · subst e7; exact word_7 L D ui ci vo w s g h hg r a b n k r16 a16 b16 hk hout
  by_cases e8 : op = 8; · subst e8; exact word_8 L D ui ci vo w s g h hg r a b n k r16 a16 b16
  by_cases e9 : op = 9; · subst e9; exact word_9 L D ui ci vo w s g h hg r a b n k r16 a16 b16 hk
  by_cases e11 : op = 11; · subst e11; exact word_11 L D ui ci vo w s g h hg r a b n k r16 a16 b16 hk
  obtain rfl : op = 10 := by omega
  exact word_10 L D ui ci vo w s g h hg r a b n k r16 a16 b16 hk
end Go.Proofs.YtpkfbabgcinhhaaDoor

/- What ImageOk gives, and her contract as later functions ask for it. -/
namespace Go.Proofs.YtpkfbabgcinhhaaDoor
open Go.ChangeShapes Go.WideShapes Go.ChangeAt Go.RowKit
theorem imgOk_few {m : Img} (h : imgOk m = true) : m.code.length ≤ 6000 ∧ 1 ≤ m.code.length := by
  unfold imgOk at h
  simp only [Bool.and_eq_true, decide_eq_true_eq] at h
  exact ⟨h.1.1.2.2, h.1.1.2.1⟩
theorem keepW {W W' : World} {b : Nat} {o : Obj} (h : W.heap[b]? = some o) (bel : Below W.heap.size W W') : W'.heap[b]? = some o := (bel.block b (Array.getElem?_eq_some_iff.1 h).1).trans h
/-- ImageOk's contract, as later functions ask for it. -/
def ImOk (f : Nat) (m : Img) : Prop := ∀ (W : World) (A : Nat) (v : Array Value), ImgIs W A v m → Calls Tryd.prog f #[.agg v] W fun en w' => en = .returned (.bool (imgOk m)) ∧ Below W.heap.size W w'
end Go.Proofs.YtpkfbabgcinhhaaDoor

/- A run of an image, as a function: with some fuel, a word behind a word. -/
namespace Go.Proofs.YtpkfbabgcinhhaaDoor
open Go.ChangeShapes Go.WideShapes Go.ChangeAt Go.RowKit
abbrev McT := Mch × List Int × Int
/-- What a run comes to: f is how much fuel there is. -/
def runM (code : List Wrd) : Nat → McT → Mch
  | 0, t => (burnM t.1).2
  | f + 1, t => if (burnM t.1).1 = true then runM code f (wordM (code.getD t.2.2.toNat default) t.2.2 (burnM t.1).2 t.2.1) else (burnM t.1).2
/-- What holds between two words of an image's run. -/
structure McOk (m : Img) (t : McT) : Prop where
  g16 : t.2.1.length = 16
  vlen : ((t.1.vars.length : Nat) : Int) = m.slots
  mlen : t.1.mem.length = m.sizes.length
  rows : ∀ l ∈ t.1.mem, l.length ≤ 1000000
  fuel : 0 ≤ t.1.fuel ∧ t.1.fuel ≤ 100000
  outl : (t.1.out.length : Int) + t.1.fuel ≤ 100000
  at' : t.1.code = 0 → t.1.over = false → 0 ≤ t.2.2 ∧ t.2.2 < ((m.code.length : Nat) : Int)
theorem burn_true {s : Mch} (h : (burnM s).1 = true) : s.code = 0 ∧ s.over = false ∧ s.fuel ≠ 0 ∧ (burnM s).2 = { s with fuel := s.fuel - 1 } := by
  unfold burnM at *
  by_cases h1 : s.code ≠ 0 ∨ s.over = true
  · rw [if_pos h1] at h; cases h
  · rw [if_neg h1] at h ⊢
    by_cases h2 : s.fuel = 0
    · rw [if_pos h2] at h; cases h
    · rw [if_neg h2]
      refine ⟨by omega, ?_, h2, rfl⟩
      cases ho : s.over with
      | false => rfl
      | true => exact absurd (Or.inr ho) h1
theorem imgOk_wrd {m : Img} (h : imgOk m = true) {x : Wrd} (hx : x ∈ m.code) : wrdOk (m.sizes.length : Nat) m.slots (m.code.length : Nat) x = true := by
  unfold imgOk at h
  simp only [Bool.and_eq_true, List.all_eq_true] at h
  exact h.1.2 x hx
theorem imgOk_end {m : Img} (h : imgOk m = true) {k : Nat} (hk : k + 1 = m.code.length) (hl : k < m.code.length) : m.code[k].op = 10 ∨ m.code[k].op = 8 := by
  unfold imgOk at h
  simp only [Bool.and_eq_true] at h
  have h2 := h.2
  unfold lastOk at h2
  rw [List.getLast?_eq_getElem?, show m.code.length - 1 = k by omega, List.getElem?_eq_getElem hl] at h2
  simp only [Bool.or_eq_true, beq_iff_eq] at h2
  exact h2
theorem wrd_aim {ns sl nc : Int} {x : Wrd} (h : wrdOk ns sl nc x = true) (ho : x.op = 8 ∨ x.op = 9) : 0 ≤ x.n ∧ x.n < nc := by
  unfold wrdOk at h
  simp only [Bool.and_eq_true] at h
  have h2 := h.2
  rcases ho with ho | ho
  · rw [if_neg (by omega), if_neg (by omega), if_neg (by omega), if_neg (by omega), if_neg (by omega), if_pos ho] at h2
    simp only [Bool.and_eq_true] at h2
    unfold belI at h2
    exact of_decide_eq_true h2.2
  · rw [if_neg (by omega), if_neg (by omega), if_neg (by omega), if_neg (by omega), if_neg (by omega), if_neg (by omega), if_pos ho] at h2
    simp only [Bool.and_eq_true] at h2
    unfold belI at h2
    exact of_decide_eq_true h2.2
theorem memS_rows {m : List (List Int)} {k i z : Int} (h : ∀ l ∈ m, l.length ≤ 1000000) : ∀ l ∈ memS m k i z, l.length ≤ 1000000 := fun l hl => by
  unfold memS at hl
  rcases List.mem_or_eq_of_mem_set hl with h1 | h1
  · exact h l h1
  · rw [h1, List.length_set]
    by_cases hk : k.toNat < m.length
    · rw [memD_at hk]; exact h _ (List.getElem_mem hk)
    · rw [List.getD_eq_getElem?_getD, List.getElem?_eq_none (by omega)]; exact Nat.zero_le _
set_option maxHeartbeats 1000000 in
/-- A word of an image keeps it. -/
theorem McOk.word {m : Img} (hm : imgOk m = true) {s : Mch} {g : List Int} {k : Int} (h : McOk m (s, g, k)) (hb : (burnM s).1 = true) :
    McOk m (wordM (m.code.getD k.toNat default) k (burnM s).2 g) ∧ (wordM (m.code.getD k.toNat default) k (burnM s).2 g).1.fuel = s.fuel - 1 := by
  obtain ⟨b1, b2, b3, b4⟩ := burn_true hb
  rw [b4]
  have hk := h.at' b1 b2
  simp only at hk
  obtain ⟨q, rfl⟩ : ∃ q : Nat, k = (q : Int) := ⟨k.toNat, by omega⟩
  have hq : q < m.code.length := by omega
  have hx := imgOk_wrd hm (List.getElem_mem hq)
  have e : m.code.getD (q : Int).toNat default = m.code[q] := by rw [Int.toNat_natCast, List.getD_eq_getElem?_getD, List.getElem?_eq_getElem hq]; rfl
  rw [e]
  have hend := fun hl : q + 1 = m.code.length => imgOk_end hm hl hq
  have haim := fun ho => wrd_aim hx ho
  clear hx e hb b4
  obtain ⟨g16, vlen, mlen, rows, fuel, outl, _⟩ := h
  generalize m.code[q] = x at *
  simp only at g16 vlen mlen rows fuel outl
  have nx : x.op ≠ 8 → x.op ≠ 10 → 0 ≤ (q : Int) + 1 ∧ (q : Int) + 1 < ((m.code.length : Nat) : Int) := fun h8 h10 => by
    by_cases hl : q + 1 = m.code.length
    · rcases hend hl with h1 | h1
      · exact absurd h1 h10
      · exact absurd h1 h8
    · omega
  have mk : ∀ (s' : Mch) (g' : List Int) (k' : Int), g'.length = 16 → s'.vars.length = s.vars.length → s'.mem.length = s.mem.length → (∀ l ∈ s'.mem, l.length ≤ 1000000) → s'.fuel = s.fuel - 1 → (s'.out.length : Int) ≤ s.out.length + 1 → (s'.code = 0 → s'.over = false → 0 ≤ k' ∧ k' < ((m.code.length : Nat) : Int)) → McOk m (s', g', k') ∧ s'.fuel = s.fuel - 1 :=
    fun s' g' k' h1 h2 h3 h4 h5 h6 h7 => ⟨⟨h1, by simp only; rw [h2]; exact vlen, by simp only; rw [h3]; exact mlen, h4, by simp only; omega, by simp only; omega, h7⟩, h5⟩
  unfold wordM
  by_cases e0 : x.op = 0
  · rw [if_pos e0]; exact mk _ _ _ (by rw [List.length_set]; exact g16) rfl rfl rows rfl (by simp <;> omega) (fun _ _ => nx (by omega) (by omega))
  rw [if_neg e0]
  by_cases e1 : x.op = 1
  · rw [if_pos e1]; exact mk _ _ _ (by rw [List.length_set]; exact g16) rfl rfl rows rfl (by simp <;> omega) (fun _ _ => nx (by omega) (by omega))
  rw [if_neg e1]
  by_cases e2 : x.op = 2
  · rw [if_pos e2]; exact mk _ _ _ g16 (by simp) rfl rows rfl (by simp <;> omega) (fun _ _ => nx (by omega) (by omega))
  rw [if_neg e2]
  by_cases e3 : x.op = 3
  · rw [if_pos e3]; exact mk _ _ _ (by rw [List.length_set]; exact g16) rfl rfl rows rfl (by simp <;> omega) (fun _ _ => nx (by omega) (by omega))
  rw [if_neg e3]
  by_cases e4 : x.op = 4
  · rw [if_pos e4]
    split
    · exact mk _ _ _ (by rw [List.length_set]; exact g16) rfl rfl rows rfl (by simp <;> omega) (fun _ _ => nx (by omega) (by omega))
    · exact mk _ _ _ g16 rfl rfl rows rfl (by simp <;> omega) (fun h _ => by simp at h)
  rw [if_neg e4]
  by_cases e5 : x.op = 5
  · rw [if_pos e5]
    split
    · exact mk _ _ _ g16 rfl (by simp [memS]) (memS_rows rows) rfl (by simp <;> omega) (fun _ _ => nx (by omega) (by omega))
    · exact mk _ _ _ g16 rfl rfl rows rfl (by simp <;> omega) (fun h _ => by simp at h)
  rw [if_neg e5]
  by_cases e6 : x.op = 6
  · rw [if_pos e6]; exact mk _ _ _ (by rw [List.length_set]; exact g16) rfl rfl rows rfl (by simp <;> omega) (fun _ _ => nx (by omega) (by omega))
  rw [if_neg e6]
  by_cases e7 : x.op = 7
  · rw [if_pos e7]; exact mk _ _ _ g16 rfl rfl rows rfl (by simp <;> omega) (fun _ _ => nx (by omega) (by omega))
  rw [if_neg e7]
  by_cases e8 : x.op = 8
  · rw [if_pos e8]; exact mk _ _ _ g16 rfl rfl rows rfl (by simp <;> omega) (fun _ _ => haim (Or.inl e8))
  rw [if_neg e8]
  by_cases e9 : x.op = 9
  · rw [if_pos e9]
    refine mk _ _ _ g16 rfl rfl rows rfl (by simp <;> omega) (fun _ _ => ?_)
    split
    · exact haim (Or.inr e9)
    · exact nx (by omega) (by omega)
  rw [if_neg e9]
  by_cases e11 : x.op = 11
  · rw [if_pos e11]; exact mk _ _ _ (by rw [List.length_set]; exact g16) rfl rfl rows rfl (by simp <;> omega) (fun _ _ => nx (by omega) (by omega))
  rw [if_neg e11]
  exact mk _ _ _ g16 rfl rfl rows rfl (by simp <;> omega) (fun _ h => by simp at h)
end Go.Proofs.YtpkfbabgcinhhaaDoor
