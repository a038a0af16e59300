/- What the method of a word's Op does with it: as wordM has it. -/
import Derived.Test.YtpkfbabgcinhhaaDoorCkF
import Derived.Test.YtpkfbabgcinhhaaDoorPmO
import Derived.Test.YtpkfbabgcinhhaaDoorCkG
namespace Go.Proofs.YtpkfbabgcinhhaaDoor
open Go.ChangeShapes Go.WideShapes Go.ChangeAt Go.RowKit
section
variable {w0 : World} {L : PLay} {ui : Option Addr} {ci : Nat} {vo : Value} {w w' : World} {s : Mch} {g : List Int} {k : Int} {code : List Wrd}
theorem PAt.ended (h : PAt w0 L code ui ci vo w s g k) (c : Int) (o : Bool) (v : Int) : PAt w0 L code ui ci vo w { s with code := c, over := o, val := v } g k :=
  { box := h.box, g16 := h.g16, vars := h.vars, rows := h.rows, map := h.map, bel := h.bel, code := h.code, inp := h.inp, icap := h.icap, alu := h.alu, out := h.out, lowB := h.lowB, lowV := h.lowV, lowP := h.lowP, lowI := h.lowI, ri := h.ri, ij := h.ij, oo := h.oo, hold := h.hold }
/-- What comes of a word: t is what wordM makes of it; k is the word that is next already. -/
def DoRes (w0 : World) (L : PLay) (code : List Wrd) (t : Mch × List Int × Int) (k : Int) (en : Ending) (w' : World) : Prop :=
  (t.1.code = 0 ∧ t.1.over = false ∧ en = .returned .nilIface ∧ ∃ ui ci vo, PAt w0 L code ui ci vo w' t.1 t.2.1 t.2.2) ∨
  (¬ (t.1.code = 0 ∧ t.1.over = false) ∧ en = .returned (.iface 111 (.agg #[.int .i64 t.1.code, .int .i64 t.1.val])) ∧ ∃ ui ci vo, PAt w0 L code ui ci vo w' t.1 t.2.1 k)
theorem belI_nat {z c : Int} (h : belI z c = true) : ∃ q : Nat, z = (q : Int) ∧ (q : Int) < c := by
  unfold belI at h
  have := of_decide_eq_true h
  exact ⟨z.toNat, by omega, by omega⟩
theorem regG_nat (g : List Int) (q : Nat) : regG g (q : Int) = g.getD q 0 := by unfold regG; rw [Int.toNat_natCast]
set_option maxHeartbeats 4000000 in
theorem do_any (h : PAt w0 L code ui ci vo w s g (k + 1)) (hc : s.code = 0) (ho : s.over = false) (hv : s.val = 0) (hout : s.out.length ≤ 1000000) (hml : s.mem.length ≤ 100) (op : Nat) (r a b n : Int)
    (hx : wrdOk (s.mem.length : Nat) (s.vars.length : Nat) (code.length : Nat) ⟨op, r, a, b, n⟩ = true) :
    Calls Tryd.prog (kindF op) #[.pointer (some ⟨L.b, 0, none⟩), .agg #[.int .i64 op, .int .i64 r, .int .i64 a, .int .i64 b, .int .i64 n]] w fun en w' => DoRes w0 L code (wordM ⟨op, r, a, b, n⟩ k s g) (k + 1) en w' := by
  have hop : op < 12 := by
    rcases Nat.lt_or_ge op 12 with h' | h'
    · exact h'
    · rw [wrd_x (by omega) (by omega) (by omega) (by omega) (by omega) (by omega) (by omega) (by omega) (by omega) (by omega) (by omega) (by omega)] at hx; cases hx
  have hrab : belI r 16 = true ∧ belI a 16 = true ∧ belI b 16 = true := by
    unfold wrdOk at hx
    simp only [Bool.and_eq_true] at hx
    exact ⟨hx.1.1.1, hx.1.1.2, hx.1.2⟩
  obtain ⟨rn, rfl, hr'⟩ := belI_nat hrab.1
  obtain ⟨an, rfl, ha'⟩ := belI_nat hrab.2.1
  obtain ⟨bn, rfl, hb'⟩ := belI_nat hrab.2.2
  have hr : rn < 16 := by omega
  have ha : an < 16 := by omega
  have hb : bn < 16 := by omega
  clear hr' ha' hb'
  match op, hop with
  | 0, _ =>
    refine (number_any h 0 _ _ n rn hr).mono ?_
    rintro en w' ⟨rfl, hp⟩
    exact Or.inl ⟨hc, ho, rfl, _, _, _, by simpa [wordM] using hp⟩
  | 1, _ =>
    rw [show ((1 : Nat) : Int) = 1 from rfl, wrd_1, hrab.1, hrab.2.1, hrab.2.2] at hx
    simp only [Bool.and_eq_true, Bool.true_and] at hx
    obtain ⟨q, rfl, hq⟩ := belI_nat hx.2
    refine (fetch_any h 1 _ _ rn q hr (by omega)).mono ?_
    rintro en w' ⟨rfl, hp⟩
    exact Or.inl ⟨hc, ho, rfl, _, _, _, by simpa [wordM, regG_nat] using hp⟩
  | 2, _ =>
    rw [show ((2 : Nat) : Int) = 2 from rfl, wrd_2, hrab.1, hrab.2.1, hrab.2.2] at hx
    simp only [Bool.and_eq_true, Bool.true_and] at hx
    obtain ⟨q, rfl, hq⟩ := belI_nat hx.2
    refine (keep_any h 2 _ _ rn q hr (by omega)).mono ?_
    rintro en w' ⟨rfl, hp⟩
    exact Or.inl ⟨hc, ho, rfl, _, _, _, by simpa [wordM, regG_nat] using hp⟩
  | 3, _ =>
    rw [show ((3 : Nat) : Int) = 3 from rfl, wrd_3, hrab.1, hrab.2.1, hrab.2.2] at hx
    simp only [Bool.true_and] at hx
    obtain ⟨q, rfl, hq⟩ := belI_nat hx
    refine (reckon_any h 3 rn an bn q hr ha hb (by omega)).mono ?_
    rintro en w' ⟨rfl, hp⟩
    exact Or.inl ⟨hc, ho, rfl, _, _, _, by simpa [wordM, regG_nat] using hp⟩
  | 4, _ =>
    rw [show ((4 : Nat) : Int) = 4 from rfl, wrd_4, hrab.1, hrab.2.1, hrab.2.2] at hx
    simp only [Bool.and_eq_true, Bool.true_and] at hx
    obtain ⟨q, rfl, hq⟩ := belI_nat hx.2
    refine (load_any h 4 _ q an rn hr ha (by omega) (by omega)).mono ?_
    rintro en w' (⟨hy, rfl, hp⟩ | ⟨hy, rfl, hp⟩)
    · have e : wordM ⟨4, rn, an, bn, q⟩ k s g = (s, g.set rn (memG s.mem q (g.getD an 0)), k + 1) := by unfold wordM; simp only [regG_nat]; rw [if_neg (by decide : ¬ ((4 : Int) = 0)), if_neg (by decide : ¬ ((4 : Int) = 1)), if_neg (by decide : ¬ ((4 : Int) = 2)), if_neg (by decide : ¬ ((4 : Int) = 3)), if_pos trivial, if_pos hy, Int.toNat_natCast]
      rw [show ((4 : Nat) : Int) = 4 from rfl, e]
      exact Or.inl ⟨hc, ho, rfl, _, _, _, hp⟩
    · have e : wordM ⟨4, rn, an, bn, q⟩ k s g = ({ s with code := 1 }, g, k) := by unfold wordM; simp only [regG_nat]; rw [if_neg (by decide : ¬ ((4 : Int) = 0)), if_neg (by decide : ¬ ((4 : Int) = 1)), if_neg (by decide : ¬ ((4 : Int) = 2)), if_neg (by decide : ¬ ((4 : Int) = 3)), if_pos trivial, if_neg (by rw [hy]; simp)]
      rw [show ((4 : Nat) : Int) = 4 from rfl, e]
      exact Or.inr ⟨by simp, by simp only; rw [hv], _, _, _, by have := hp.ended 1 s.over s.val; simpa using this⟩
  | 5, _ =>
    rw [show ((5 : Nat) : Int) = 5 from rfl, wrd_5, hrab.1, hrab.2.1, hrab.2.2] at hx
    simp only [Bool.and_eq_true, Bool.true_and] at hx
    obtain ⟨q, rfl, hq⟩ := belI_nat hx.2
    refine (store_any h 5 _ q an rn hr ha (by omega) (by omega)).mono ?_
    rintro en w' (⟨hy, rfl, hp⟩ | ⟨hy, rfl, hp⟩)
    · have e : wordM ⟨5, rn, an, bn, q⟩ k s g = ({ s with mem := memS s.mem q (g.getD an 0) (g.getD rn 0) }, g, k + 1) := by unfold wordM; simp only [regG_nat]; rw [if_neg (by decide : ¬ ((5 : Int) = 0)), if_neg (by decide : ¬ ((5 : Int) = 1)), if_neg (by decide : ¬ ((5 : Int) = 2)), if_neg (by decide : ¬ ((5 : Int) = 3)), if_neg (by decide : ¬ ((5 : Int) = 4)), if_pos trivial, if_pos hy]
      rw [show ((5 : Nat) : Int) = 5 from rfl, e]
      exact Or.inl ⟨hc, ho, rfl, _, _, _, hp⟩
    · have e : wordM ⟨5, rn, an, bn, q⟩ k s g = ({ s with code := 1 }, g, k) := by unfold wordM; simp only [regG_nat]; rw [if_neg (by decide : ¬ ((5 : Int) = 0)), if_neg (by decide : ¬ ((5 : Int) = 1)), if_neg (by decide : ¬ ((5 : Int) = 2)), if_neg (by decide : ¬ ((5 : Int) = 3)), if_neg (by decide : ¬ ((5 : Int) = 4)), if_pos trivial, if_neg (by rw [hy]; simp)]
      rw [show ((5 : Nat) : Int) = 5 from rfl, e]
      exact Or.inr ⟨by simp, by simp only; rw [hv], _, _, _, by have := hp.ended 1 s.over s.val; simpa using this⟩
  | 6, _ =>
    refine (take_any h 6 _ _ n rn hr).mono ?_
    rintro en w' ⟨rfl, u, c, hp⟩
    exact Or.inl ⟨hc, ho, rfl, _, _, _, by simpa [wordM] using hp⟩
  | 7, _ =>
    refine (put_any h 7 _ _ n rn hr hout).mono ?_
    rintro en w' ⟨rfl, v, hp⟩
    exact Or.inl ⟨hc, ho, rfl, _, _, _, by simpa [wordM, regG_nat] using hp⟩
  | 8, _ =>
    refine (jump_any h 8 _ _ _ n).mono ?_
    rintro en w' ⟨rfl, hp⟩
    exact Or.inl ⟨hc, ho, rfl, _, _, _, by simpa [wordM] using hp⟩
  | 9, _ =>
    refine (jz_any h 9 _ _ n rn hr).mono ?_
    rintro en w' ⟨rfl, hp⟩
    exact Or.inl ⟨hc, ho, rfl, _, _, _, by simpa [wordM, regG_nat] using hp⟩
  | 10, _ =>
    refine (stop_any h 10 _ _ n rn hr).mono ?_
    rintro en w' ⟨rfl, hp⟩
    have e : wordM ⟨10, rn, an, bn, n⟩ k s g = ({ s with over := true, val := g.getD rn 0 }, g, k + 1) := by simp [wordM, regG_nat]
    rw [show ((10 : Nat) : Int) = 10 from rfl, e]
    exact Or.inr ⟨by simp, by simp only; rw [hc], _, _, _, by have := hp.ended s.code true (g.getD rn 0); simpa using this⟩
  | 11, _ =>
    refine (move_any h 11 _ n rn an hr ha).mono ?_
    rintro en w' ⟨rfl, hp⟩
    exact Or.inl ⟨hc, ho, rfl, _, _, _, by simpa [wordM, regG_nat] using hp⟩
end
end Go.Proofs.YtpkfbabgcinhhaaDoor
