/- Exec, both sides, as the law asks. -/
import Derived.Test.YtpkfbabgcinhhaaDoorCkN
import Derived.Test.YtpkfbabgcinhhaaDoorSxE
import Derived.Test.YtpkfbabgcinhhaaDoorCkL
import Derived.Test.YtpkfbabgcinhhaaDoorCeM
import Derived.Test.YtpkfbabgcinhhaaDoorCkE
namespace Go.Proofs.YtpkfbabgcinhhaaDoor
open Go.ChangeShapes Go.WideShapes Go.ChangeAt Go.RowKit
theorem burn_outE (s : Mch) : (burnM s).2.out = s.out := by
  unfold burnM
  split
  · rfl
  · split <;> rfl
theorem runM_out {m : Img} (hm : imgOk m = true) : ∀ (f : Nat) (s : Mch) (g : List Int) (k : Int), McOk m (s, g, k) → (runM m.code f (s, g, k)).out.length ≤ 100000
  | 0, s, g, k, h => by
    show (burnM s).2.out.length ≤ _
    rw [burn_outE]; have h1 := h.outl; have h2 := h.fuel; simp only at h1 h2; omega
  | f + 1, s, g, k, h => by
    show (if (burnM s).1 = true then runM m.code f (wordM (m.code.getD k.toNat default) k (burnM s).2 g) else (burnM s).2).out.length ≤ 100000
    by_cases hb : (burnM s).1 = true
    · rw [if_pos hb]
      have h2 := (h.word hm hb).1
      generalize wordM (m.code.getD k.toNat default) k (burnM s).2 g = t at h2 ⊢
      obtain ⟨s2, g2, k2⟩ := t
      exact runM_out hm f s2 g2 k2 h2
    · rw [if_neg hb, burn_outE]
      have h1 := h.outl; have h2 := h.fuel; simp only at h1 h2; omega
def execE (m : Img) (args input : List Int) (f : Int) : En := if runOk m args input f = true then ⟨(execM m args input f).code, if (execM m args input f).code = 0 then (execM m args input f).val else 0, (execM m args input f).out⟩ else ⟨3, 0, []⟩
theorem execE_out (m : Img) (args input : List Int) (f : Int) : (execE m args input f).out.length ≤ 1048576 := by
  unfold execE
  by_cases h : runOk m args input f = true
  · rw [if_pos h]
    have him : imgOk m = true := by
      unfold runOk at h
      simp only [Bool.and_eq_true] at h
      exact h.1
    have h1 : (execM m args input f).out.length ≤ 100000 := runM_out him _ _ _ _ (mcOk_start h)
    show (execM m args input f).out.length ≤ _
    omega
  · rw [if_neg h]; exact Nat.zero_le _
theorem flat_int (l : List Int) : l.flatMap IntE.cs = l.map (Value.int .i64) := by
  induction l with
  | nil => rfl
  | cons x l ih => rw [List.flatMap_cons, ih]; rfl
theorem OwnN.lizE {w : World} {B : Nat} {v : Value} {l : List Int} (h : OwnN IntE w B v l) (hl : l.length ≤ 1048576) : LiZ w B w.heap.size v l := by
  have hM : 1048576 ≤ maxLen := by unfold maxLen; decide
  obtain ⟨_, ⟨h0, hz⟩ | ⟨g, cap, cur, hv, hB, hh, hc, hm, hs, ht⟩⟩ := h
  · exact ⟨none, 0, by rw [hz]; exact h0, Nat.le_trans hl hM, Or.inl hz⟩
  · refine ⟨_, _, hv, Nat.le_trans hl hM, Or.inr ⟨g, cur, rfl, hB, (Array.getElem?_eq_some_iff.1 hh).1, hh, fun i hi => ?_⟩⟩
    rw [flat_int] at ht
    have h1 : (cur.toList.take (l.length * 1))[i]? = (l.map (Value.int .i64))[i]? := congrArg (·[i]?) ht
    rw [List.getElem?_take_of_lt (by omega)] at h1
    simpa [hi] using h1
theorem OwnI.lizE {w : World} {B : Nat} {v : Value} {l : List Int} (h : OwnI w B v l) (hl : l.length ≤ 1048576) : LiZ w B w.heap.size v l := by
  have hM : 1048576 ≤ maxLen := by unfold maxLen; decide
  obtain ⟨g, cap, cur, rfl, hB, hh, hc, hm, hs, hx⟩ := h.parts
  exact ⟨_, _, rfl, Nat.le_trans hl hM, Or.inr ⟨g, cur, rfl, hB, (Array.getElem?_eq_some_iff.1 hh).1, hh, hx⟩⟩
theorem liz_none (w : World) (lo hi : Nat) : LiZ w lo hi (.slice none 0 0) [] := ⟨none, 0, rfl, Nat.zero_le _, Or.inl rfl⟩
theorem spec_exec (m : Img) (args input : List Int) (f : Int) (W : World) (A0 : Nat) (x0 : Array Value) (A1 : Nat) (u1 : Option Addr) (A2 : Nat) (u2 : Option Addr) (c1 : Nat) (h0 : ImgIs W A0 x0 m) (h1 : IntsIs W A1 u1 args) (h2 : IntsIs W A2 u2 input) (hl : input.length ≤ 1048576) :
    Calls Tryd.prog 6 #[.agg x0, .slice u1 args.length c1, .slice u2 input.length input.length, .int .i64 f] W fun en w' => ∃ v', en = .returned (.agg #[.int .i64 (execE m args input f).code, .int .i64 (execE m args input f).val, v']) ∧ LiZ w' W.heap.size w'.heap.size v' (execE m args input f).out ∧ Below W.heap.size W w' := by
  obtain ⟨us, cs, ub, cb, rfl, _⟩ := id h0
  have hlen := execE_out m args input f
  cases hok : runOk m args input f
  · have e : execE m args input f = ⟨3, 0, []⟩ := by unfold execE; rw [if_neg (by rw [hok]; decide)]
    rw [e]
    refine (sexec_no W h0 u1 c1 u2 input.length hok).mono ?_
    rintro e1 w1 ⟨rfl, b1⟩
    exact ⟨_, rfl, liz_none _ _ _, b1⟩
  · have e : execE m args input f = ⟨(execM m args input f).code, if (execM m args input f).code = 0 then (execM m args input f).val else 0, (execM m args input f).out⟩ := by unfold execE; rw [if_pos hok]
    rw [e] at hlen ⊢
    refine (sexec_yes W h0 u1 c1 u2 input.length hok (h1.mono (Nat.zero_le _)) (h2.mono (Nat.zero_le _)) (cap_ok hl)).mono ?_
    rintro e1 w1 ⟨go, c, rfl, oo, b1⟩
    exact ⟨_, rfl, oo.lizE hlen, b1⟩
theorem impl_exec (m : Img) (args input : List Int) (f : Int) (W : World) (A0 : Nat) (x0 : Array Value) (A1 : Nat) (u1 : Option Addr) (A2 : Nat) (u2 : Option Addr) (c1 : Nat) (h0 : ImgIs W A0 x0 m) (h1 : IntsIs W A1 u1 args) (h2 : IntsIs W A2 u2 input) (hl : input.length ≤ 1048576) (hv : VarsC W) :
    Calls Tryd.prog 9 #[.agg x0, .slice u1 args.length c1, .slice u2 input.length input.length, .int .i64 f] W fun en w' => ∃ v', en = .returned (.agg #[.int .i64 (execE m args input f).code, .int .i64 (execE m args input f).val, v']) ∧ LiZ w' W.heap.size w'.heap.size v' (execE m args input f).out ∧ Below W.heap.size W w' := by
  obtain ⟨us, cs, ub, cb, rfl, _⟩ := id h0
  obtain ⟨hv1, ⟨a, hv2⟩, hv3⟩ := hv
  have hlen := execE_out m args input f
  cases hok : runOk m args input f
  · have e : execE m args input f = ⟨3, 0, []⟩ := by unfold execE; rw [if_neg (by rw [hok]; decide)]
    rw [e]
    refine (exec_no h0 u1 c1 u2 input.length hok a hv2).mono ?_
    rintro e1 w1 ⟨rfl, b1⟩
    exact ⟨_, rfl, liz_none _ _ _, b1⟩
  · have e : execE m args input f = ⟨(execM m args input f).code, if (execM m args input f).code = 0 then (execM m args input f).val else 0, (execM m args input f).out⟩ := by unfold execE; rw [if_pos hok]
    rw [e] at hlen ⊢
    refine (exec_yes h0 u1 c1 u2 input.length hok (h1.mono (Nat.zero_le _)) (h2.mono (Nat.zero_le _)) (cap_ok hl) hv1 a hv2 hv3).mono ?_
    rintro e1 w1 ⟨vo, rfl, oo, b1⟩
    exact ⟨_, rfl, oo.lizE hlen, b1⟩
/-- A room of numbers stays one where anything is written over. -/
theorem IntRoom.overE {w w' : World} {B T B' T' : Nat} {a : Option Addr} {n : Nat} (h : IntRoom w B T a n) (ho : Over B' T' w w') : IntRoom w' B T a n := by
  rcases h with h | ⟨b, o, c, ty, ha, hB, hT, hh, hx⟩
  · exact Or.inl h
  · obtain ⟨c', h', l'⟩ := ho.within b c ty hh
    refine Or.inr ⟨b, o, c', ty, ha, hB, hT, h', fun i r hi hr => ?_⟩
    obtain ⟨u, hu, hk⟩ := hx i r hi hr
    obtain ⟨u', hu', hl⟩ := l' _ u hu
    exact ⟨u', hu', hk.like hl⟩
set_option maxHeartbeats 1000000 in
theorem markImage_roomK (x : Img) (w : World) (B T : Nat) (v : Array Value) (h : ImgRoom w B T v x) (hT : T ≤ w.heap.size) (hs : x.sz ≤ 1048576) :
    Calls Tryd.prog 13 #[.agg v, .int .i64 1] w fun en w' => ∃ k : Nat, en = .returned (.int .i64 k) ∧ k ≤ 10000000 ∧ Over B T w w' := by
  obtain ⟨us, cs, ub, cb, rfl, h1, h2⟩ := h
  have hs' : x.sizes.length + slSz Wrd.sz x.code ≤ 1048576 := hs
  have hbl : x.sizes.length + x.code.length ≤ 1048576 := by unfold slSz at hs'; omega
  have H1 := hideP h1
  have H2 := hideP h2
  clear h1 h2
  go_enter Tryd.func13, Tryd.ntmps13
  go_wp2_with fail
  refine (markIntS_roomW x.sizes.length _ B T 1 us cs (H1.out.stays ((Below.refl _ _).alloc (Nat.le_refl _) _)) (by omega)).mono ?_
  rintro e1 w1 ⟨rfl, o1⟩
  have hv := (o1.out w.heap.size (by simp) (Or.inr hT)).trans (show (w.alloc _).heap[w.heap.size]? = _ from Array.getElem?_push_size)
  have c3 := (cells_of hv).1 3
  simp at c3
  have hb := (H2.out.stays ((Below.refl w.heap.size w).alloc (Nat.le_refl _) (.cells #[.slice us x.sizes.length cs, .int .i64 x.params, .int .i64 x.slots, .slice ub x.code.length cb] 32))).over o1
  have O1 := hideP o1
  clear o1 hv
  go_wp2_with fail
  refine (markWordS_room x.code.length _ B T (1 + x.sizes.length) ub cb hb (by omega)).mono ?_
  rintro e2 w2 ⟨rfl, o2⟩
  clear c3
  go_wp2
  go_ret
  exact ⟨1 + x.sizes.length + x.code.length * 5, rfl, by omega, (O1.out.trans o2).of_allocW⟩
end Go.Proofs.YtpkfbabgcinhhaaDoor
