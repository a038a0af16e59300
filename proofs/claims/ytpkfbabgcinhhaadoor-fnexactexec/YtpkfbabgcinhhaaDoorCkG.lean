/- The contract of impl.Bin. -/
import Derived.Test.YtpkfbabgcinhhaaDoorCkQ
import Derived.BigQuiet
import Derived.Test.YtpkfbabgcinhhaaDoorCkB
import Derived.Test.YtpkfbabgcinhhaaDoorCkE
import Derived.Deep.RegionHeld3
namespace Go.Proofs.YtpkfbabgcinhhaaDoor
open Go.ChangeShapes Go.WideShapes Go.ChangeAt Go.RowKit
set_option maxHeartbeats 1000000 in
theorem implBin_any (s : ByteArray) (a b : Int) (w : World) :
    Calls Tryd.prog 69 #[.string s, .int .i64 a, .int .i64 b] w fun e w' => e = .returned (.int .i64 (binL s.toList a b)) ∧ w' = w := by
  go_enter Tryd.func69, Tryd.ntmps69
  go_wp2
  all_goals first | (simp_all; done) | skip
  all_goals go_ret
  all_goals refine ⟨ret_int ?_, rfl⟩
  all_goals simp only [binL, *, if_true, if_false, Bool.false_eq_true]
  all_goals first | rfl | (rw [if_pos (by omega)]; done) | (rw [if_neg (by omega)]; done) | skip
end Go.Proofs.YtpkfbabgcinhhaaDoor

/- What wrdOk says of each Op (written by wip/mkimg.py). -/
namespace Go.Proofs.YtpkfbabgcinhhaaDoor
theorem wrd_0 {ns sl nc r a b n : Int} : wrdOk ns sl nc ⟨0, r, a, b, n⟩ = (belI r 16 && belI a 16 && belI b 16 && (a == 0 && b == 0)) := rfl
theorem wrd_1 {ns sl nc r a b n : Int} : wrdOk ns sl nc ⟨1, r, a, b, n⟩ = (belI r 16 && belI a 16 && belI b 16 && ((a == 0 && b == 0) && belI n sl)) := rfl
theorem wrd_2 {ns sl nc r a b n : Int} : wrdOk ns sl nc ⟨2, r, a, b, n⟩ = (belI r 16 && belI a 16 && belI b 16 && ((a == 0 && b == 0) && belI n sl)) := rfl
theorem wrd_3 {ns sl nc r a b n : Int} : wrdOk ns sl nc ⟨3, r, a, b, n⟩ = (belI r 16 && belI a 16 && belI b 16 && belI n 6) := rfl
theorem wrd_4 {ns sl nc r a b n : Int} : wrdOk ns sl nc ⟨4, r, a, b, n⟩ = (belI r 16 && belI a 16 && belI b 16 && ((b == 0) && belI n ns)) := rfl
theorem wrd_5 {ns sl nc r a b n : Int} : wrdOk ns sl nc ⟨5, r, a, b, n⟩ = (belI r 16 && belI a 16 && belI b 16 && ((b == 0) && belI n ns)) := rfl
theorem wrd_6 {ns sl nc r a b n : Int} : wrdOk ns sl nc ⟨6, r, a, b, n⟩ = (belI r 16 && belI a 16 && belI b 16 && ((a == 0 && b == 0) && (n == 0))) := rfl
theorem wrd_7 {ns sl nc r a b n : Int} : wrdOk ns sl nc ⟨7, r, a, b, n⟩ = (belI r 16 && belI a 16 && belI b 16 && ((a == 0 && b == 0) && (n == 0))) := rfl
theorem wrd_8 {ns sl nc r a b n : Int} : wrdOk ns sl nc ⟨8, r, a, b, n⟩ = (belI r 16 && belI a 16 && belI b 16 && ((r == 0 && (a == 0 && b == 0)) && belI n nc)) := rfl
theorem wrd_9 {ns sl nc r a b n : Int} : wrdOk ns sl nc ⟨9, r, a, b, n⟩ = (belI r 16 && belI a 16 && belI b 16 && ((a == 0 && b == 0) && belI n nc)) := rfl
theorem wrd_10 {ns sl nc r a b n : Int} : wrdOk ns sl nc ⟨10, r, a, b, n⟩ = (belI r 16 && belI a 16 && belI b 16 && ((a == 0 && b == 0) && (n == 0))) := rfl
theorem wrd_11 {ns sl nc r a b n : Int} : wrdOk ns sl nc ⟨11, r, a, b, n⟩ = (belI r 16 && belI a 16 && belI b 16 && (b == 0 && n == 0)) := rfl
theorem wrd_x {ns sl nc op r a b n : Int} (h0 : ¬ op = 0) (h1 : ¬ op = 1) (h2 : ¬ op = 2) (h3 : ¬ op = 3) (h4 : ¬ op = 4) (h5 : ¬ op = 5) (h6 : ¬ op = 6) (h7 : ¬ op = 7) (h8 : ¬ op = 8) (h9 : ¬ op = 9) (h10 : ¬ op = 10) (h11 : ¬ op = 11) : wrdOk ns sl nc ⟨op, r, a, b, n⟩ = false := by simp [wrdOk, h0, h1, h2, h3, h4, h5, h6, h7, h8, h9, h10, h11]
theorem wok_yes {r a b q : Bool} (hr : r = true) (ha : a = true) (hb : b = true) : (r && a && b && q) = q := by subst hr ha hb; rfl
theorem wok_no {r a b q : Bool} (hq : q = false) : (r && a && b && q) = false := by subst hq; simp
theorem wok_nr {r a b q : Bool} (hq : r = false) : (r && a && b && q) = false := by subst hq; rfl
theorem wok_na {r a b q : Bool} (hq : a = false) : (r && a && b && q) = false := by subst hq; simp
theorem wok_nb {r a b q : Bool} (hq : b = false) : (r && a && b && q) = false := by subst hq; simp
end Go.Proofs.YtpkfbabgcinhhaaDoor

/- The contracts of spec.l03Burn, l03Get and l03At over a run as it lies. -/
namespace Go.Proofs.YtpkfbabgcinhhaaDoor
open Go.ChangeShapes Go.WideShapes Go.ChangeAt Go.RowKit
def burnM (m : Mch) : Bool × Mch := if m.code ≠ 0 ∨ m.over = true then (false, m) else if m.fuel = 0 then (false, { m with code := 2 }) else (true, { m with fuel := m.fuel - 1 })
theorem box_set {w : World} {b : Nat} {cs : Array Value} {T : TypeId} (h : w.heap[b]? = some (.cells cs T (0, 0))) (j : Nat) (v : Value) : (w.setCell ⟨b, j, none⟩ v).heap[b]? = some (.cells (cs.setIfInBounds j v) T (0, 0)) := heap_setCell_same w b j cs T v h
set_option maxHeartbeats 4000000 in
theorem burn_any {L : Lay} {D : Nat} {ui : Option Addr} {ci : Nat} {vo : Value} {w : World} {s : Mch} {g : List Int} (h : MAt L D ui ci vo w s g) (hf : 0 ≤ s.fuel ∧ s.fuel ≤ 1000000) :
    Calls Tryd.prog 33 #[.pointer (some ⟨L.b, 0, none⟩)] w fun e w' => e = .returned (.bool (burnM s).1) ∧ MAt L D ui ci vo w' (burnM s).2 g ∧ Below D w w' := by
  have H := hideP h
  have x3 := (cells_of h.box).1 3
  have x4 := (cells_of h.box).1 4
  have x5 := (cells_of h.box).1 5
  have fz := (cells_of h.box).2
  simp at x3 x4 x5
  have BR := hideP (Below.refl D w)
  have hDb := h.lowB
  have hDw := h.low
  clear h
  obtain ⟨b, hb⟩ : ∃ b, L.b = b := ⟨_, rfl⟩
  have HB := hideP hb
  rw [hb] at x3 x4 x5 fz hDb ⊢
  clear hb
  obtain ⟨mem, vars, input, fuel, code, over, val, out⟩ := s
  simp only at x3 x4 x5 hf
  by_cases hc : code = 0
  · subst hc
    cases over
    · by_cases h0 : fuel = 0
      · subst h0
        have K : Hid (MAt L D ui ci vo (w.setCell ⟨b, 4, none⟩ (.int .i64 2)) ⟨mem, vars, input, 0, 2, false, val, out⟩ g) := by
          have k := (But.refl b w).set 4 (.int .i64 2)
          rw [← HB.out] at k ⊢
          exact H.out.setBox k rfl rfl rfl (by rw [box_set H.out.box]; simp) H.out.inp H.out.icap
        have KB := hideP (((But.refl b w).set 4 (.int .i64 2)).below hDb hDw)
        go_enter Tryd.func33, Tryd.ntmps33
        go_wp2
        go_ret
        exact ⟨rfl, K.out, KB.out⟩
      · have E : burnM ⟨mem, vars, input, fuel, 0, false, val, out⟩ = (true, ⟨mem, vars, input, fuel - 1, 0, false, val, out⟩) := by
          unfold burnM; simp [h0]
        rw [E]
        have K : Hid (MAt L D ui ci vo (w.setCell ⟨b, 3, none⟩ (.int .i64 (fuel - 1))) ⟨mem, vars, input, fuel - 1, 0, false, val, out⟩ g) := by
          have k := (But.refl b w).set 3 (.int .i64 (fuel - 1))
          rw [← HB.out] at k ⊢
          exact H.out.setBox k rfl rfl rfl (by rw [box_set H.out.box]; simp) H.out.inp H.out.icap
        have KB := hideP (((But.refl b w).set 3 (.int .i64 (fuel - 1))).below hDb hDw)
        clear E
        go_enter Tryd.func33, Tryd.ntmps33
        go_wp2
        go_ret
        exact ⟨rfl, K.out, KB.out⟩
    · go_enter Tryd.func33, Tryd.ntmps33
      go_wp2
      go_ret
      exact ⟨rfl, H.out, BR.out⟩
  · have E : burnM ⟨mem, vars, input, fuel, code, over, val, out⟩ = (false, ⟨mem, vars, input, fuel, code, over, val, out⟩) := by
      unfold burnM; simp [hc]
    rw [E]
    have hcb : (code != 0) = true := by simpa using hc
    clear E
    go_enter Tryd.func33, Tryd.ntmps33
    go_wp2
    go_ret
    exact ⟨rfl, H.out, BR.out⟩
set_option maxHeartbeats 4000000 in
theorem get_any {L : Lay} {D : Nat} {ui : Option Addr} {ci : Nat} {vo : Value} {w : World} {s : Mch} {g : List Int} (h : MAt L D ui ci vo w s g) (hci : ci ≤ maxLen) :
    Calls Tryd.prog 50 #[.pointer (some ⟨L.b, 0, none⟩)] w fun e w' => e = .returned (.int .i64 (getV s.input)) ∧ (∃ ui' ci', ci' ≤ ci ∧ MAt L D ui' ci' vo w' { s with input := s.input.tail } g) ∧ But L.b w w' := by
  have H := hideP h
  have hm := maxLen_lt
  have x2 := (cells_of h.box).1 2
  have fz := (cells_of h.box).2
  simp at x2 fz
  have BR := hideP (But.refl L.b w)
  have hic := h.icap
  have HI := hideP h.inp
  clear h
  obtain ⟨b, hb⟩ : ∃ b, L.b = b := ⟨_, rfl⟩
  have HB := hideP hb
  rw [hb] at x2 fz BR ⊢
  clear hb
  obtain ⟨mem, vars, input, fuel, code, over, val, out⟩ := s
  simp only at x2 hic HI
  cases input with
  | nil =>
    go_enter Tryd.func50, Tryd.ntmps50
    go_wp2
    go_ret
    exact ⟨rfl, ⟨_, _, Nat.le_refl _, H.out⟩, BR.out⟩
  | cons x r =>
    obtain ⟨ib, io, rfl, hid, hiw, c0⟩ := HI.out 0 (by simp)
    simp only [List.length_cons, List.getElem_cons_zero, Nat.add_zero] at c0 x2 hic
    have hr0 : (0 : Int) ≤ (r.length : Int) + 1 := by omega
    have hr1 : (1 : Int) ≤ (r.length : Int) + 1 := by omega
    have hr2 : (r.length : Int) + 1 ≤ (ci : Int) := by omega
    obtain ⟨V, hV⟩ : ∃ V, r.length + 1 = V := ⟨_, rfl⟩
    by_cases e1 : ci = 1
    · subst e1
      have hr : r.length = 0 := by omega
      have K : Hid (MAt L D (some ⟨ib, io, none⟩) 0 vo (w.setCell ⟨b, 2, none⟩ (.slice (some ⟨ib, io, none⟩) 0 0)) ⟨mem, vars, r, fuel, code, over, val, out⟩ g) := by
        have k := (But.refl b w).set 2 (.slice (some ⟨ib, io, none⟩) 0 0)
        rw [← HB.out] at k ⊢
        exact H.out.setBox k rfl rfl rfl (by rw [box_set H.out.box]; simp [hr]) (fun j hj => by simp only at hj; omega) ⟨by simp only; omega, by simp only; omega⟩
      have KB := hideP ((But.refl b w).set 2 (.slice (some ⟨ib, io, none⟩) 0 0))
      have rl : r = [] := List.eq_nil_of_length_eq_zero hr
      subst rl
      clear hV HI
      go_enter Tryd.func50, Tryd.ntmps50
      go_wp2
      go_ret
      exact ⟨rfl, ⟨_, _, by omega, K.out⟩, KB.out⟩
    · have K : Hid (MAt L D (some ⟨ib, io + 1, none⟩) (ci - 1) vo (w.setCell ⟨b, 2, none⟩ (.slice (some ⟨ib, io + 1, none⟩) r.length (ci - 1))) ⟨mem, vars, r, fuel, code, over, val, out⟩ g) := by
        have k := (But.refl b w).set 2 (.slice (some ⟨ib, io + 1, none⟩) r.length (ci - 1))
        rw [← HB.out] at k ⊢
        refine H.out.setBox k rfl rfl rfl (by rw [box_set H.out.box]; simp) (fun j hj => ?_) ⟨by simp only; omega, by simp only; omega⟩
        obtain ⟨ib2, io2, e, h1, h2, h3⟩ := HI.out (j + 1) (by simp only [List.length_cons] at hj ⊢; omega)
        cases e
        exact ⟨ib, io + 1, rfl, h1, h2, by rw [show io + 1 + j = io + (j + 1) by omega]; simpa using h3⟩
      have KB := hideP ((But.refl b w).set 2 (.slice (some ⟨ib, io + 1, none⟩) r.length (ci - 1)))
      clear hV HI
      go_enter Tryd.func50, Tryd.ntmps50
      go_wp2
      go_ret
      exact ⟨rfl, ⟨_, _, by omega, K.out⟩, KB.out⟩
set_option maxHeartbeats 4000000 in
theorem at_any {L : Lay} {D : Nat} {ui : Option Addr} {ci : Nat} {vo : Value} {w : World} {s : Mch} {g : List Int} (h : MAt L D ui ci vo w s g) (k : Nat) (hk : k < s.mem.length) (hl : (s.mem[k]).length ≤ 1000000) (i : Int) :
    Calls Tryd.prog 49 #[.pointer (some ⟨L.b, 0, none⟩), .int .i64 (k : Int), .int .i64 (-1), .int .i64 i] w fun e w' => e = .returned (.int .i64 (if memIn s.mem k i = true then i else 0)) ∧ MAt L D ui ci vo w' (if memIn s.mem k i = true then s else { s with code := 1 }) g ∧ But L.b w w' := by
  have H := hideP h
  have x0 := (cells_of h.box).1 0
  have x4 := (cells_of h.box).1 4
  have fz := (cells_of h.box).2
  simp at x0 x4 fz
  have BR := hideP (But.refl L.b w)
  have r0 := (h.rows k hk).2
  have rl : L.m < w.heap.size := by obtain ⟨cs, hm⟩ := h.mrow; exact (Array.getElem?_eq_some_iff.1 hm).1
  have hmem : memIn s.mem k i = decide (0 ≤ i ∧ i < ((s.mem[k].length : Nat) : Int)) := by
    unfold memIn
    rw [Int.toNat_natCast, List.getD_eq_getElem?_getD, List.getElem?_eq_getElem hk]; rfl
  have IN : Hid (∀ W, Calls Tryd.prog 30 #[.int .i64 i, .int .i64 0, .int .i64 ((s.mem[k].length : Int) - 1)] W fun e w' => e = .returned (.bool (memIn s.mem k i)) ∧ w' = W) := fun W => by
    have := l01In_any i 0 ((s.mem[k].length : Int) - 1) W
    have e : inB i 0 ((s.mem[k].length : Int) - 1) = memIn s.mem k i := by rw [hmem]; unfold inB; apply decide_eq_decide.2; omega
    rw [← e]; exact this
  have K : Hid (MAt L D ui ci vo (w.setCell ⟨L.b, 4, none⟩ (.int .i64 1)) { s with code := 1 } g) := H.out.setBox ((But.refl L.b w).set 4 (.int .i64 1)) rfl rfl rfl (by rw [box_set H.out.box]; simp) H.out.inp H.out.icap
  have KB := hideP ((But.refl L.b w).set 4 (.int .i64 1))
  obtain ⟨y, hy⟩ : ∃ y, memIn s.mem k i = y := ⟨_, rfl⟩
  rw [hy] at IN ⊢
  obtain ⟨n, hn⟩ : ∃ n, s.mem[k].length = n := ⟨_, rfl⟩
  rw [hn] at r0 IN hl
  have hml : (k : Int) < (s.mem.length : Int) := by omega
  obtain ⟨ml, hmlen⟩ : ∃ n, s.mem.length = n := ⟨_, rfl⟩
  rw [hmlen] at x0 hml
  clear h hmem hy hn hmlen hk
  go_enter Tryd.func49, Tryd.ntmps49
  go_wp2_with fail
  refine (IN.out _).mono ?_
  rintro e1 w1 ⟨rfl, hw1⟩
  have hw2 := hw1.symm
  subst hw2
  cases y
  · go_wp2
    go_ret
    exact ⟨rfl, K.out, KB.out⟩
  · go_wp2
    go_ret
    exact ⟨rfl, H.out, BR.out⟩
end Go.Proofs.YtpkfbabgcinhhaaDoor

/- The specification's run in memory, besides: what stays when memory grows, when a region's place is written, when the out list grows. -/
namespace Go.Proofs.YtpkfbabgcinhhaaDoor
open Go.ChangeShapes Go.WideShapes Go.ChangeAt Go.RowKit
section
variable {L : Lay} {D : Nat} {ui : Option Addr} {ci : Nat} {vo : Value} {w w' : World} {s : Mch} {g : List Int}
theorem MAt.stays (h : MAt L D ui ci vo w s g) (b : Below w.heap.size w w') : MAt L D ui ci vo w' s g := by
  obtain ⟨cs, hm⟩ := h.mrow
  have kp : ∀ {c : Nat} {o : Obj}, w.heap[c]? = some o → w'.heap[c]? = some o := fun hh => (b.block _ (Array.getElem?_eq_some_iff.1 hh).1).trans hh
  exact
    { box := kp h.box
      regs := h.regs.keep (b.block _ h.regs.lt)
      vars := h.vars.keep (b.block _ h.vars.lt)
      rows := fun i hi => ⟨(h.rows i hi).1.keep (b.block _ (h.rows i hi).1.lt), (b.cell (p := ⟨L.m, i, none⟩) (Array.getElem?_eq_some_iff.1 hm).1).trans (h.rows i hi).2⟩
      mrow := ⟨cs, kp hm⟩
      inp := fun i hi => by
        obtain ⟨c, o, e, h1, h2, h3⟩ := h.inp i hi
        exact ⟨c, o, e, h1, Nat.lt_of_lt_of_le h2 b.size, (b.cell (p := ⟨c, o + i, none⟩) h2).trans h3⟩
      icap := h.icap
      out := h.out.keep fun o _ hl => b.block o hl
      lowB := h.lowB, lowR := h.lowR, lowV := h.lowV, lowM := h.lowM, lowI := h.lowI, rv := h.rv, ri := h.ri, ij := h.ij, oo := h.oo
      low := Nat.le_trans h.low b.size }
/-- A place of a region is written. -/
theorem MAt.setMem (h : MAt L D ui ci vo w s g) (i : Nat) (hi : i < s.mem.length) (j : Nat) (z : Int) : MAt L D ui ci vo (w.setCell ⟨L.mb i, j, none⟩ (.int .i64 z)) { s with mem := s.mem.set i (s.mem[i].set j z) } g := by
  have k := (But.refl (L.mb i) w).set j (.int .i64 z)
  obtain ⟨cs, hm⟩ := h.mrow
  have hr := (h.rows i hi).1
  have nb := hr.ne h.box (by decide)
  have nm := hr.ne hm (by decide)
  have on : vo.ownBlock ≠ some (L.mb i) := fun e => (h.oo _ e).2.2 i hi rfl
  have lm : (s.mem.set i (s.mem[i].set j z)).length = s.mem.length := List.length_set ..
  exact
    { box := by have := keepQ h.box k (Ne.symm nb); simpa using this
      regs := h.regs.keep (k.block _ h.regs.lt (Ne.symm (h.ri i hi).1))
      vars := h.vars.keep (k.block _ h.vars.lt (Ne.symm (h.ri i hi).2))
      rows := fun q hq => by
        simp only [lm] at hq
        have c0 := (k.cell (i := q) (Array.getElem?_eq_some_iff.1 hm).1 (Ne.symm nm)).trans (h.rows q hq).2
        by_cases e : i = q
        · subst e
          simp only [List.getElem_set_self, List.length_set]
          exact ⟨hr.set j z, c0⟩
        · simp only [List.getElem_set_ne e]
          exact ⟨(h.rows q hq).1.keep (k.block _ (h.rows q hq).1.lt (fun e2 => e (h.ij q i hq hi e2).symm)), c0⟩
      mrow := ⟨cs, keepQ hm k (Ne.symm nm)⟩
      inp := fun q hq => by
        obtain ⟨b, o, e, h1, h2, h3⟩ := h.inp q hq
        exact ⟨b, o, e, h1, Nat.lt_of_lt_of_le h2 k.size, (k.cell h2 (by have := h.lowI i hi; omega)).trans h3⟩
      icap := h.icap
      out := h.out.butB k on
      lowB := h.lowB, lowR := h.lowR, lowV := h.lowV, lowM := h.lowM
      lowI := fun q hq => h.lowI q (by simpa using hq)
      rv := h.rv
      ri := fun q hq => h.ri q (by simpa using hq)
      ij := fun q p hq hp => h.ij q p (by simpa using hq) (by simpa using hp)
      oo := fun o e => ⟨(h.oo o e).1, (h.oo o e).2.1, fun q hq => (h.oo o e).2.2 q (by simpa using hq)⟩
      low := Nat.le_trans h.low k.size }
/-- One number more is put out: the list has grown, and its slice is laid in the box. -/
theorem MAt.setOut (h : MAt L D ui ci vo w s g) {v' : Value} {l' : List Int} (gr : w.grownBy w' vo.ownBlock) (o : OwnN IntE w' D v' l') (loc : v'.ownBlock = vo.ownBlock ∨ v'.ownBlock = some w.heap.size) :
    MAt L D ui ci v' (w'.setCell ⟨L.b, 7, none⟩ v') { s with out := l' } g ∧ w'.cell? ⟨L.b, 7, none⟩ = some vo ∧ w'.frozen? ⟨L.b, 7, none⟩ = false := by
  obtain ⟨cs, hm⟩ := h.mrow
  have blk : ∀ {c : Nat}, c < w.heap.size → vo.ownBlock ≠ some c → w'.heap[c]? = w.heap[c]? := fun hl hne => gr.block _ hl (fun e => hne e.symm)
  have obs : ∀ {c : Nat} {cs : Array Value} {T : TypeId} {m : Nat × Nat}, w.heap[c]? = some (.cells cs T m) → 3 ≠ T → vo.ownBlock ≠ some c := fun hh hT e => by
    obtain ⟨cur, h2⟩ := h.out.block e
    exact typ_ne2 h2 hh hT rfl
  have bl := (Array.getElem?_eq_some_iff.1 h.box).1
  have ml := (Array.getElem?_eq_some_iff.1 hm).1
  have b1 := (blk bl (obs h.box (by decide))).trans h.box
  have m1 := (blk ml (obs hm (by decide))).trans hm
  have k := (But.refl L.b w').set 7 v'
  have r1 := h.regs.keep (blk h.regs.lt (fun e => (h.oo _ e).1 rfl))
  have v1 := h.vars.keep (blk h.vars.lt (fun e => (h.oo _ e).2.1 rfl))
  have q1 := fun i hi => (h.rows i hi).1.keep (blk (h.rows i hi).1.lt (fun e => (h.oo _ e).2.2 i hi rfl))
  have nm := typ_ne2 m1 b1 (by decide)
  have on : v'.ownBlock ≠ some L.b := fun e => by
    obtain ⟨cur, hh⟩ := o.block e
    exact absurd rfl (typ_ne2 hh b1 (by decide))
  have hbox : (w'.setCell ⟨L.b, 7, none⟩ v').heap[L.b]? = some (.cells #[.slice (some ⟨L.m, 0, none⟩) s.mem.length L.cm, .slice (some ⟨L.v, 0, none⟩) s.vars.length L.cv, .slice ui s.input.length ci, .int .i64 s.fuel, .int .i64 s.code, .bool s.over, .int .i64 s.val, v'] 77 (0, 0)) := by
    rw [box_set b1]; simp
  refine ⟨
    { box := hbox
      regs := r1.keep (k.block _ r1.lt (r1.ne b1 (by decide)))
      vars := v1.keep (k.block _ v1.lt (v1.ne b1 (by decide)))
      rows := fun i hi => ⟨(q1 i hi).keep (k.block _ (q1 i hi).lt ((q1 i hi).ne b1 (by decide))), by
        have c0 : w'.cell? ⟨L.m, i, none⟩ = w.cell? ⟨L.m, i, none⟩ := World.cell?_of_block (a := ⟨L.m, i, none⟩) (blk ml (obs hm (by decide)))
        exact ((k.cell (i := i) (Array.getElem?_eq_some_iff.1 m1).1 nm).trans c0).trans (h.rows i hi).2⟩
      mrow := ⟨cs, keepQ m1 k nm⟩
      inp := fun i hi => by
        obtain ⟨b, q, e, h1, h2, h3⟩ := h.inp i hi
        have nob : vo.ownBlock ≠ some b := fun e2 => by have := (h.out.low b e2).1; omega
        have c0 : w'.cell? ⟨b, q + i, none⟩ = w.cell? ⟨b, q + i, none⟩ := World.cell?_of_block (a := ⟨b, q + i, none⟩) (blk h2 nob)
        have hl : b < w'.heap.size := Nat.lt_of_lt_of_le h2 gr.size
        exact ⟨b, q, e, h1, Nat.lt_of_lt_of_le hl k.size, ((k.cell hl (by have := h.lowB; omega)).trans c0).trans h3⟩
      icap := h.icap
      out := o.butB k on
      lowB := h.lowB, lowR := h.lowR, lowV := h.lowV, lowM := h.lowM, lowI := h.lowI, rv := h.rv, ri := h.ri, ij := h.ij
      oo := fun c e => by
        rcases loc with e2 | e2
        · exact h.oo c (e2 ▸ e)
        · rw [e2] at e
          have ec : w.heap.size = c := by simpa using e
          have l1 := h.regs.lt
          have l2 := h.vars.lt
          refine ⟨by omega, by omega, fun i hi => ?_⟩
          have l3 := (h.rows i hi).1.lt
          omega
      low := Nat.le_trans (Nat.le_trans h.low gr.size) k.size }, (cells_of b1).1 7, (cells_of b1).2 7⟩
end
/-- append of one number, and where it lies. -/
theorem run_appL {w : World} {B : Nat} {v1 : Value} {l1 : List Int} {x : Int} {b o2 cap2 : Nat} (ty : TypeId) (h1 : OwnN IntE w B v1 l1) (h2 : w.cell? ⟨b, o2, none⟩ = some (.int .i64 x)) (hn : l1.length + 1 ≤ 8000000) (hB : B ≤ w.heap.size) :
    ∃ v' w', (Builtin.append_ #[22, 22] ty #[v1, .slice (some ⟨b, o2, none⟩) 1 cap2]).run Tryd.prog w = .ok v' w' ∧ OwnN IntE w' B v' (l1 ++ [x]) ∧ w.grownBy w' v1.ownBlock ∧ (v'.ownBlock = v1.ownBlock ∨ v'.ownBlock = some w.heap.size) := by
  obtain ⟨i0, hi, hz0, hz1, hz2⟩ := info_parts IntOk.info
  obtain ⟨v', w', hr, ho, hg, _, hloc⟩ := run_append_own_at (P := Tryd.prog) w B 22 ty 3 i0 (.int .i64 0) 1 8 IntOk.und hi hz0 hz1 hz2 rfl (by decide) v1 l1.length (l1.flatMap IntE.cs) h1 ⟨b, o2, none⟩ 1 cap2 [.int .i64 x] rfl (fun j u hj => by
      match j, hj with
      | 0, hj => simp at hj; subst hj; rw [addr_add']; exact h2
      | j + 1, hj => simp at hj) (fun u hu => by simp at hu; subst hu; rfl) (by unfold maxLen; omega) (by omega) hB
  refine ⟨v', w', hr, ?_, hg, hloc⟩
  unfold OwnN
  rw [List.length_append, List.flatMap_append]
  simpa [IntE] using ho
theorem step_appL {ops : Array Oper} {o : Oper} {a : Act} {Q : Exit → Act → World → Prop} {K : Act → World → Prop} {F : Prop} (w : World) (hgd : o.guard = none) (s y : Operand) (ho : o.op = .call { callee := .builtin .append, args := #[s, y], argTypes := #[22, 22] })
    (B : Nat) (v1 : Value) (l1 : List Int) (x : Int) (b o2 cap2 : Nat) (hs : a.eval s = v1) (hx : a.eval y = .slice (some ⟨b, o2, none⟩) 1 cap2) (h1 : OwnN IntE w B v1 l1) (h2 : w.cell? ⟨b, o2, none⟩ = some (.int .i64 x)) (hn : l1.length + 1 ≤ 8000000) (hB : B ≤ w.heap.size)
    (h : ∀ v' w', OwnN IntE w' B v' (l1 ++ [x]) → w.grownBy w' v1.ownBlock → (v'.ownBlock = v1.ownBlock ∨ v'.ownBlock = some w.heap.size) → K (a.put o.dst v') w') :
    if Region.wanted o (yielded ops a.tmps) = true then Oper.wp Tryd.prog o a w K Q else F := by
  have hw : Region.wanted o (yielded ops a.tmps) = true := by simp [Region.wanted, hgd]
  rw [if_pos hw]
  obtain ⟨v', w', hr, r1, r2, r3⟩ := run_appL (cap2 := cap2) o.type h1 h2 hn hB
  unfold Oper.wp execOp
  simp only [ho, resolve, invoke, builtin, Sem.run_bind, Sem.run_pure, Result.andThen_ok, List.map_toArray, List.map_cons, List.map_nil, hs, hx, hr]
  exact h v' w' r1 r2 r3
end Go.Proofs.YtpkfbabgcinhhaaDoor
