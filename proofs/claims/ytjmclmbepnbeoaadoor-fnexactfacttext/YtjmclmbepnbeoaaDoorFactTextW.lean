/- The walk of the law FnExactFactText. -/
import Derived.Test.YtjmclmbepnbeoaaDoorFtI
import Derived.Test.YtjmclmbepnbeoaaDoorFactTo
import Derived.Test.YtjmclmbepnbeoaaDoorFactEq
namespace Go.Proofs.YtjmclmbepnbeoaaDoor
open Go.ChangeShapes Go.WideShapes Go.ChangeAt Go.RowKit
namespace FactTextLaw
set_option maxHeartbeats 1000000 in
theorem szFactS_any (w : World) (a : Option Addr) (n cap L : Nat) (hn : n ≤ maxLen) (hL : L ≤ 1048576) :
    Calls Tryd.prog 4 #[.slice a n cap, .int .i64 L] w fun en w' => en = .returned (.int .i64 (szR n L)) ∧ w' = w := by
  have hm := maxLen_lt
  by_cases h0 : n ≤ L
  · rw [szR_pos h0]
    go_enter Tryd.func4, Tryd.ntmps4
    go_wp2
    go_ret
    exact ⟨ret_int (by omega), rfl⟩
  · rw [szR_neg (by omega)]
    go_enter Tryd.func4, Tryd.ntmps4
    go_wp2
    go_ret
    exact ⟨rfl, rfl⟩
set_option maxRecDepth 100000 in
set_option maxHeartbeats 4000000 in
theorem walk (xs : List Fct) (a : Option Addr) (cap : Nat) (w : World) (h : SlIs FctIs 2 w 0 a xs) (htab : TabF w) :
    Calls Tryd.prog 3 #[.slice a xs.length cap] w fun en w' => en = .returned (.bool true) ∧ Below w.heap.size w w' := by
  have hm := h.1
  have SZ := hideP (szFactS_any w a xs.length cap 1048576 hm (Nat.le_refl _))
  by_cases hl : xs.length ≤ 1048576
  · rw [szR_pos hl] at SZ
    have H := hideP h
    have TO : Hid (∀ W, Below w.heap.size w W → Calls Tryd.prog 6 #[.slice a xs.length cap] W fun en w' => ∃ g, en = .returned (.slice (some ⟨g, 0, none⟩) xs.length xs.length) ∧ SlIs FctIs 2 w' W.heap.size (some ⟨g, 0, none⟩) xs ∧ Below W.heap.size W w') := fun W hW => toFactS_any xs W 0 a cap (h.stays FctKeeps hW) hl
    obtain ⟨r, hr⟩ : ∃ r : ByteArray, ⟨(ftL xs).toArray⟩ = r := ⟨_, rfl⟩
    have SO : Hid (∀ W g, SlIs FctIs 2 W 0 (some ⟨g, 0, none⟩) xs → Calls Tryd.prog 5 #[.slice (some ⟨g, 0, none⟩) xs.length xs.length] W fun e w' => e = .returned (.string r) ∧ Below W.heap.size W w') := fun W g hg => hr ▸ spec_factText xs W 0 _ _ hg hl
    have IO : Hid (∀ W g, Below w.heap.size w W → SlIs FctIs 2 W 0 (some ⟨g, 0, none⟩) xs → Calls Tryd.prog 7 #[.slice (some ⟨g, 0, none⟩) xs.length xs.length] W fun e w' => e = .returned (.string r) ∧ Below W.heap.size W w') := fun W g hW hg => hr ▸ impl_factText xs W 0 _ _ hg hl (tab_below htab hW)
    have EQ : Hid (∀ W g g', SlIs FctIs 2 W 0 (some ⟨g, 0, none⟩) xs → SlIs FctIs 2 W 0 (some ⟨g', 0, none⟩) xs → Calls Tryd.prog 8 #[.slice (some ⟨g, 0, none⟩) xs.length xs.length, .slice (some ⟨g', 0, none⟩) xs.length xs.length] W fun en w' => en = .returned (.bool true) ∧ Below W.heap.size W w') := fun W g g' h1 h2 => eqFactS_same xs W 0 0 _ _ _ _ h1 h2
    have hnn : ¬ (1048576 : Int) - (xs.length : Nat) < 0 := by omega
    obtain ⟨n, hn⟩ : ∃ n, xs.length = n := ⟨_, rfl⟩
    have e1 : ((1048576 - xs.length : Nat) : Int) = (1048576 : Int) - (xs.length : Nat) := by omega
    obtain ⟨lf, hlf⟩ : ∃ lf : Nat, 1048576 - xs.length = lf := ⟨_, rfl⟩
    rw [hlf] at SZ
    rw [hn] at SZ TO SO IO EQ ⊢
    clear hr hn e1 hlf hnn hl hm h htab
    go_enter Tryd.func3, Tryd.ntmps3
    go_wp2_with fail
    refine SZ.out.mono ?_
    rintro e1 w1 ⟨rfl, hw1⟩
    have hw1' := hw1.symm
    subst hw1'
    clear hw1 SZ
    go_wp2_with fail
    refine (TO.out _ (Below.refl _ _)).mono ?_
    rintro e2 w2 ⟨g2, rfl, s2, b2⟩
    have B2 := hideP b2
    have S2 := hideP (s2.mono FctKeeps (Nat.zero_le _))
    clear s2 b2
    go_wp2_with fail
    refine (SO.out _ _ S2.out).mono ?_
    rintro e3 w3 ⟨rfl, b3⟩
    have B3 := hideP (below_trans B2.out b3)
    clear b3 SO B2 S2
    go_wp2_with fail
    refine (TO.out _ B3.out).mono ?_
    rintro e4 w4 ⟨g4, rfl, s4, b4⟩
    have B4 := hideP (below_trans B3.out b4)
    have S4 := hideP (s4.mono FctKeeps (Nat.zero_le _))
    clear s4 b4 B3
    go_wp2_with fail
    refine (IO.out _ _ B4.out S4.out).mono ?_
    rintro e5 w5 ⟨rfl, b5⟩
    have B5 := hideP (below_trans B4.out b5)
    have S5 := hideP (S4.out.stays FctKeeps b5)
    clear b5 IO B4 S4
    go_wp2_with fail
    refine (TO.out _ B5.out).mono ?_
    rintro e6 w6 ⟨g6, rfl, s6, b6⟩
    have B6 := hideP (below_trans B5.out b6)
    have S6 := hideP (S5.out.stays FctKeeps b6)
    have S7 := hideP (s6.mono FctKeeps (Nat.zero_le _))
    clear s6 b6 B5 S5
    go_wp2_with fail
    refine (EQ.out _ _ _ S6.out S7.out).mono ?_
    rintro e7 w7 ⟨rfl, b7⟩
    have B7 := hideP (below_trans B6.out b7)
    clear b7 B6 S6 S7
    go_wp2
    go_ret
    exact ⟨rfl, B7.out⟩
  · rw [szR_neg (by omega)] at SZ
    clear h htab hl hm
    go_enter Tryd.func3, Tryd.ntmps3
    go_wp2_with fail
    refine SZ.out.mono ?_
    rintro e1 w1 ⟨rfl, hw1⟩
    have hw1' := hw1.symm
    subst hw1'
    go_wp2
    go_ret
    exact ⟨rfl, Below.refl _ _⟩
end FactTextLaw
end Go.Proofs.YtjmclmbepnbeoaaDoor
