/- The program's ledger: the contracts of Bin, newBase, reckoned (written by wip/mkled.py). -/
import Derived.Test.YtgiboadcfnfooabLedD
import Derived.Deep.RegionHeld3
import Derived.BigQuiet
namespace Go.Proofs.Ytgiboadcfnfooab
open Go.ChangeShapes Go.WideShapes Go.ChangeAt Go.RowKit
theorem as_ff (v : Value) (w : World) : (Instr.typeAssert (.iface 89 v) 88 89 true).run Try.prog w = .ok (.tuple #[v, .bool true]) w := by kernel_rfl
theorem as_fd (v : Value) (w : World) : (Instr.typeAssert (.iface 89 v) 88 104 true).run Try.prog w = .ok (.tuple #[.agg #[.int .i64 0, .int .i64 0], .bool false]) w := by kernel_rfl
theorem as_df (v : Value) (w : World) : (Instr.typeAssert (.iface 104 v) 88 89 true).run Try.prog w = .ok (.tuple #[.int .i64 0, .bool false]) w := by kernel_rfl
theorem as_dd (v : Value) (w : World) : (Instr.typeAssert (.iface 104 v) 88 104 true).run Try.prog w = .ok (.tuple #[v, .bool true]) w := by kernel_rfl
attribute [local go_sem] as_ff as_fd as_df as_dd
set_option maxHeartbeats 1000000 in
theorem implBin_any (s : ByteArray) (a b : Int) (w : World) :
    Calls Try.prog 77 #[.string s, .int .i64 a, .int .i64 b] w fun e w' => e = .returned (.int .i64 (binL s.toList a b)) ∧ w' = w := by
  go_enter Try.func77, Try.ntmps77
  go_wp2
  all_goals first | (simp_all; done) | skip
  all_goals go_ret
  all_goals refine ⟨ret_int ?_, rfl⟩
  all_goals simp only [binL, *, if_true, if_false, Bool.false_eq_true]
  all_goals first | rfl | (rw [if_pos (by omega)]; done) | (rw [if_neg (by omega)]; done) | skip
/-- The number of new bases is told anew. -/
theorem led_more {w : World} {L S n f : Nat} (h : w.heap[L]? = some (.cells (ledHead S n f) 62 (0, 0))) (k : Nat) : (w.setCell ⟨L, 1, none⟩ (.int .i64 (k : Int))).heap[L]? = some (.cells (ledHead S n k) 62 (0, 0)) := by
  rw [heap_setCell_same w L 1 _ _ _ h]; rfl
theorem but_drew {L : Nat} (w : World) : But L w w.drew := But.on (But.refl L w) (Below.refl _ _).drew
theorem But.after {b : Nat} {w w1 w2 : World} (h : But b w w1) (k : But b w1 w2) : But b w w2 :=
  ⟨k.os.trans h.os, k.tape.trans h.tape, k.output.trans h.output, Nat.le_trans h.size k.size, fun i hi hne => (k.block i (Nat.lt_of_lt_of_le hi h.size) hne).trans (h.block i hi hne)⟩
theorem led_end {w W : World} {L : Nat} {o : Obj} (h : w.heap[L]? = some o) (hL : L < w.heap.size) (B : Below w.heap.size w W) : But L w W ∧ W.heap[L]? = some o := ⟨But.on (But.refl L w) B, (B.block L hL).trans h⟩
set_option maxHeartbeats 1000000 in
theorem newBase_any (w : World) (L S : Nat) (l : Led) (h : LedIs w L S l) (hn : l.slots.length + l.fresh ≤ 1000000) :
    Calls Try.prog 66 #[.pointer (some ⟨L, 0, none⟩)] w fun e w' => e = .returned (symV ⟨(l.slots.length : Int) + l.fresh, 0⟩) ∧ But L w w' ∧ w'.heap[L]? = some (.cells (ledHead S l.slots.length (l.fresh + 1)) 62 (0, 0)) := by
  rw [symV_dist (by omega)]
  obtain ⟨c0, c1, f0, f1⟩ := h.head
  have HL := hideP h.2.1
  clear h
  go_enter Try.func66, Try.ntmps66
  go_wp2
  go_region
  go_wp2
  go_ret
  refine ⟨rfl, But.set (but_drew w) _ _, ?_⟩
  have e : ((l.fresh : Int) + 1) = ((l.fresh + 1 : Nat) : Int) := by omega
  rw [e]
  exact led_more (w := w.drew) HL.out _
set_option maxRecDepth 100000 in
set_option maxHeartbeats 4000000 in
theorem reckoned_ff (w : World) (L S : Nat) (l : Led) (op d c n : Int) (na nb : Nat) (t : ByteArray) (ba oa bb ob : Int) (h : LedIs w L S l) (hn : l.slots.length + l.fresh ≤ 1000000) (hna : na < l.slots.length) (hnb : nb < l.slots.length)
    (ea : l.slots[na] = ⟨ba, oa⟩) (eb : l.slots[nb] = ⟨bb, ob⟩) (ka : ba = -1) (kb : bb = -1) :
    Calls Try.prog 65 #[.pointer (some ⟨L, 0, none⟩), .agg #[.int .i64 op, .int .i64 d, .int .i64 (na : Int), .int .i64 (nb : Int), .int .i64 c, .int .i64 n, .string t]] w
      fun e w' => e = .returned (symV (l.made (symBin t.toList ⟨ba, oa⟩ ⟨bb, ob⟩))) ∧ But L w w' ∧ w'.heap[L]? = some (.cells (ledHead S l.slots.length (l.next (symBin t.toList ⟨ba, oa⟩ ⟨bb, ob⟩))) 62 (0, 0)) := by
  obtain ⟨c0, c1, f0, f1⟩ := h.head
  have ca := h.2.2.at na hna
  have cb := h.2.2.at nb hnb
  rw [ea] at ca
  rw [eb] at cb
  obtain ⟨hL, hS⟩ := h.lt
  have HH := hideP h
  have HL := hideP h.2.1
  clear h ea eb
  have _ := hn
  subst ka kb
  rw [symV_fig] at ca cb
  have E : Hid (symBin t.toList ⟨-1, oa⟩ ⟨-1, ob⟩ = some ⟨-1, binL t.toList oa ob⟩) := by show _ = _; simp [symBin, *]
  rw [E.out]
  simp only [Led.made, Led.next, Option.getD_some]
  rw [symV_fig]
  go_enter Try.func65, Try.ntmps65
  go_wp2
  go_region
  go_wp2
  go_region
  go_wp2_with (go_at_call 77; refine (implBin_any t oa ob _).mono ?_; rintro e1 w1 ⟨rfl, rfl⟩)
  go_ret
  exact ⟨rfl, led_end HL.out hL (by first | exact ((Below.refl _ _).alloc (Nat.le_refl _) _).drew.drew | exact ((((Below.refl _ _).alloc (Nat.le_refl _) _).alloc (by simp) _).drew.drew.drew) | exact ((((Below.refl _ _).alloc (Nat.le_refl _) _).alloc (by simp) _).drew.drew) | exact (((Below.refl _ _).alloc (Nat.le_refl _) _).drew.drew.alloc (by simp) _) | exact ((((Below.refl _ _).alloc (Nat.le_refl _) _).drew.alloc (by simp) _).drew) | exact ((((Below.refl _ _).alloc (Nat.le_refl _) _).drew.alloc (by simp) _).drew.drew) | exact (((((Below.refl _ _).alloc (Nat.le_refl _) _).drew.alloc (by simp) _).drew.alloc (by simp; omega) _)))⟩
set_option maxRecDepth 100000 in
set_option maxHeartbeats 4000000 in
theorem reckoned_fd (w : World) (L S : Nat) (l : Led) (op d c n : Int) (na nb : Nat) (t : ByteArray) (ba oa bb ob : Int) (h : LedIs w L S l) (hn : l.slots.length + l.fresh ≤ 1000000) (hna : na < l.slots.length) (hnb : nb < l.slots.length)
    (ea : l.slots[na] = ⟨ba, oa⟩) (eb : l.slots[nb] = ⟨bb, ob⟩) (ka : ba = -1) (kb : bb ≠ -1) :
    Calls Try.prog 65 #[.pointer (some ⟨L, 0, none⟩), .agg #[.int .i64 op, .int .i64 d, .int .i64 (na : Int), .int .i64 (nb : Int), .int .i64 c, .int .i64 n, .string t]] w
      fun e w' => e = .returned (symV (l.made (symBin t.toList ⟨ba, oa⟩ ⟨bb, ob⟩))) ∧ But L w w' ∧ w'.heap[L]? = some (.cells (ledHead S l.slots.length (l.next (symBin t.toList ⟨ba, oa⟩ ⟨bb, ob⟩))) 62 (0, 0)) := by
  obtain ⟨c0, c1, f0, f1⟩ := h.head
  have ca := h.2.2.at na hna
  have cb := h.2.2.at nb hnb
  rw [ea] at ca
  rw [eb] at cb
  obtain ⟨hL, hS⟩ := h.lt
  have HH := hideP h
  have HL := hideP h.2.1
  clear h ea eb
  have _ := hn
  subst ka
  rw [symV_fig] at ca
  rw [symV_dist kb] at cb
  by_cases hp : (t.toList == [43]) = true
  · have E : Hid (symBin t.toList ⟨-1, oa⟩ ⟨bb, ob⟩ = some ⟨bb, wrap64 (oa + ob)⟩) := by show _ = _; simp [symBin, *]
    rw [E.out]
    simp only [Led.made, Led.next, Option.getD_some]
    rw [symV_dist kb]
    go_enter Try.func65, Try.ntmps65
    go_wp2
    go_region
    go_wp2
    go_region
    go_wp2
    go_ret
    exact ⟨rfl, led_end HL.out hL (by first | exact ((Below.refl _ _).alloc (Nat.le_refl _) _).drew.drew | exact ((((Below.refl _ _).alloc (Nat.le_refl _) _).alloc (by simp) _).drew.drew.drew) | exact ((((Below.refl _ _).alloc (Nat.le_refl _) _).alloc (by simp) _).drew.drew) | exact (((Below.refl _ _).alloc (Nat.le_refl _) _).drew.drew.alloc (by simp) _) | exact ((((Below.refl _ _).alloc (Nat.le_refl _) _).drew.alloc (by simp) _).drew) | exact ((((Below.refl _ _).alloc (Nat.le_refl _) _).drew.alloc (by simp) _).drew.drew) | exact (((((Below.refl _ _).alloc (Nat.le_refl _) _).drew.alloc (by simp) _).drew.alloc (by simp; omega) _)))⟩
  · have hp : (t.toList == [43]) = false := by simpa using hp
    have E : Hid (symBin t.toList ⟨-1, oa⟩ ⟨bb, ob⟩ = none) := by show _ = _; simp [symBin, *]; try omega
    rw [E.out]
    simp only [Led.made, Led.next, Option.getD_none]
    go_enter Try.func65, Try.ntmps65
    go_wp2
    go_region
    go_wp2
    go_region
    go_wp2_with fail
    refine (newBase_any _ L S l (HH.out.stays (by first | exact ((Below.refl _ _).alloc (Nat.le_refl _) _).drew.drew | exact ((((Below.refl _ _).alloc (Nat.le_refl _) _).alloc (by simp) _).drew.drew.drew) | exact ((((Below.refl _ _).alloc (Nat.le_refl _) _).alloc (by simp) _).drew.drew) | exact (((Below.refl _ _).alloc (Nat.le_refl _) _).drew.drew.alloc (by simp) _) | exact ((((Below.refl _ _).alloc (Nat.le_refl _) _).drew.alloc (by simp) _).drew) | exact ((((Below.refl _ _).alloc (Nat.le_refl _) _).drew.alloc (by simp) _).drew.drew) | exact (((((Below.refl _ _).alloc (Nat.le_refl _) _).drew.alloc (by simp) _).drew.alloc (by simp; omega) _)))) hn).mono ?_
    rintro e1 w1 ⟨rfl, but1, hb1⟩
    have BB : Hid (But L w w1) := (led_end HL.out hL (by first | exact ((Below.refl _ _).alloc (Nat.le_refl _) _).drew.drew | exact ((((Below.refl _ _).alloc (Nat.le_refl _) _).alloc (by simp) _).drew.drew.drew) | exact ((((Below.refl _ _).alloc (Nat.le_refl _) _).alloc (by simp) _).drew.drew) | exact (((Below.refl _ _).alloc (Nat.le_refl _) _).drew.drew.alloc (by simp) _) | exact ((((Below.refl _ _).alloc (Nat.le_refl _) _).drew.alloc (by simp) _).drew) | exact ((((Below.refl _ _).alloc (Nat.le_refl _) _).drew.alloc (by simp) _).drew.drew) | exact (((((Below.refl _ _).alloc (Nat.le_refl _) _).drew.alloc (by simp) _).drew.alloc (by simp; omega) _)))).1.after but1
    have HB1 := hideP hb1
    clear but1 hb1
    go_wp2
    go_ret
    exact ⟨rfl, BB.out, HB1.out⟩
set_option maxRecDepth 100000 in
set_option maxHeartbeats 4000000 in
theorem reckoned_df (w : World) (L S : Nat) (l : Led) (op d c n : Int) (na nb : Nat) (t : ByteArray) (ba oa bb ob : Int) (h : LedIs w L S l) (hn : l.slots.length + l.fresh ≤ 1000000) (hna : na < l.slots.length) (hnb : nb < l.slots.length)
    (ea : l.slots[na] = ⟨ba, oa⟩) (eb : l.slots[nb] = ⟨bb, ob⟩) (ka : ba ≠ -1) (kb : bb = -1) :
    Calls Try.prog 65 #[.pointer (some ⟨L, 0, none⟩), .agg #[.int .i64 op, .int .i64 d, .int .i64 (na : Int), .int .i64 (nb : Int), .int .i64 c, .int .i64 n, .string t]] w
      fun e w' => e = .returned (symV (l.made (symBin t.toList ⟨ba, oa⟩ ⟨bb, ob⟩))) ∧ But L w w' ∧ w'.heap[L]? = some (.cells (ledHead S l.slots.length (l.next (symBin t.toList ⟨ba, oa⟩ ⟨bb, ob⟩))) 62 (0, 0)) := by
  obtain ⟨c0, c1, f0, f1⟩ := h.head
  have ca := h.2.2.at na hna
  have cb := h.2.2.at nb hnb
  rw [ea] at ca
  rw [eb] at cb
  obtain ⟨hL, hS⟩ := h.lt
  have HH := hideP h
  have HL := hideP h.2.1
  clear h ea eb
  have _ := hn
  subst kb
  rw [symV_fig] at cb
  rw [symV_dist ka] at ca
  by_cases hp : (t.toList == [43]) = true
  · have E : Hid (symBin t.toList ⟨ba, oa⟩ ⟨-1, ob⟩ = some ⟨ba, wrap64 (oa + ob)⟩) := by show _ = _; simp [symBin, *]
    rw [E.out]
    simp only [Led.made, Led.next, Option.getD_some]
    rw [symV_dist ka]
    go_enter Try.func65, Try.ntmps65
    go_wp2
    go_region
    go_wp2
    go_region
    go_wp2
    have BE : binL t.toList oa ob = wrap64 (oa + ob) := by simp [binL, *]
    have SK : Hid (∀ W', Below ((w.alloc (.cells #[.int .i64 op, .int .i64 d, .int .i64 (na : Int), .int .i64 (nb : Int), .int .i64 c, .int .i64 n, .string t] 66)).alloc (.cells #[.int .i64 ba, .int .i64 oa] 104)).heap.size ((w.alloc (.cells #[.int .i64 op, .int .i64 d, .int .i64 (na : Int), .int .i64 (nb : Int), .int .i64 c, .int .i64 n, .string t] 66)).alloc (.cells #[.int .i64 ba, .int .i64 oa] 104)) W' → W'.cell? ⟨w.heap.size, 6, none⟩ = some (.string t) ∧ W'.cell? ⟨w.heap.size + 1, 0, none⟩ = some (.int .i64 ba) ∧ W'.cell? ⟨w.heap.size + 1, 1, none⟩ = some (.int .i64 oa)) := fun W' h => ⟨(cells_of (two h).1).1 6, (cells_of (two h).2.1).1 0, (cells_of (two h).2.1).1 1⟩
    go_region_held3 (fun W' => W'.cell? ⟨w.heap.size, 6, none⟩ = some (.string t) ∧ W'.cell? ⟨w.heap.size + 1, 0, none⟩ = some (.int .i64 ba) ∧ W'.cell? ⟨w.heap.size + 1, 1, none⟩ = some (.int .i64 oa)) (first | exact SK.out _ (Below.refl _ _).drew.drew.drew) (first
      | (go_at_call 77; refine (implBin_any t oa ob _).mono ?_; rintro e1 w1 ⟨rfl, rfl⟩))
    all_goals go_wp2
    all_goals go_ret
    all_goals exact ⟨rfl, led_end HL.out hL (by first | exact ((Below.refl _ _).alloc (Nat.le_refl _) _).drew.drew | exact ((((Below.refl _ _).alloc (Nat.le_refl _) _).alloc (by simp) _).drew.drew.drew) | exact ((((Below.refl _ _).alloc (Nat.le_refl _) _).alloc (by simp) _).drew.drew) | exact (((Below.refl _ _).alloc (Nat.le_refl _) _).drew.drew.alloc (by simp) _) | exact ((((Below.refl _ _).alloc (Nat.le_refl _) _).drew.alloc (by simp) _).drew) | exact ((((Below.refl _ _).alloc (Nat.le_refl _) _).drew.alloc (by simp) _).drew.drew) | exact (((((Below.refl _ _).alloc (Nat.le_refl _) _).drew.alloc (by simp) _).drew.alloc (by simp; omega) _)))⟩
  · have hp : (t.toList == [43]) = false := by simpa using hp
    by_cases hm : (t.toList == [45]) = true
    · have E : Hid (symBin t.toList ⟨ba, oa⟩ ⟨-1, ob⟩ = some ⟨ba, wrap64 (oa - ob)⟩) := by show _ = _; simp [symBin, *]
      rw [E.out]
      simp only [Led.made, Led.next, Option.getD_some]
      rw [symV_dist ka]
      go_enter Try.func65, Try.ntmps65
      go_wp2
      go_region
      go_wp2
      go_region
      go_wp2
      have BE : binL t.toList oa ob = wrap64 (oa - ob) := by simp [binL, *]
      have SK : Hid (∀ W', Below ((w.alloc (.cells #[.int .i64 op, .int .i64 d, .int .i64 (na : Int), .int .i64 (nb : Int), .int .i64 c, .int .i64 n, .string t] 66)).alloc (.cells #[.int .i64 ba, .int .i64 oa] 104)).heap.size ((w.alloc (.cells #[.int .i64 op, .int .i64 d, .int .i64 (na : Int), .int .i64 (nb : Int), .int .i64 c, .int .i64 n, .string t] 66)).alloc (.cells #[.int .i64 ba, .int .i64 oa] 104)) W' → W'.cell? ⟨w.heap.size, 6, none⟩ = some (.string t) ∧ W'.cell? ⟨w.heap.size + 1, 0, none⟩ = some (.int .i64 ba) ∧ W'.cell? ⟨w.heap.size + 1, 1, none⟩ = some (.int .i64 oa)) := fun W' h => ⟨(cells_of (two h).1).1 6, (cells_of (two h).2.1).1 0, (cells_of (two h).2.1).1 1⟩
      go_region_held3 (fun W' => W'.cell? ⟨w.heap.size, 6, none⟩ = some (.string t) ∧ W'.cell? ⟨w.heap.size + 1, 0, none⟩ = some (.int .i64 ba) ∧ W'.cell? ⟨w.heap.size + 1, 1, none⟩ = some (.int .i64 oa)) (first | exact SK.out _ (Below.refl _ _).drew.drew.drew) (first
        | (go_at_call 77; refine (implBin_any t oa ob _).mono ?_; rintro e1 w1 ⟨rfl, rfl⟩))
      all_goals go_wp2
      all_goals go_ret
      all_goals exact ⟨rfl, led_end HL.out hL (by first | exact ((Below.refl _ _).alloc (Nat.le_refl _) _).drew.drew | exact ((((Below.refl _ _).alloc (Nat.le_refl _) _).alloc (by simp) _).drew.drew.drew) | exact ((((Below.refl _ _).alloc (Nat.le_refl _) _).alloc (by simp) _).drew.drew) | exact (((Below.refl _ _).alloc (Nat.le_refl _) _).drew.drew.alloc (by simp) _) | exact ((((Below.refl _ _).alloc (Nat.le_refl _) _).drew.alloc (by simp) _).drew) | exact ((((Below.refl _ _).alloc (Nat.le_refl _) _).drew.alloc (by simp) _).drew.drew) | exact (((((Below.refl _ _).alloc (Nat.le_refl _) _).drew.alloc (by simp) _).drew.alloc (by simp; omega) _)))⟩
    · have hm : (t.toList == [45]) = false := by simpa using hm
      have E : Hid (symBin t.toList ⟨ba, oa⟩ ⟨-1, ob⟩ = none) := by show _ = _; simp [symBin, *]
      rw [E.out]
      simp only [Led.made, Led.next, Option.getD_none]
      go_enter Try.func65, Try.ntmps65
      go_wp2
      go_region
      go_wp2
      go_region
      go_wp2_with fail
      refine (newBase_any _ L S l (HH.out.stays (by first | exact ((Below.refl _ _).alloc (Nat.le_refl _) _).drew.drew | exact ((((Below.refl _ _).alloc (Nat.le_refl _) _).alloc (by simp) _).drew.drew.drew) | exact ((((Below.refl _ _).alloc (Nat.le_refl _) _).alloc (by simp) _).drew.drew) | exact (((Below.refl _ _).alloc (Nat.le_refl _) _).drew.drew.alloc (by simp) _) | exact ((((Below.refl _ _).alloc (Nat.le_refl _) _).drew.alloc (by simp) _).drew) | exact ((((Below.refl _ _).alloc (Nat.le_refl _) _).drew.alloc (by simp) _).drew.drew) | exact (((((Below.refl _ _).alloc (Nat.le_refl _) _).drew.alloc (by simp) _).drew.alloc (by simp; omega) _)))) hn).mono ?_
      rintro e1 w1 ⟨rfl, but1, hb1⟩
      have BB : Hid (But L w w1) := (led_end HL.out hL (by first | exact ((Below.refl _ _).alloc (Nat.le_refl _) _).drew.drew | exact ((((Below.refl _ _).alloc (Nat.le_refl _) _).alloc (by simp) _).drew.drew.drew) | exact ((((Below.refl _ _).alloc (Nat.le_refl _) _).alloc (by simp) _).drew.drew) | exact (((Below.refl _ _).alloc (Nat.le_refl _) _).drew.drew.alloc (by simp) _) | exact ((((Below.refl _ _).alloc (Nat.le_refl _) _).drew.alloc (by simp) _).drew) | exact ((((Below.refl _ _).alloc (Nat.le_refl _) _).drew.alloc (by simp) _).drew.drew) | exact (((((Below.refl _ _).alloc (Nat.le_refl _) _).drew.alloc (by simp) _).drew.alloc (by simp; omega) _)))).1.after but1
      have HB1 := hideP hb1
      clear but1 hb1
      go_wp2
      go_ret
      exact ⟨rfl, BB.out, HB1.out⟩
set_option maxRecDepth 100000 in
set_option maxHeartbeats 4000000 in
theorem reckoned_dd (w : World) (L S : Nat) (l : Led) (op d c n : Int) (na nb : Nat) (t : ByteArray) (ba oa bb ob : Int) (h : LedIs w L S l) (hn : l.slots.length + l.fresh ≤ 1000000) (hna : na < l.slots.length) (hnb : nb < l.slots.length)
    (ea : l.slots[na] = ⟨ba, oa⟩) (eb : l.slots[nb] = ⟨bb, ob⟩) (ka : ba ≠ -1) (kb : bb ≠ -1) :
    Calls Try.prog 65 #[.pointer (some ⟨L, 0, none⟩), .agg #[.int .i64 op, .int .i64 d, .int .i64 (na : Int), .int .i64 (nb : Int), .int .i64 c, .int .i64 n, .string t]] w
      fun e w' => e = .returned (symV (l.made (symBin t.toList ⟨ba, oa⟩ ⟨bb, ob⟩))) ∧ But L w w' ∧ w'.heap[L]? = some (.cells (ledHead S l.slots.length (l.next (symBin t.toList ⟨ba, oa⟩ ⟨bb, ob⟩))) 62 (0, 0)) := by
  obtain ⟨c0, c1, f0, f1⟩ := h.head
  have ca := h.2.2.at na hna
  have cb := h.2.2.at nb hnb
  rw [ea] at ca
  rw [eb] at cb
  obtain ⟨hL, hS⟩ := h.lt
  have HH := hideP h
  have HL := hideP h.2.1
  clear h ea eb
  have _ := hn
  rw [symV_dist kb] at cb
  rw [symV_dist ka] at ca
  by_cases hm : (t.toList == [45]) = true
  · by_cases he : (ba == bb) = true
    · have E : Hid (symBin t.toList ⟨ba, oa⟩ ⟨bb, ob⟩ = some ⟨-1, wrap64 (oa - ob)⟩) := by show _ = _; have hb0 : ba = bb := eq_of_beq he; simp only [symBin, hm, hb0, and_self, if_true, kb, and_false, if_false]
      rw [E.out]
      simp only [Led.made, Led.next, Option.getD_some]
      rw [symV_fig]
      go_enter Try.func65, Try.ntmps65
      go_wp2
      go_region
      go_wp2
      go_region
      go_wp2
      go_ret
      exact ⟨rfl, led_end HL.out hL (by first | exact ((Below.refl _ _).alloc (Nat.le_refl _) _).drew.drew | exact ((((Below.refl _ _).alloc (Nat.le_refl _) _).alloc (by simp) _).drew.drew.drew) | exact ((((Below.refl _ _).alloc (Nat.le_refl _) _).alloc (by simp) _).drew.drew) | exact (((Below.refl _ _).alloc (Nat.le_refl _) _).drew.drew.alloc (by simp) _) | exact ((((Below.refl _ _).alloc (Nat.le_refl _) _).drew.alloc (by simp) _).drew) | exact ((((Below.refl _ _).alloc (Nat.le_refl _) _).drew.alloc (by simp) _).drew.drew) | exact (((((Below.refl _ _).alloc (Nat.le_refl _) _).drew.alloc (by simp) _).drew.alloc (by simp; omega) _)))⟩
    · have he : (ba == bb) = false := by simpa using he
      have E : Hid (symBin t.toList ⟨ba, oa⟩ ⟨bb, ob⟩ = none) := by show _ = _; have hb0 : ¬ ba = bb := (fun e => by simp [e] at he); simp only [symBin, ka, kb, hb0, and_false, if_false]
      rw [E.out]
      simp only [Led.made, Led.next, Option.getD_none]
      go_enter Try.func65, Try.ntmps65
      go_wp2
      go_region
      go_wp2
      go_region
      go_wp2_with fail
      refine (newBase_any _ L S l (HH.out.stays (by first | exact ((Below.refl _ _).alloc (Nat.le_refl _) _).drew.drew | exact ((((Below.refl _ _).alloc (Nat.le_refl _) _).alloc (by simp) _).drew.drew.drew) | exact ((((Below.refl _ _).alloc (Nat.le_refl _) _).alloc (by simp) _).drew.drew) | exact (((Below.refl _ _).alloc (Nat.le_refl _) _).drew.drew.alloc (by simp) _) | exact ((((Below.refl _ _).alloc (Nat.le_refl _) _).drew.alloc (by simp) _).drew) | exact ((((Below.refl _ _).alloc (Nat.le_refl _) _).drew.alloc (by simp) _).drew.drew) | exact (((((Below.refl _ _).alloc (Nat.le_refl _) _).drew.alloc (by simp) _).drew.alloc (by simp; omega) _)))) hn).mono ?_
      rintro e1 w1 ⟨rfl, but1, hb1⟩
      have BB : Hid (But L w w1) := (led_end HL.out hL (by first | exact ((Below.refl _ _).alloc (Nat.le_refl _) _).drew.drew | exact ((((Below.refl _ _).alloc (Nat.le_refl _) _).alloc (by simp) _).drew.drew.drew) | exact ((((Below.refl _ _).alloc (Nat.le_refl _) _).alloc (by simp) _).drew.drew) | exact (((Below.refl _ _).alloc (Nat.le_refl _) _).drew.drew.alloc (by simp) _) | exact ((((Below.refl _ _).alloc (Nat.le_refl _) _).drew.alloc (by simp) _).drew) | exact ((((Below.refl _ _).alloc (Nat.le_refl _) _).drew.alloc (by simp) _).drew.drew) | exact (((((Below.refl _ _).alloc (Nat.le_refl _) _).drew.alloc (by simp) _).drew.alloc (by simp; omega) _)))).1.after but1
      have HB1 := hideP hb1
      clear but1 hb1
      go_wp2
      go_ret
      exact ⟨rfl, BB.out, HB1.out⟩
  · have hm : (t.toList == [45]) = false := by simpa using hm
    have E : Hid (symBin t.toList ⟨ba, oa⟩ ⟨bb, ob⟩ = none) := by show _ = _; simp [symBin, *]
    rw [E.out]
    simp only [Led.made, Led.next, Option.getD_none]
    go_enter Try.func65, Try.ntmps65
    go_wp2
    go_region
    go_wp2
    go_region
    go_wp2_with fail
    refine (newBase_any _ L S l (HH.out.stays (by first | exact ((Below.refl _ _).alloc (Nat.le_refl _) _).drew.drew | exact ((((Below.refl _ _).alloc (Nat.le_refl _) _).alloc (by simp) _).drew.drew.drew) | exact ((((Below.refl _ _).alloc (Nat.le_refl _) _).alloc (by simp) _).drew.drew) | exact (((Below.refl _ _).alloc (Nat.le_refl _) _).drew.drew.alloc (by simp) _) | exact ((((Below.refl _ _).alloc (Nat.le_refl _) _).drew.alloc (by simp) _).drew) | exact ((((Below.refl _ _).alloc (Nat.le_refl _) _).drew.alloc (by simp) _).drew.drew) | exact (((((Below.refl _ _).alloc (Nat.le_refl _) _).drew.alloc (by simp) _).drew.alloc (by simp; omega) _)))) hn).mono ?_
    rintro e1 w1 ⟨rfl, but1, hb1⟩
    have BB : Hid (But L w w1) := (led_end HL.out hL (by first | exact ((Below.refl _ _).alloc (Nat.le_refl _) _).drew.drew | exact ((((Below.refl _ _).alloc (Nat.le_refl _) _).alloc (by simp) _).drew.drew.drew) | exact ((((Below.refl _ _).alloc (Nat.le_refl _) _).alloc (by simp) _).drew.drew) | exact (((Below.refl _ _).alloc (Nat.le_refl _) _).drew.drew.alloc (by simp) _) | exact ((((Below.refl _ _).alloc (Nat.le_refl _) _).drew.alloc (by simp) _).drew) | exact ((((Below.refl _ _).alloc (Nat.le_refl _) _).drew.alloc (by simp) _).drew.drew) | exact (((((Below.refl _ _).alloc (Nat.le_refl _) _).drew.alloc (by simp) _).drew.alloc (by simp; omega) _)))).1.after but1
    have HB1 := hideP hb1
    clear but1 hb1
    go_wp2
    go_ret
    exact ⟨rfl, BB.out, HB1.out⟩
theorem reckoned_any (w : World) (L S : Nat) (l : Led) (op d c n : Int) (na nb : Nat) (t : ByteArray) (h : LedIs w L S l) (hn : l.slots.length + l.fresh ≤ 1000000) (hna : na < l.slots.length) (hnb : nb < l.slots.length) :
    Calls Try.prog 65 #[.pointer (some ⟨L, 0, none⟩), .agg #[.int .i64 op, .int .i64 d, .int .i64 (na : Int), .int .i64 (nb : Int), .int .i64 c, .int .i64 n, .string t]] w
      fun e w' => e = .returned (symV (l.made (symBin t.toList l.slots[na] l.slots[nb]))) ∧ But L w w' ∧ w'.heap[L]? = some (.cells (ledHead S l.slots.length (l.next (symBin t.toList l.slots[na] l.slots[nb]))) 62 (0, 0)) := by
  obtain ⟨⟨ba, oa⟩, ea⟩ : ∃ s, l.slots[na] = s := ⟨_, rfl⟩
  obtain ⟨⟨bb, ob⟩, eb⟩ : ∃ s, l.slots[nb] = s := ⟨_, rfl⟩
  rw [ea, eb]
  by_cases ka : ba = -1 <;> by_cases kb : bb = -1
  · exact reckoned_ff w L S l op d c n na nb t ba oa bb ob h hn hna hnb ea eb ka kb
  · exact reckoned_fd w L S l op d c n na nb t ba oa bb ob h hn hna hnb ea eb ka kb
  · exact reckoned_df w L S l op d c n na nb t ba oa bb ob h hn hna hnb ea eb ka kb
  · exact reckoned_dd w L S l op d c n na nb t ba oa bb ob h hn hna hnb ea eb ka kb
end Go.Proofs.Ytgiboadcfnfooab
