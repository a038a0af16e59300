/- The program's ledger as it lies in memory. -/
import Derived.Test.YtelkpikbjfkpcaaGreatInsA
import Derived.Test.YtelkpikbjfkpcaaGreatOwnA
import Derived.Test.YtelkpikbjfkpcaaGreatRowA
import Derived.WalkKit
import Derived.Test.YtelkpikbjfkpcaaGreatFolA
import Derived.Deep.RegionHeld3
import Derived.BigQuiet
import Derived.Deep.CutRange
import Derived.Laws.Rows
import Derived.Test.YtelkpikbjfkpcaaGreatAliB
import Derived.Test.YtelkpikbjfkpcaaGreatGrIAll
namespace Go.Proofs.YtelkpikbjfkpcaaGreat
open Go.ChangeShapes Go.WideShapes Go.ChangeAt Go.RowKit
/-- What a slot holds, as the program has it: a number, or a base and an offset. -/
def symV (s : Sym) : Value := if s.base = -1 then .iface 180 (.int .i64 s.off) else .iface 175 (.agg #[.int .i64 s.base, .int .i64 s.off])
theorem symV_fig (o : Int) : symV ⟨-1, o⟩ = .iface 180 (.int .i64 o) := if_pos rfl
theorem symV_dist {b o : Int} (h : b ≠ -1) : symV ⟨b, o⟩ = .iface 175 (.agg #[.int .i64 b, .int .i64 o]) := if_neg h
def ledHead (S n : Nat) (f : Nat) : Array Value := #[.slice (some ⟨S, 0, none⟩) n n, .int .i64 (f : Int)]
/-- The slots lie in block S. -/
def SymsIs (w : World) (S : Nat) (ss : List Sym) : Prop := ∃ cur, w.heap[S]? = some (.cells cur 177 (0, 0)) ∧ cur.size = ss.length ∧ ∀ i (h : i < ss.length), cur[i]? = some (symV ss[i])
/-- The ledger lies in block L, its slots in block S. -/
def LedIs (w : World) (L S : Nat) (l : Led) : Prop := L ≠ S ∧ w.heap[L]? = some (.cells (ledHead S l.slots.length l.fresh) 173 (0, 0)) ∧ SymsIs w S l.slots
def Led.made (l : Led) (o : Option Sym) : Sym := o.getD ⟨(l.slots.length : Int) + l.fresh, 0⟩
def Led.next (l : Led) (o : Option Sym) : Nat := match o with | some _ => l.fresh | none => l.fresh + 1
theorem putO_eq (l : Led) (n : Int) (o : Option Sym) : l.putO n o = ⟨l.slots.set n.toNat (l.made o), l.next o⟩ := by cases o <;> rfl
theorem SymsIs.at {w : World} {S : Nat} {ss : List Sym} (h : SymsIs w S ss) (i : Nat) (hi : i < ss.length) : w.cell? ⟨S, i, none⟩ = some (symV ss[i]) := by
  obtain ⟨cur, h1, _, h3⟩ := h
  simp only [World.cell?, h1]; exact h3 i hi
theorem SymsIs.free {w : World} {S : Nat} {ss : List Sym} (h : SymsIs w S ss) (i : Nat) : w.frozen? ⟨S, i, none⟩ = false := by
  obtain ⟨cur, h1, _, _⟩ := h
  simp [World.frozen?, h1]
theorem SymsIs.lt {w : World} {S : Nat} {ss : List Sym} (h : SymsIs w S ss) : S < w.heap.size := by
  obtain ⟨cur, h1, _, _⟩ := h
  exact (Array.getElem?_eq_some_iff.1 h1).1
theorem SymsIs.blk {w w' : World} {S : Nat} {ss : List Sym} (h : SymsIs w S ss) (e : w'.heap[S]? = w.heap[S]?) : SymsIs w' S ss := by
  obtain ⟨cur, h1, h2, h3⟩ := h
  exact ⟨cur, e.trans h1, h2, h3⟩
theorem SymsIs.set {w : World} {S : Nat} {ss : List Sym} (h : SymsIs w S ss) (i : Nat) (s : Sym) (hi : i < ss.length) : SymsIs (w.setCell ⟨S, i, none⟩ (symV s)) S (ss.set i s) := by
  obtain ⟨cur, h1, h2, h3⟩ := h
  refine ⟨_, heap_setCell_same w S i cur _ (symV s) h1, by simp [h2], fun k hk => ?_⟩
  have hk' : k < ss.length := by simpa using hk
  rw [Array.getElem?_setIfInBounds, List.getElem_set]
  by_cases e : i = k
  · subst e; simp [show i < cur.size by omega]
  · rw [if_neg e, if_neg e]; exact h3 k hk'
theorem LedIs.lt {w : World} {L S : Nat} {l : Led} (h : LedIs w L S l) : L < w.heap.size ∧ S < w.heap.size := ⟨(Array.getElem?_eq_some_iff.1 h.2.1).1, h.2.2.lt⟩
theorem LedIs.stays {w w' : World} {L S : Nat} {l : Led} (h : LedIs w L S l) (bel : Below w.heap.size w w') : LedIs w' L S l :=
  ⟨h.1, (bel.block L h.lt.1).trans h.2.1, h.2.2.blk (bel.block S h.lt.2)⟩
theorem LedIs.kept {w w' : World} {L S : Nat} {l : Led} {row : Option Nat} (h : LedIs w L S l) (hg : w.grownBy w' row) (h1 : row ≠ some L) (h2 : row ≠ some S) : LedIs w' L S l :=
  ⟨h.1, (hg.block L h.lt.1 (fun e => h1 e.symm)).trans h.2.1, h.2.2.blk (hg.block S h.lt.2 (fun e => h2 e.symm))⟩
/-- The cells of the ledger itself. -/
theorem LedIs.head {w : World} {L S : Nat} {l : Led} (h : LedIs w L S l) : w.cell? ⟨L, 0, none⟩ = some (.slice (some ⟨S, 0, none⟩) l.slots.length l.slots.length) ∧ w.cell? ⟨L, 1, none⟩ = some (.int .i64 (l.fresh : Int)) ∧ w.frozen? ⟨L, 0, none⟩ = false ∧ w.frozen? ⟨L, 1, none⟩ = false := by
  have := cells_of h.2.1
  exact ⟨this.1 0, this.1 1, this.2 0, this.2 1⟩
end Go.Proofs.YtelkpikbjfkpcaaGreat

/- The program's ledger: the contracts of Bin, newBase, reckoned (written by wip/mkled.py). -/
namespace Go.Proofs.YtelkpikbjfkpcaaGreat
open Go.ChangeShapes Go.WideShapes Go.ChangeAt Go.RowKit
theorem as_ff (v : Value) (w : World) : (Instr.typeAssert (.iface 180 v) 177 180 true).run Tryz.prog w = .ok (.tuple #[v, .bool true]) w := by kernel_rfl
theorem as_fd (v : Value) (w : World) : (Instr.typeAssert (.iface 180 v) 177 175 true).run Tryz.prog w = .ok (.tuple #[.agg #[.int .i64 0, .int .i64 0], .bool false]) w := by kernel_rfl
theorem as_df (v : Value) (w : World) : (Instr.typeAssert (.iface 175 v) 177 180 true).run Tryz.prog w = .ok (.tuple #[.int .i64 0, .bool false]) w := by kernel_rfl
theorem as_dd (v : Value) (w : World) : (Instr.typeAssert (.iface 175 v) 177 175 true).run Tryz.prog w = .ok (.tuple #[v, .bool true]) w := by kernel_rfl
attribute [local go_sem] as_ff as_fd as_df as_dd
/-- The number of new bases is told anew. -/
theorem led_more {w : World} {L S n f : Nat} (h : w.heap[L]? = some (.cells (ledHead S n f) 173 (0, 0))) (k : Nat) : (w.setCell ⟨L, 1, none⟩ (.int .i64 (k : Int))).heap[L]? = some (.cells (ledHead S n k) 173 (0, 0)) := by
  rw [heap_setCell_same w L 1 _ _ _ h]; rfl
theorem but_drew {L : Nat} (w : World) : But L w w.drew := But.on (But.refl L w) (Below.refl _ _).drew
theorem But.after {b : Nat} {w w1 w2 : World} (h : But b w w1) (k : But b w1 w2) : But b w w2 :=
  ⟨k.os.trans h.os, k.tape.trans h.tape, k.output.trans h.output, Nat.le_trans h.size k.size, fun i hi hne => (k.block i (Nat.lt_of_lt_of_le hi h.size) hne).trans (h.block i hi hne)⟩
theorem led_end {w W : World} {L : Nat} {o : Obj} (h : w.heap[L]? = some o) (hL : L < w.heap.size) (B : Below w.heap.size w W) : But L w W ∧ W.heap[L]? = some o := ⟨But.on (But.refl L w) B, (B.block L hL).trans h⟩
set_option maxHeartbeats 1000000 in
theorem newBase_any (w : World) (L S : Nat) (l : Led) (h : LedIs w L S l) (hn : l.slots.length + l.fresh ≤ 1000000) :
    Calls Tryz.prog 147 #[.pointer (some ⟨L, 0, none⟩)] w fun e w' => e = .returned (symV ⟨(l.slots.length : Int) + l.fresh, 0⟩) ∧ But L w w' ∧ w'.heap[L]? = some (.cells (ledHead S l.slots.length (l.fresh + 1)) 173 (0, 0)) := by
  rw [symV_dist (by omega)]
  obtain ⟨c0, c1, f0, f1⟩ := h.head
  have HL := hideP h.2.1
  clear h
  go_enter Tryz.func147, Tryz.ntmps147
  go_wp2
  go_region
  go_wp2
  go_ret
  refine ⟨rfl, But.set (but_drew w) _ _, ?_⟩
  have e : ((l.fresh : Int) + 1) = ((l.fresh + 1 : Nat) : Int) := by omega
  rw [e]
  exact led_more (w := w.drew) HL.out _
set_option maxRecDepth 100000 in
set_option maxHeartbeats 4000000 in
theorem reckoned_ff (w : World) (L S : Nat) (l : Led) (op d c n : Int) (na nb : Nat) (t : ByteArray) (ba oa bb ob : Int) (h : LedIs w L S l) (hn : l.slots.length + l.fresh ≤ 1000000) (hna : na < l.slots.length) (hnb : nb < l.slots.length)
    (ea : l.slots[na] = ⟨ba, oa⟩) (eb : l.slots[nb] = ⟨bb, ob⟩) (ka : ba = -1) (kb : bb = -1) :
    Calls Tryz.prog 146 #[.pointer (some ⟨L, 0, none⟩), .agg #[.int .i64 op, .int .i64 d, .int .i64 (na : Int), .int .i64 (nb : Int), .int .i64 c, .int .i64 n, .string t]] w
      fun e w' => e = .returned (symV (l.made (symBin t.toList ⟨ba, oa⟩ ⟨bb, ob⟩))) ∧ But L w w' ∧ w'.heap[L]? = some (.cells (ledHead S l.slots.length (l.next (symBin t.toList ⟨ba, oa⟩ ⟨bb, ob⟩))) 173 (0, 0)) := by
  obtain ⟨c0, c1, f0, f1⟩ := h.head
  have ca := h.2.2.at na hna
  have cb := h.2.2.at nb hnb
  rw [ea] at ca
  rw [eb] at cb
  obtain ⟨hL, hS⟩ := h.lt
  have HH := hideP h
  have HL := hideP h.2.1
  clear h ea eb
  have _ := hn
  subst ka kb
  rw [symV_fig] at ca cb
  have E : Hid (symBin t.toList ⟨-1, oa⟩ ⟨-1, ob⟩ = some ⟨-1, binL t.toList oa ob⟩) := by show _ = _; simp [symBin, *]
  rw [E.out]
  simp only [Led.made, Led.next, Option.getD_some]
  rw [symV_fig]
  go_enter Tryz.func146, Tryz.ntmps146
  go_wp2
  go_region
  go_wp2
  go_region
  go_wp2_with (go_at_call 135; refine (implBin_any t oa ob _).mono ?_; rintro e1 w1 ⟨rfl, rfl⟩)
  go_ret
  exact ⟨rfl, led_end HL.out hL (by first | exact ((Below.refl _ _).alloc (Nat.le_refl _) _).drew.drew | exact ((((Below.refl _ _).alloc (Nat.le_refl _) _).alloc (by simp) _).drew.drew.drew) | exact ((((Below.refl _ _).alloc (Nat.le_refl _) _).alloc (by simp) _).drew.drew) | exact (((Below.refl _ _).alloc (Nat.le_refl _) _).drew.drew.alloc (by simp) _) | exact ((((Below.refl _ _).alloc (Nat.le_refl _) _).drew.alloc (by simp) _).drew) | exact ((((Below.refl _ _).alloc (Nat.le_refl _) _).drew.alloc (by simp) _).drew.drew) | exact (((((Below.refl _ _).alloc (Nat.le_refl _) _).drew.alloc (by simp) _).drew.alloc (by simp; omega) _)))⟩
set_option maxRecDepth 100000 in
set_option maxHeartbeats 4000000 in
theorem reckoned_fd (w : World) (L S : Nat) (l : Led) (op d c n : Int) (na nb : Nat) (t : ByteArray) (ba oa bb ob : Int) (h : LedIs w L S l) (hn : l.slots.length + l.fresh ≤ 1000000) (hna : na < l.slots.length) (hnb : nb < l.slots.length)
    (ea : l.slots[na] = ⟨ba, oa⟩) (eb : l.slots[nb] = ⟨bb, ob⟩) (ka : ba = -1) (kb : bb ≠ -1) :
    Calls Tryz.prog 146 #[.pointer (some ⟨L, 0, none⟩), .agg #[.int .i64 op, .int .i64 d, .int .i64 (na : Int), .int .i64 (nb : Int), .int .i64 c, .int .i64 n, .string t]] w
      fun e w' => e = .returned (symV (l.made (symBin t.toList ⟨ba, oa⟩ ⟨bb, ob⟩))) ∧ But L w w' ∧ w'.heap[L]? = some (.cells (ledHead S l.slots.length (l.next (symBin t.toList ⟨ba, oa⟩ ⟨bb, ob⟩))) 173 (0, 0)) := by
  obtain ⟨c0, c1, f0, f1⟩ := h.head
  have ca := h.2.2.at na hna
  have cb := h.2.2.at nb hnb
  rw [ea] at ca
  rw [eb] at cb
  obtain ⟨hL, hS⟩ := h.lt
  have HH := hideP h
  have HL := hideP h.2.1
  clear h ea eb
  have _ := hn
  subst ka
  rw [symV_fig] at ca
  rw [symV_dist kb] at cb
  by_cases hp : (t.toList == [43]) = true
  · have E : Hid (symBin t.toList ⟨-1, oa⟩ ⟨bb, ob⟩ = some ⟨bb, wrap64 (oa + ob)⟩) := by show _ = _; simp [symBin, *]
    rw [E.out]
    simp only [Led.made, Led.next, Option.getD_some]
    rw [symV_dist kb]
    go_enter Tryz.func146, Tryz.ntmps146
    go_wp2
    go_region
    go_wp2
    go_region
    go_wp2
    go_ret
    exact ⟨rfl, led_end HL.out hL (by first | exact ((Below.refl _ _).alloc (Nat.le_refl _) _).drew.drew | exact ((((Below.refl _ _).alloc (Nat.le_refl _) _).alloc (by simp) _).drew.drew.drew) | exact ((((Below.refl _ _).alloc (Nat.le_refl _) _).alloc (by simp) _).drew.drew) | exact (((Below.refl _ _).alloc (Nat.le_refl _) _).drew.drew.alloc (by simp) _) | exact ((((Below.refl _ _).alloc (Nat.le_refl _) _).drew.alloc (by simp) _).drew) | exact ((((Below.refl _ _).alloc (Nat.le_refl _) _).drew.alloc (by simp) _).drew.drew) | exact (((((Below.refl _ _).alloc (Nat.le_refl _) _).drew.alloc (by simp) _).drew.alloc (by simp; omega) _)))⟩
  · have hp : (t.toList == [43]) = false := by simpa using hp
    have E : Hid (symBin t.toList ⟨-1, oa⟩ ⟨bb, ob⟩ = none) := by show _ = _; simp [symBin, *]; try omega
    rw [E.out]
    simp only [Led.made, Led.next, Option.getD_none]
    go_enter Tryz.func146, Tryz.ntmps146
    go_wp2
    go_region
    go_wp2
    go_region
    go_wp2_with fail
    refine (newBase_any _ L S l (HH.out.stays (by first | exact ((Below.refl _ _).alloc (Nat.le_refl _) _).drew.drew | exact ((((Below.refl _ _).alloc (Nat.le_refl _) _).alloc (by simp) _).drew.drew.drew) | exact ((((Below.refl _ _).alloc (Nat.le_refl _) _).alloc (by simp) _).drew.drew) | exact (((Below.refl _ _).alloc (Nat.le_refl _) _).drew.drew.alloc (by simp) _) | exact ((((Below.refl _ _).alloc (Nat.le_refl _) _).drew.alloc (by simp) _).drew) | exact ((((Below.refl _ _).alloc (Nat.le_refl _) _).drew.alloc (by simp) _).drew.drew) | exact (((((Below.refl _ _).alloc (Nat.le_refl _) _).drew.alloc (by simp) _).drew.alloc (by simp; omega) _)))) hn).mono ?_
    rintro e1 w1 ⟨rfl, but1, hb1⟩
    have BB : Hid (But L w w1) := (led_end HL.out hL (by first | exact ((Below.refl _ _).alloc (Nat.le_refl _) _).drew.drew | exact ((((Below.refl _ _).alloc (Nat.le_refl _) _).alloc (by simp) _).drew.drew.drew) | exact ((((Below.refl _ _).alloc (Nat.le_refl _) _).alloc (by simp) _).drew.drew) | exact (((Below.refl _ _).alloc (Nat.le_refl _) _).drew.drew.alloc (by simp) _) | exact ((((Below.refl _ _).alloc (Nat.le_refl _) _).drew.alloc (by simp) _).drew) | exact ((((Below.refl _ _).alloc (Nat.le_refl _) _).drew.alloc (by simp) _).drew.drew) | exact (((((Below.refl _ _).alloc (Nat.le_refl _) _).drew.alloc (by simp) _).drew.alloc (by simp; omega) _)))).1.after but1
    have HB1 := hideP hb1
    clear but1 hb1
    go_wp2
    go_ret
    exact ⟨rfl, BB.out, HB1.out⟩
set_option maxRecDepth 100000 in
set_option maxHeartbeats 4000000 in
theorem reckoned_df (w : World) (L S : Nat) (l : Led) (op d c n : Int) (na nb : Nat) (t : ByteArray) (ba oa bb ob : Int) (h : LedIs w L S l) (hn : l.slots.length + l.fresh ≤ 1000000) (hna : na < l.slots.length) (hnb : nb < l.slots.length)
    (ea : l.slots[na] = ⟨ba, oa⟩) (eb : l.slots[nb] = ⟨bb, ob⟩) (ka : ba ≠ -1) (kb : bb = -1) :
    Calls Tryz.prog 146 #[.pointer (some ⟨L, 0, none⟩), .agg #[.int .i64 op, .int .i64 d, .int .i64 (na : Int), .int .i64 (nb : Int), .int .i64 c, .int .i64 n, .string t]] w
      fun e w' => e = .returned (symV (l.made (symBin t.toList ⟨ba, oa⟩ ⟨bb, ob⟩))) ∧ But L w w' ∧ w'.heap[L]? = some (.cells (ledHead S l.slots.length (l.next (symBin t.toList ⟨ba, oa⟩ ⟨bb, ob⟩))) 173 (0, 0)) := by
  obtain ⟨c0, c1, f0, f1⟩ := h.head
  have ca := h.2.2.at na hna
  have cb := h.2.2.at nb hnb
  rw [ea] at ca
  rw [eb] at cb
  obtain ⟨hL, hS⟩ := h.lt
  have HH := hideP h
  have HL := hideP h.2.1
  clear h ea eb
  have _ := hn
  subst kb
  rw [symV_fig] at cb
  rw [symV_dist ka] at ca
  by_cases hp : (t.toList == [43]) = true
  · have E : Hid (symBin t.toList ⟨ba, oa⟩ ⟨-1, ob⟩ = some ⟨ba, wrap64 (oa + ob)⟩) := by show _ = _; simp [symBin, *]
    rw [E.out]
    simp only [Led.made, Led.next, Option.getD_some]
    rw [symV_dist ka]
    go_enter Tryz.func146, Tryz.ntmps146
    go_wp2
    go_region
    go_wp2
    go_region
    go_wp2
    have BE : binL t.toList oa ob = wrap64 (oa + ob) := by simp [binL, *]
    have SK : Hid (∀ W', Below ((w.alloc (.cells #[.int .i64 op, .int .i64 d, .int .i64 (na : Int), .int .i64 (nb : Int), .int .i64 c, .int .i64 n, .string t] 56)).alloc (.cells #[.int .i64 ba, .int .i64 oa] 175)).heap.size ((w.alloc (.cells #[.int .i64 op, .int .i64 d, .int .i64 (na : Int), .int .i64 (nb : Int), .int .i64 c, .int .i64 n, .string t] 56)).alloc (.cells #[.int .i64 ba, .int .i64 oa] 175)) W' → W'.cell? ⟨w.heap.size, 6, none⟩ = some (.string t) ∧ W'.cell? ⟨w.heap.size + 1, 0, none⟩ = some (.int .i64 ba) ∧ W'.cell? ⟨w.heap.size + 1, 1, none⟩ = some (.int .i64 oa)) := fun W' h => ⟨(cells_of (two h).1).1 6, (cells_of (two h).2.1).1 0, (cells_of (two h).2.1).1 1⟩
    go_region_held3 (fun W' => W'.cell? ⟨w.heap.size, 6, none⟩ = some (.string t) ∧ W'.cell? ⟨w.heap.size + 1, 0, none⟩ = some (.int .i64 ba) ∧ W'.cell? ⟨w.heap.size + 1, 1, none⟩ = some (.int .i64 oa)) (first | exact SK.out _ (Below.refl _ _).drew.drew.drew) (first
      | (go_at_call 135; refine (implBin_any t oa ob _).mono ?_; rintro e1 w1 ⟨rfl, rfl⟩))
    all_goals go_wp2
    all_goals go_ret
    all_goals exact ⟨rfl, led_end HL.out hL (by first | exact ((Below.refl _ _).alloc (Nat.le_refl _) _).drew.drew | exact ((((Below.refl _ _).alloc (Nat.le_refl _) _).alloc (by simp) _).drew.drew.drew) | exact ((((Below.refl _ _).alloc (Nat.le_refl _) _).alloc (by simp) _).drew.drew) | exact (((Below.refl _ _).alloc (Nat.le_refl _) _).drew.drew.alloc (by simp) _) | exact ((((Below.refl _ _).alloc (Nat.le_refl _) _).drew.alloc (by simp) _).drew) | exact ((((Below.refl _ _).alloc (Nat.le_refl _) _).drew.alloc (by simp) _).drew.drew) | exact (((((Below.refl _ _).alloc (Nat.le_refl _) _).drew.alloc (by simp) _).drew.alloc (by simp; omega) _)))⟩
  · have hp : (t.toList == [43]) = false := by simpa using hp
    by_cases hm : (t.toList == [45]) = true
    · have E : Hid (symBin t.toList ⟨ba, oa⟩ ⟨-1, ob⟩ = some ⟨ba, wrap64 (oa - ob)⟩) := by show _ = _; simp [symBin, *]
      rw [E.out]
      simp only [Led.made, Led.next, Option.getD_some]
      rw [symV_dist ka]
      go_enter Tryz.func146, Tryz.ntmps146
      go_wp2
      go_region
      go_wp2
      go_region
      go_wp2
      have BE : binL t.toList oa ob = wrap64 (oa - ob) := by simp [binL, *]
      have SK : Hid (∀ W', Below ((w.alloc (.cells #[.int .i64 op, .int .i64 d, .int .i64 (na : Int), .int .i64 (nb : Int), .int .i64 c, .int .i64 n, .string t] 56)).alloc (.cells #[.int .i64 ba, .int .i64 oa] 175)).heap.size ((w.alloc (.cells #[.int .i64 op, .int .i64 d, .int .i64 (na : Int), .int .i64 (nb : Int), .int .i64 c, .int .i64 n, .string t] 56)).alloc (.cells #[.int .i64 ba, .int .i64 oa] 175)) W' → W'.cell? ⟨w.heap.size, 6, none⟩ = some (.string t) ∧ W'.cell? ⟨w.heap.size + 1, 0, none⟩ = some (.int .i64 ba) ∧ W'.cell? ⟨w.heap.size + 1, 1, none⟩ = some (.int .i64 oa)) := fun W' h => ⟨(cells_of (two h).1).1 6, (cells_of (two h).2.1).1 0, (cells_of (two h).2.1).1 1⟩
      go_region_held3 (fun W' => W'.cell? ⟨w.heap.size, 6, none⟩ = some (.string t) ∧ W'.cell? ⟨w.heap.size + 1, 0, none⟩ = some (.int .i64 ba) ∧ W'.cell? ⟨w.heap.size + 1, 1, none⟩ = some (.int .i64 oa)) (first | exact SK.out _ (Below.refl _ _).drew.drew.drew) (first
        | (go_at_call 135; refine (implBin_any t oa ob _).mono ?_; rintro e1 w1 ⟨rfl, rfl⟩))
      all_goals go_wp2
      all_goals go_ret
      all_goals exact ⟨rfl, led_end HL.out hL (by first | exact ((Below.refl _ _).alloc (Nat.le_refl _) _).drew.drew | exact ((((Below.refl _ _).alloc (Nat.le_refl _) _).alloc (by simp) _).drew.drew.drew) | exact ((((Below.refl _ _).alloc (Nat.le_refl _) _).alloc (by simp) _).drew.drew) | exact (((Below.refl _ _).alloc (Nat.le_refl _) _).drew.drew.alloc (by simp) _) | exact ((((Below.refl _ _).alloc (Nat.le_refl _) _).drew.alloc (by simp) _).drew) | exact ((((Below.refl _ _).alloc (Nat.le_refl _) _).drew.alloc (by simp) _).drew.drew) | exact (((((Below.refl _ _).alloc (Nat.le_refl _) _).drew.alloc (by simp) _).drew.alloc (by simp; omega) _)))⟩
    · have hm : (t.toList == [45]) = false := by simpa using hm
      have E : Hid (symBin t.toList ⟨ba, oa⟩ ⟨-1, ob⟩ = none) := by show _ = _; simp [symBin, *]
      rw [E.out]
      simp only [Led.made, Led.next, Option.getD_none]
      go_enter Tryz.func146, Tryz.ntmps146
      go_wp2
      go_region
      go_wp2
      go_region
      go_wp2_with fail
      refine (newBase_any _ L S l (HH.out.stays (by first | exact ((Below.refl _ _).alloc (Nat.le_refl _) _).drew.drew | exact ((((Below.refl _ _).alloc (Nat.le_refl _) _).alloc (by simp) _).drew.drew.drew) | exact ((((Below.refl _ _).alloc (Nat.le_refl _) _).alloc (by simp) _).drew.drew) | exact (((Below.refl _ _).alloc (Nat.le_refl _) _).drew.drew.alloc (by simp) _) | exact ((((Below.refl _ _).alloc (Nat.le_refl _) _).drew.alloc (by simp) _).drew) | exact ((((Below.refl _ _).alloc (Nat.le_refl _) _).drew.alloc (by simp) _).drew.drew) | exact (((((Below.refl _ _).alloc (Nat.le_refl _) _).drew.alloc (by simp) _).drew.alloc (by simp; omega) _)))) hn).mono ?_
      rintro e1 w1 ⟨rfl, but1, hb1⟩
      have BB : Hid (But L w w1) := (led_end HL.out hL (by first | exact ((Below.refl _ _).alloc (Nat.le_refl _) _).drew.drew | exact ((((Below.refl _ _).alloc (Nat.le_refl _) _).alloc (by simp) _).drew.drew.drew) | exact ((((Below.refl _ _).alloc (Nat.le_refl _) _).alloc (by simp) _).drew.drew) | exact (((Below.refl _ _).alloc (Nat.le_refl _) _).drew.drew.alloc (by simp) _) | exact ((((Below.refl _ _).alloc (Nat.le_refl _) _).drew.alloc (by simp) _).drew) | exact ((((Below.refl _ _).alloc (Nat.le_refl _) _).drew.alloc (by simp) _).drew.drew) | exact (((((Below.refl _ _).alloc (Nat.le_refl _) _).drew.alloc (by simp) _).drew.alloc (by simp; omega) _)))).1.after but1
      have HB1 := hideP hb1
      clear but1 hb1
      go_wp2
      go_ret
      exact ⟨rfl, BB.out, HB1.out⟩
set_option maxRecDepth 100000 in
set_option maxHeartbeats 4000000 in
theorem reckoned_dd (w : World) (L S : Nat) (l : Led) (op d c n : Int) (na nb : Nat) (t : ByteArray) (ba oa bb ob : Int) (h : LedIs w L S l) (hn : l.slots.length + l.fresh ≤ 1000000) (hna : na < l.slots.length) (hnb : nb < l.slots.length)
    (ea : l.slots[na] = ⟨ba, oa⟩) (eb : l.slots[nb] = ⟨bb, ob⟩) (ka : ba ≠ -1) (kb : bb ≠ -1) :
    Calls Tryz.prog 146 #[.pointer (some ⟨L, 0, none⟩), .agg #[.int .i64 op, .int .i64 d, .int .i64 (na : Int), .int .i64 (nb : Int), .int .i64 c, .int .i64 n, .string t]] w
      fun e w' => e = .returned (symV (l.made (symBin t.toList ⟨ba, oa⟩ ⟨bb, ob⟩))) ∧ But L w w' ∧ w'.heap[L]? = some (.cells (ledHead S l.slots.length (l.next (symBin t.toList ⟨ba, oa⟩ ⟨bb, ob⟩))) 173 (0, 0)) := by
  obtain ⟨c0, c1, f0, f1⟩ := h.head
  have ca := h.2.2.at na hna
  have cb := h.2.2.at nb hnb
  rw [ea] at ca
  rw [eb] at cb
  obtain ⟨hL, hS⟩ := h.lt
  have HH := hideP h
  have HL := hideP h.2.1
  clear h ea eb
  have _ := hn
  rw [symV_dist kb] at cb
  rw [symV_dist ka] at ca
  by_cases hm : (t.toList == [45]) = true
  · by_cases he : (ba == bb) = true
    · have E : Hid (symBin t.toList ⟨ba, oa⟩ ⟨bb, ob⟩ = some ⟨-1, wrap64 (oa - ob)⟩) := by show _ = _; have hb0 : ba = bb := eq_of_beq he; simp only [symBin, hm, hb0, and_self, if_true, kb, and_false, if_false]
      rw [E.out]
      simp only [Led.made, Led.next, Option.getD_some]
      rw [symV_fig]
      go_enter Tryz.func146, Tryz.ntmps146
      go_wp2
      go_region
      go_wp2
      go_region
      go_wp2
      go_ret
      exact ⟨rfl, led_end HL.out hL (by first | exact ((Below.refl _ _).alloc (Nat.le_refl _) _).drew.drew | exact ((((Below.refl _ _).alloc (Nat.le_refl _) _).alloc (by simp) _).drew.drew.drew) | exact ((((Below.refl _ _).alloc (Nat.le_refl _) _).alloc (by simp) _).drew.drew) | exact (((Below.refl _ _).alloc (Nat.le_refl _) _).drew.drew.alloc (by simp) _) | exact ((((Below.refl _ _).alloc (Nat.le_refl _) _).drew.alloc (by simp) _).drew) | exact ((((Below.refl _ _).alloc (Nat.le_refl _) _).drew.alloc (by simp) _).drew.drew) | exact (((((Below.refl _ _).alloc (Nat.le_refl _) _).drew.alloc (by simp) _).drew.alloc (by simp; omega) _)))⟩
    · have he : (ba == bb) = false := by simpa using he
      have E : Hid (symBin t.toList ⟨ba, oa⟩ ⟨bb, ob⟩ = none) := by show _ = _; have hb0 : ¬ ba = bb := (fun e => by simp [e] at he); simp only [symBin, ka, kb, hb0, and_false, if_false]
      rw [E.out]
      simp only [Led.made, Led.next, Option.getD_none]
      go_enter Tryz.func146, Tryz.ntmps146
      go_wp2
      go_region
      go_wp2
      go_region
      go_wp2_with fail
      refine (newBase_any _ L S l (HH.out.stays (by first | exact ((Below.refl _ _).alloc (Nat.le_refl _) _).drew.drew | exact ((((Below.refl _ _).alloc (Nat.le_refl _) _).alloc (by simp) _).drew.drew.drew) | exact ((((Below.refl _ _).alloc (Nat.le_refl _) _).alloc (by simp) _).drew.drew) | exact (((Below.refl _ _).alloc (Nat.le_refl _) _).drew.drew.alloc (by simp) _) | exact ((((Below.refl _ _).alloc (Nat.le_refl _) _).drew.alloc (by simp) _).drew) | exact ((((Below.refl _ _).alloc (Nat.le_refl _) _).drew.alloc (by simp) _).drew.drew) | exact (((((Below.refl _ _).alloc (Nat.le_refl _) _).drew.alloc (by simp) _).drew.alloc (by simp; omega) _)))) hn).mono ?_
      rintro e1 w1 ⟨rfl, but1, hb1⟩
      have BB : Hid (But L w w1) := (led_end HL.out hL (by first | exact ((Below.refl _ _).alloc (Nat.le_refl _) _).drew.drew | exact ((((Below.refl _ _).alloc (Nat.le_refl _) _).alloc (by simp) _).drew.drew.drew) | exact ((((Below.refl _ _).alloc (Nat.le_refl _) _).alloc (by simp) _).drew.drew) | exact (((Below.refl _ _).alloc (Nat.le_refl _) _).drew.drew.alloc (by simp) _) | exact ((((Below.refl _ _).alloc (Nat.le_refl _) _).drew.alloc (by simp) _).drew) | exact ((((Below.refl _ _).alloc (Nat.le_refl _) _).drew.alloc (by simp) _).drew.drew) | exact (((((Below.refl _ _).alloc (Nat.le_refl _) _).drew.alloc (by simp) _).drew.alloc (by simp; omega) _)))).1.after but1
      have HB1 := hideP hb1
      clear but1 hb1
      go_wp2
      go_ret
      exact ⟨rfl, BB.out, HB1.out⟩
  · have hm : (t.toList == [45]) = false := by simpa using hm
    have E : Hid (symBin t.toList ⟨ba, oa⟩ ⟨bb, ob⟩ = none) := by show _ = _; simp [symBin, *]
    rw [E.out]
    simp only [Led.made, Led.next, Option.getD_none]
    go_enter Tryz.func146, Tryz.ntmps146
    go_wp2
    go_region
    go_wp2
    go_region
    go_wp2_with fail
    refine (newBase_any _ L S l (HH.out.stays (by first | exact ((Below.refl _ _).alloc (Nat.le_refl _) _).drew.drew | exact ((((Below.refl _ _).alloc (Nat.le_refl _) _).alloc (by simp) _).drew.drew.drew) | exact ((((Below.refl _ _).alloc (Nat.le_refl _) _).alloc (by simp) _).drew.drew) | exact (((Below.refl _ _).alloc (Nat.le_refl _) _).drew.drew.alloc (by simp) _) | exact ((((Below.refl _ _).alloc (Nat.le_refl _) _).drew.alloc (by simp) _).drew) | exact ((((Below.refl _ _).alloc (Nat.le_refl _) _).drew.alloc (by simp) _).drew.drew) | exact (((((Below.refl _ _).alloc (Nat.le_refl _) _).drew.alloc (by simp) _).drew.alloc (by simp; omega) _)))) hn).mono ?_
    rintro e1 w1 ⟨rfl, but1, hb1⟩
    have BB : Hid (But L w w1) := (led_end HL.out hL (by first | exact ((Below.refl _ _).alloc (Nat.le_refl _) _).drew.drew | exact ((((Below.refl _ _).alloc (Nat.le_refl _) _).alloc (by simp) _).drew.drew.drew) | exact ((((Below.refl _ _).alloc (Nat.le_refl _) _).alloc (by simp) _).drew.drew) | exact (((Below.refl _ _).alloc (Nat.le_refl _) _).drew.drew.alloc (by simp) _) | exact ((((Below.refl _ _).alloc (Nat.le_refl _) _).drew.alloc (by simp) _).drew) | exact ((((Below.refl _ _).alloc (Nat.le_refl _) _).drew.alloc (by simp) _).drew.drew) | exact (((((Below.refl _ _).alloc (Nat.le_refl _) _).drew.alloc (by simp) _).drew.alloc (by simp; omega) _)))).1.after but1
    have HB1 := hideP hb1
    clear but1 hb1
    go_wp2
    go_ret
    exact ⟨rfl, BB.out, HB1.out⟩
theorem reckoned_any (w : World) (L S : Nat) (l : Led) (op d c n : Int) (na nb : Nat) (t : ByteArray) (h : LedIs w L S l) (hn : l.slots.length + l.fresh ≤ 1000000) (hna : na < l.slots.length) (hnb : nb < l.slots.length) :
    Calls Tryz.prog 146 #[.pointer (some ⟨L, 0, none⟩), .agg #[.int .i64 op, .int .i64 d, .int .i64 (na : Int), .int .i64 (nb : Int), .int .i64 c, .int .i64 n, .string t]] w
      fun e w' => e = .returned (symV (l.made (symBin t.toList l.slots[na] l.slots[nb]))) ∧ But L w w' ∧ w'.heap[L]? = some (.cells (ledHead S l.slots.length (l.next (symBin t.toList l.slots[na] l.slots[nb]))) 173 (0, 0)) := by
  obtain ⟨⟨ba, oa⟩, ea⟩ : ∃ s, l.slots[na] = s := ⟨_, rfl⟩
  obtain ⟨⟨bb, ob⟩, eb⟩ : ∃ s, l.slots[nb] = s := ⟨_, rfl⟩
  rw [ea, eb]
  by_cases ka : ba = -1 <;> by_cases kb : bb = -1
  · exact reckoned_ff w L S l op d c n na nb t ba oa bb ob h hn hna hnb ea eb ka kb
  · exact reckoned_fd w L S l op d c n na nb t ba oa bb ob h hn hna hnb ea eb ka kb
  · exact reckoned_df w L S l op d c n na nb t ba oa bb ob h hn hna hnb ea eb ka kb
  · exact reckoned_dd w L S l op d c n na nb t ba oa bb ob h hn hna hnb ea eb ka kb
end Go.Proofs.YtelkpikbjfkpcaaGreat

/- The program's ledger: the contracts of parts, touches, place, step, newLedger. -/
namespace Go.Proofs.YtelkpikbjfkpcaaGreat
open Go.ChangeShapes Go.WideShapes Go.ChangeAt Go.RowKit
def plaV (p : Pla) : Array Value := #[.int .i64 p.r, .int .i64 p.i, .int .i64 p.j, .int .i64 p.off]
set_option maxHeartbeats 1000000 in
theorem touches_any (x : Ins) (w : World) :
    Calls Tryz.prog 145 #[.agg (insV x)] w fun e w' => e = .returned (.bool (decide (x.op = 3 ∨ x.op = 4))) ∧ Below w.heap.size w w' := by
  obtain ⟨op, d, a, b, c, n, t⟩ := x
  simp only [insV]
  go_enter Tryz.func145, Tryz.ntmps145
  go_wp2
  all_goals go_ret
  all_goals refine ⟨ret_bool ?_, (Below.refl _ _).alloc (Nat.le_refl _) _⟩
  · simp [*]
  · rw [Bool.eq_iff_iff]; simp
theorem figParts_any (o : Int) (w : World) :
    Calls Tryz.prog 193 #[.int .i64 o] w fun e w' => e = .returned (.tuple #[.int .i64 (-1), .int .i64 o]) ∧ Below w.heap.size w w' := by
  go_enter Tryz.func193, Tryz.ntmps193
  go_wp2
  (try simp only [Exit.inBlock, Exit.then])
  refine bodyPost_ret (results_tmp2 rfl _ _ _) rfl ?_
  exact ⟨rfl, Below.refl _ _⟩
theorem distParts_any (b o : Int) (w : World) :
    Calls Tryz.prog 192 #[.agg #[.int .i64 b, .int .i64 o]] w fun e w' => e = .returned (.tuple #[.int .i64 b, .int .i64 o]) ∧ Below w.heap.size w w' := by
  go_enter Tryz.func192, Tryz.ntmps192
  go_wp2
  go_region
  go_wp2
  (try simp only [Exit.inBlock, Exit.then])
  refine bodyPost_ret (results_tmp2 rfl _ _ _) rfl ?_
  exact ⟨rfl, ((Below.refl _ _).alloc (Nat.le_refl _) _).drew⟩
theorem infoCo : (Tryz.prog.info? 177).map (fun i => (i.zero, i.size, i.bytes)) = some (some .nilIface, 1, 16) := by kernel_rfl
/-- The first j slots are filled. -/
def LedPart (wr : World) (L S V j : Nat) : Prop := L ≠ S ∧ wr.heap[L]? = some (.cells (ledHead S V 0) 173 (0, 0)) ∧ ∃ cur, wr.heap[S]? = some (.cells cur 177 (0, 0)) ∧ cur.size = V ∧ ∀ i, i < j → cur[i]? = some (symV ⟨(i : Int), 0⟩)
theorem LedPart.step {wr : World} {L S V j : Nat} (h : LedPart wr L S V j) (hj : j < V) : LedPart (wr.setCell ⟨S, j, none⟩ (symV ⟨(j : Int), 0⟩)) L S V (j + 1) := by
  obtain ⟨hne, h1, cur, h2, h3, h4⟩ := h
  refine ⟨hne, (Below.heap_setCell wr ⟨S, j, none⟩ _ L hne).trans h1, _, heap_setCell_same wr S j cur _ _ h2, by simp [h3], fun i hi => ?_⟩
  rw [Array.getElem?_setIfInBounds]
  by_cases e : j = i
  · subst e; simp [show j < cur.size by omega]
  · rw [if_neg e]; exact h4 i (by omega)
theorem LedPart.done {wr : World} {L S V : Nat} (h : LedPart wr L S V V) : LedIs wr L S (ledStart V) := by
  obtain ⟨hne, h1, cur, h2, h3, h4⟩ := h
  refine ⟨hne, by simpa [ledStart] using h1, cur, h2, by simp [ledStart, h3], fun i hi => ?_⟩
  have hi' : i < V := by simpa [ledStart] using hi
  rw [h4 i hi']; simp [ledStart]
set_option maxRecDepth 100000 in
set_option maxHeartbeats 2000000 in
theorem newLedger_any (V : Nat) (w : World) (hV : V ≤ 1000) :
    Calls Tryz.prog 112 #[.int .i64 (V : Int)] w fun e w' => ∃ L S, e = .returned (.pointer (some ⟨L, 0, none⟩)) ∧ LedIs w' L S (ledStart V) ∧ w.heap.size ≤ L ∧ w.heap.size ≤ S ∧ Below w.heap.size w w' := by
  have hmk := make_n (P := Tryz.prog) Tryz.underlying171 infoCo V (by omega) (by decide)
  have LP : Hid (LedPart ((w.alloc (.cells (madeCells #[Value.nilIface] V) 177)).alloc (.cells #[.slice (some ⟨w.heap.size, 0, none⟩) V V, .int .i64 0] 173)) (w.heap.size + 1) w.heap.size V 0) := by
    have h2 := two (Below.refl ((w.alloc (.cells (madeCells #[Value.nilIface] V) 177)).alloc (.cells #[.slice (some ⟨w.heap.size, 0, none⟩) V V, .int .i64 0] 173)).heap.size _)
    exact ⟨by omega, h2.2.1, _, h2.1, size_madeCells _ _, fun i hi => absurd hi (Nat.not_lt_zero _)⟩
  have BW := hideP (below2 w (.cells (madeCells #[Value.nilIface] V) 177) (.cells #[.slice (some ⟨w.heap.size, 0, none⟩) V V, .int .i64 0] 173))
  go_enter Tryz.func112, Tryz.ntmps112
  go_wp2
  clear hmk
  go_loopw [9] (fun i wr => ∃ j : Nat, j ≤ V ∧ i = .int .i64 j ∧ Hid (LedPart wr (w.heap.size + 1) w.heap.size V j) ∧ Hid (Below w.heap.size w wr)) (fun i _ => V - (intOf i).toNat)
  case atStart => exact ⟨0, Nat.zero_le _, rfl, LP.out, BW.out⟩
  case round =>
    obtain ⟨j, hj, rfl, hp, hb⟩ := hrel
    clear LP BW
    by_cases hlt : j < V
    · have p0 := (cells_of hp.out.2.1).1 0
      simp [ledHead] at p0
      obtain ⟨v, hv⟩ : ∃ v, wr.cell? ⟨w.heap.size, j, none⟩ = some v := by
        obtain ⟨_, _, cur, h2, h3, _⟩ := hp.out
        exact ⟨cur[j], by simp [World.cell?, h2, show j < cur.size by omega]⟩
      have hf : wr.frozen? ⟨w.heap.size, j, none⟩ = false := by
        obtain ⟨_, _, cur, h2, h3, _⟩ := hp.out
        simp [World.frozen?, h2]
      go_wp2
      go_roundw
      case rel => exact ⟨j + 1, by omega, by go_num, by have := hp.out.step hlt; rw [symV_dist (by omega)] at this; exact this, hb.out.setCell (p := ⟨w.heap.size, j, none⟩) (Nat.le_refl _) _⟩
      case measure => simp [intOf]; omega
    · have hjn : j = V := by omega
      subst hjn
      go_wp2
      go_ret
      exact ⟨w.heap.size + 1, w.heap.size, rfl, hp.out.done, by omega, by omega, hb.out⟩
end Go.Proofs.YtelkpikbjfkpcaaGreat

/- The program's ledger: the contract of place (written by wip/mkplace.py). -/
namespace Go.Proofs.YtelkpikbjfkpcaaGreat
open Go.ChangeShapes Go.WideShapes Go.ChangeAt Go.RowKit
theorem meth_f (v : Value) (w : World) : (method 326 180 v "loop.example/g00385/impl.parts").run Tryz.prog w = .ok (193, v) w := by kernel_rfl
theorem meth_d (v : Value) (w : World) : (method 326 175 v "loop.example/g00385/impl.parts").run Tryz.prog w = .ok (192, v) w := by kernel_rfl
attribute [local go_sem] meth_f meth_d
theorem pl_eq {n i j o i' j' o' : Int} (h1 : i = i') (h2 : j = j') (h3 : o = o') : Ending.returned (.agg #[.int .i64 n, .int .i64 i, .int .i64 j, .int .i64 o]) = .returned (.agg #[.int .i64 n, .int .i64 i', .int .i64 j', .int .i64 o']) := by rw [h1, h2, h3]
theorem keepB {W W' : World} {b : Nat} {o : Obj} (h : W.heap[b]? = some o) (bel : Below W.heap.size W W') : W'.heap[b]? = some o := (bel.block b (Array.getElem?_eq_some_iff.1 h).1).trans h
theorem set4_heap {w : World} {g : Nat} {T : TypeId} {c0 c1 c2 c3 v0 v1 v2 v3 : Value} (h : w.heap[g]? = some (.cells #[c0, c1, c2, c3] T (0, 0))) : ((((w.setCell ⟨g, 0, none⟩ v0).setCell ⟨g, 1, none⟩ v1).setCell ⟨g, 2, none⟩ v2).setCell ⟨g, 3, none⟩ v3).heap[g]? = some (.cells #[v0, v1, v2, v3] T (0, 0)) := by
  have h0 := heap_setCell_same w g 0 _ T v0 h
  have h1 := heap_setCell_same _ g 1 _ T v1 h0
  have h2 := heap_setCell_same _ g 2 _ T v2 h1
  have h3 := heap_setCell_same _ g 3 _ T v3 h2
  rw [h3]; rfl
set_option maxRecDepth 100000 in
set_option maxHeartbeats 4000000 in
theorem place_nf (w : World) (L S : Nat) (l : Led) (op d c n : Int) (nb : Nat) (t : ByteArray) (bb ob : Int) (hop : op = 3 ∨ op = 4) (h : LedIs w L S l) (hnb : nb < l.slots.length) (eb : l.slots[nb] = ⟨bb, ob⟩) (kb : bb = -1) :
    Calls Tryz.prog 113 #[.pointer (some ⟨L, 0, none⟩), .agg #[.int .i64 op, .int .i64 d, .int .i64 (-1), .int .i64 (nb : Int), .int .i64 c, .int .i64 n, .string t]] w
      fun e w' => e = .returned (.agg #[.int .i64 n, .int .i64 (min (-1) bb), .int .i64 (max (-1) bb), .int .i64 (wrap64 (0 + ob))]) ∧ Below w.heap.size w w' := by
  have HH := hideP h
  have TO : Hid (∀ W, Calls Tryz.prog 145 #[.agg #[.int .i64 op, .int .i64 d, .int .i64 (-1), .int .i64 (nb : Int), .int .i64 c, .int .i64 n, .string t]] W fun e w' => e = .returned (.bool true) ∧ Below W.heap.size W w') := fun W => by
    have := touches_any ⟨op, d, (-1), (nb : Int), c, n, t⟩ W
    simpa [insV, hop] using this
  have BW := hideP (below2 w (.cells #[.int .i64 op, .int .i64 d, .int .i64 (-1), .int .i64 (nb : Int), .int .i64 c, .int .i64 n, .string t] 56) (.cells #[.int .i64 0, .int .i64 0, .int .i64 0, .int .i64 0] 92))
  have Q0 := hideP (two (Below.refl ((w.alloc (.cells #[.int .i64 op, .int .i64 d, .int .i64 (-1), .int .i64 (nb : Int), .int .i64 c, .int .i64 n, .string t] 56)).alloc (.cells #[.int .i64 0, .int .i64 0, .int .i64 0, .int .i64 0] 92)).heap.size _)).1
  have Q1 := hideP (two (Below.refl ((w.alloc (.cells #[.int .i64 op, .int .i64 d, .int .i64 (-1), .int .i64 (nb : Int), .int .i64 c, .int .i64 n, .string t] 56)).alloc (.cells #[.int .i64 0, .int .i64 0, .int .i64 0, .int .i64 0] 92)).heap.size _)).2.1
  clear h hop
  go_enter Tryz.func113, Tryz.ntmps113
  go_wp2_with fail
  refine (TO.out _).mono ?_
  rintro e1 w1 ⟨rfl, bel1⟩
  replace HH := hideP (HH.out.stays (below_trans BW.out bel1))
  replace BW := hideP (below_trans BW.out bel1)
  replace Q0 := hideP (keepB Q0.out bel1)
  replace Q1 := hideP (keepB Q1.out bel1)
  clear bel1
  have q0 := (cells_of Q0.out).1
  have hd := HH.out.head.1
  have cbb := HH.out.2.2.at nb hnb
  rw [eb] at cbb
  subst kb
  rw [symV_fig] at cbb
  have l0 : w.heap.size < w1.heap.size := (Array.getElem?_eq_some_iff.1 Q0.out).1
  have SK : Hid (∀ W', Below w1.heap.size w1 W' → W'.cell? ⟨w.heap.size, 3, none⟩ = some (.int .i64 (nb : Int)) ∧ W'.cell? ⟨L, 0, none⟩ = some (.slice (some ⟨S, 0, none⟩) l.slots.length l.slots.length) ∧ W'.cell? ⟨S, nb, none⟩ = some (.iface 180 (.int .i64 ob))) := fun W' h => ⟨(h.cell (p := ⟨w.heap.size, 3, none⟩) l0).trans (q0 3), (h.cell (p := ⟨L, 0, none⟩) HH.out.lt.1).trans hd, (h.cell (p := ⟨S, nb, none⟩) HH.out.lt.2).trans cbb⟩
  clear q0 hd cbb l0
  go_upto_region 3 with fail
  go_cut [5, 6] from 5 to 24 (fun s5 s6 wx => s5 = .int .i64 (-1) ∧ s6 = .int .i64 ob ∧ Hid (Below w1.heap.size w1 wx))
  case first =>
    go_region_held3 (fun W' => W'.cell? ⟨w.heap.size, 3, none⟩ = some (.int .i64 (nb : Int)) ∧ W'.cell? ⟨L, 0, none⟩ = some (.slice (some ⟨S, 0, none⟩) l.slots.length l.slots.length) ∧ W'.cell? ⟨S, nb, none⟩ = some (.iface 180 (.int .i64 ob))) (first | exact SK.out _ (Below.refl _ _).drew | exact SK.out _ HBa.out) (first
      | (go_at_call 193; refine (figParts_any ob _).mono ?_; rintro ea wa ⟨rfl, bela⟩; have HBa := hideP ((Below.refl w1.heap.size w1).drew.trans (bela.mono (Nat.le_refl _))); clear bela))
    all_goals (go_wp2_with fail; go_meet; exact ⟨rfl, rfl, HBa⟩)
  case rest =>
  obtain ⟨rfl, rfl, hc⟩ := hcut
  replace HH := hideP (HH.out.stays hc.out)
  replace BW := hideP (below_trans BW.out hc.out)
  replace Q0 := hideP (keepB Q0.out hc.out)
  replace Q1 := hideP (keepB Q1.out hc.out)
  clear hc SK
  have q0 := (cells_of Q0.out).1
  have q2 := q0 2
  have q5 := q0 5
  have q1 := cells_of Q1.out
  have g0 := q1.1 0
  have g1 := q1.1 1
  have g2 := q1.1 2
  have g3 := q1.1 3
  have f0 := q1.2 0
  have f1 := q1.2 1
  have f2 := q1.2 2
  have f3 := q1.2 3
  simp at q2 q5 g0 g1 g2 g3
  clear q0 q1
  have hres : Tryz.f113.results = #[.cell 4 92] := by kernel_rfl
  go_wp2
  all_goals first | omega | skip
  all_goals
    refine bodyPost_ret (results_cell_row hres _ _ (w.heap.size + 1) 92 _ (0, 0) _ rfl (set4_heap Q1.out) Tryz.underlying92 rfl (by kernel_rfl)) rfl ?_
    refine ⟨?_, (((BW.out.setCell (Nat.le_succ _) _).setCell (Nat.le_succ _) _).setCell (Nat.le_succ _) _).setCell (Nat.le_succ _) _⟩
    exact pl_eq (by omega) (by omega) (by first | rfl | simp [Int.add_comm])
set_option maxRecDepth 100000 in
set_option maxHeartbeats 4000000 in
theorem place_nd (w : World) (L S : Nat) (l : Led) (op d c n : Int) (nb : Nat) (t : ByteArray) (bb ob : Int) (hop : op = 3 ∨ op = 4) (h : LedIs w L S l) (hnb : nb < l.slots.length) (eb : l.slots[nb] = ⟨bb, ob⟩) (kb : bb ≠ -1) :
    Calls Tryz.prog 113 #[.pointer (some ⟨L, 0, none⟩), .agg #[.int .i64 op, .int .i64 d, .int .i64 (-1), .int .i64 (nb : Int), .int .i64 c, .int .i64 n, .string t]] w
      fun e w' => e = .returned (.agg #[.int .i64 n, .int .i64 (min (-1) bb), .int .i64 (max (-1) bb), .int .i64 (wrap64 (0 + ob))]) ∧ Below w.heap.size w w' := by
  have HH := hideP h
  have TO : Hid (∀ W, Calls Tryz.prog 145 #[.agg #[.int .i64 op, .int .i64 d, .int .i64 (-1), .int .i64 (nb : Int), .int .i64 c, .int .i64 n, .string t]] W fun e w' => e = .returned (.bool true) ∧ Below W.heap.size W w') := fun W => by
    have := touches_any ⟨op, d, (-1), (nb : Int), c, n, t⟩ W
    simpa [insV, hop] using this
  have BW := hideP (below2 w (.cells #[.int .i64 op, .int .i64 d, .int .i64 (-1), .int .i64 (nb : Int), .int .i64 c, .int .i64 n, .string t] 56) (.cells #[.int .i64 0, .int .i64 0, .int .i64 0, .int .i64 0] 92))
  have Q0 := hideP (two (Below.refl ((w.alloc (.cells #[.int .i64 op, .int .i64 d, .int .i64 (-1), .int .i64 (nb : Int), .int .i64 c, .int .i64 n, .string t] 56)).alloc (.cells #[.int .i64 0, .int .i64 0, .int .i64 0, .int .i64 0] 92)).heap.size _)).1
  have Q1 := hideP (two (Below.refl ((w.alloc (.cells #[.int .i64 op, .int .i64 d, .int .i64 (-1), .int .i64 (nb : Int), .int .i64 c, .int .i64 n, .string t] 56)).alloc (.cells #[.int .i64 0, .int .i64 0, .int .i64 0, .int .i64 0] 92)).heap.size _)).2.1
  clear h hop
  go_enter Tryz.func113, Tryz.ntmps113
  go_wp2_with fail
  refine (TO.out _).mono ?_
  rintro e1 w1 ⟨rfl, bel1⟩
  replace HH := hideP (HH.out.stays (below_trans BW.out bel1))
  replace BW := hideP (below_trans BW.out bel1)
  replace Q0 := hideP (keepB Q0.out bel1)
  replace Q1 := hideP (keepB Q1.out bel1)
  clear bel1
  have q0 := (cells_of Q0.out).1
  have hd := HH.out.head.1
  have cbb := HH.out.2.2.at nb hnb
  rw [eb] at cbb
  rw [symV_dist kb] at cbb
  have l0 : w.heap.size < w1.heap.size := (Array.getElem?_eq_some_iff.1 Q0.out).1
  have SK : Hid (∀ W', Below w1.heap.size w1 W' → W'.cell? ⟨w.heap.size, 3, none⟩ = some (.int .i64 (nb : Int)) ∧ W'.cell? ⟨L, 0, none⟩ = some (.slice (some ⟨S, 0, none⟩) l.slots.length l.slots.length) ∧ W'.cell? ⟨S, nb, none⟩ = some (.iface 175 (.agg #[.int .i64 bb, .int .i64 ob]))) := fun W' h => ⟨(h.cell (p := ⟨w.heap.size, 3, none⟩) l0).trans (q0 3), (h.cell (p := ⟨L, 0, none⟩) HH.out.lt.1).trans hd, (h.cell (p := ⟨S, nb, none⟩) HH.out.lt.2).trans cbb⟩
  clear q0 hd cbb l0
  go_upto_region 3 with fail
  go_cut [5, 6] from 5 to 24 (fun s5 s6 wx => s5 = .int .i64 bb ∧ s6 = .int .i64 ob ∧ Hid (Below w1.heap.size w1 wx))
  case first =>
    go_region_held3 (fun W' => W'.cell? ⟨w.heap.size, 3, none⟩ = some (.int .i64 (nb : Int)) ∧ W'.cell? ⟨L, 0, none⟩ = some (.slice (some ⟨S, 0, none⟩) l.slots.length l.slots.length) ∧ W'.cell? ⟨S, nb, none⟩ = some (.iface 175 (.agg #[.int .i64 bb, .int .i64 ob]))) (first | exact SK.out _ (Below.refl _ _).drew | exact SK.out _ HBa.out) (first
      | (go_at_call 192; refine (distParts_any bb ob _).mono ?_; rintro ea wa ⟨rfl, bela⟩; have HBa := hideP ((Below.refl w1.heap.size w1).drew.trans (bela.mono (Nat.le_refl _))); clear bela))
    all_goals (go_wp2_with fail; go_meet; exact ⟨rfl, rfl, HBa⟩)
  case rest =>
  obtain ⟨rfl, rfl, hc⟩ := hcut
  replace HH := hideP (HH.out.stays hc.out)
  replace BW := hideP (below_trans BW.out hc.out)
  replace Q0 := hideP (keepB Q0.out hc.out)
  replace Q1 := hideP (keepB Q1.out hc.out)
  clear hc SK
  have q0 := (cells_of Q0.out).1
  have q2 := q0 2
  have q5 := q0 5
  have q1 := cells_of Q1.out
  have g0 := q1.1 0
  have g1 := q1.1 1
  have g2 := q1.1 2
  have g3 := q1.1 3
  have f0 := q1.2 0
  have f1 := q1.2 1
  have f2 := q1.2 2
  have f3 := q1.2 3
  simp at q2 q5 g0 g1 g2 g3
  clear q0 q1
  have hres : Tryz.f113.results = #[.cell 4 92] := by kernel_rfl
  go_wp2
  all_goals first | omega | skip
  all_goals
    refine bodyPost_ret (results_cell_row hres _ _ (w.heap.size + 1) 92 _ (0, 0) _ rfl (set4_heap Q1.out) Tryz.underlying92 rfl (by kernel_rfl)) rfl ?_
    refine ⟨?_, (((BW.out.setCell (Nat.le_succ _) _).setCell (Nat.le_succ _) _).setCell (Nat.le_succ _) _).setCell (Nat.le_succ _) _⟩
    exact pl_eq (by omega) (by omega) (by first | rfl | simp [Int.add_comm])
set_option maxRecDepth 100000 in
set_option maxHeartbeats 4000000 in
theorem place_ff (w : World) (L S : Nat) (l : Led) (op d c n : Int) (nb : Nat) (t : ByteArray) (bb ob : Int) (hop : op = 3 ∨ op = 4) (h : LedIs w L S l) (hnb : nb < l.slots.length) (eb : l.slots[nb] = ⟨bb, ob⟩) (kb : bb = -1) (na : Nat) (ba oa : Int) (hna : na < l.slots.length) (ea : l.slots[na] = ⟨ba, oa⟩) (ka : ba = -1) :
    Calls Tryz.prog 113 #[.pointer (some ⟨L, 0, none⟩), .agg #[.int .i64 op, .int .i64 d, .int .i64 (na : Int), .int .i64 (nb : Int), .int .i64 c, .int .i64 n, .string t]] w
      fun e w' => e = .returned (.agg #[.int .i64 n, .int .i64 (min ba bb), .int .i64 (max ba bb), .int .i64 (wrap64 (oa + ob))]) ∧ Below w.heap.size w w' := by
  have HH := hideP h
  have TO : Hid (∀ W, Calls Tryz.prog 145 #[.agg #[.int .i64 op, .int .i64 d, .int .i64 (na : Int), .int .i64 (nb : Int), .int .i64 c, .int .i64 n, .string t]] W fun e w' => e = .returned (.bool true) ∧ Below W.heap.size W w') := fun W => by
    have := touches_any ⟨op, d, (na : Int), (nb : Int), c, n, t⟩ W
    simpa [insV, hop] using this
  have BW := hideP (below2 w (.cells #[.int .i64 op, .int .i64 d, .int .i64 (na : Int), .int .i64 (nb : Int), .int .i64 c, .int .i64 n, .string t] 56) (.cells #[.int .i64 0, .int .i64 0, .int .i64 0, .int .i64 0] 92))
  have Q0 := hideP (two (Below.refl ((w.alloc (.cells #[.int .i64 op, .int .i64 d, .int .i64 (na : Int), .int .i64 (nb : Int), .int .i64 c, .int .i64 n, .string t] 56)).alloc (.cells #[.int .i64 0, .int .i64 0, .int .i64 0, .int .i64 0] 92)).heap.size _)).1
  have Q1 := hideP (two (Below.refl ((w.alloc (.cells #[.int .i64 op, .int .i64 d, .int .i64 (na : Int), .int .i64 (nb : Int), .int .i64 c, .int .i64 n, .string t] 56)).alloc (.cells #[.int .i64 0, .int .i64 0, .int .i64 0, .int .i64 0] 92)).heap.size _)).2.1
  clear h hop
  go_enter Tryz.func113, Tryz.ntmps113
  go_wp2_with fail
  refine (TO.out _).mono ?_
  rintro e1 w1 ⟨rfl, bel1⟩
  replace HH := hideP (HH.out.stays (below_trans BW.out bel1))
  replace BW := hideP (below_trans BW.out bel1)
  replace Q0 := hideP (keepB Q0.out bel1)
  replace Q1 := hideP (keepB Q1.out bel1)
  clear bel1
  have q0 := (cells_of Q0.out).1
  have hd := HH.out.head.1
  have cbb := HH.out.2.2.at nb hnb
  rw [eb] at cbb
  subst kb
  rw [symV_fig] at cbb
  have l0 : w.heap.size < w1.heap.size := (Array.getElem?_eq_some_iff.1 Q0.out).1
  have SK : Hid (∀ W', Below w1.heap.size w1 W' → W'.cell? ⟨w.heap.size, 3, none⟩ = some (.int .i64 (nb : Int)) ∧ W'.cell? ⟨L, 0, none⟩ = some (.slice (some ⟨S, 0, none⟩) l.slots.length l.slots.length) ∧ W'.cell? ⟨S, nb, none⟩ = some (.iface 180 (.int .i64 ob))) := fun W' h => ⟨(h.cell (p := ⟨w.heap.size, 3, none⟩) l0).trans (q0 3), (h.cell (p := ⟨L, 0, none⟩) HH.out.lt.1).trans hd, (h.cell (p := ⟨S, nb, none⟩) HH.out.lt.2).trans cbb⟩
  clear q0 hd cbb l0
  go_upto_region 3 with fail
  go_cut [5, 6] from 5 to 24 (fun s5 s6 wx => s5 = .int .i64 (-1) ∧ s6 = .int .i64 ob ∧ Hid (Below w1.heap.size w1 wx))
  case first =>
    go_region_held3 (fun W' => W'.cell? ⟨w.heap.size, 3, none⟩ = some (.int .i64 (nb : Int)) ∧ W'.cell? ⟨L, 0, none⟩ = some (.slice (some ⟨S, 0, none⟩) l.slots.length l.slots.length) ∧ W'.cell? ⟨S, nb, none⟩ = some (.iface 180 (.int .i64 ob))) (first | exact SK.out _ (Below.refl _ _).drew | exact SK.out _ HBa.out) (first
      | (go_at_call 193; refine (figParts_any ob _).mono ?_; rintro ea wa ⟨rfl, bela⟩; have HBa := hideP ((Below.refl w1.heap.size w1).drew.trans (bela.mono (Nat.le_refl _))); clear bela))
    all_goals (go_wp2_with fail; go_meet; exact ⟨rfl, rfl, HBa⟩)
  case rest =>
  obtain ⟨rfl, rfl, hc⟩ := hcut
  replace HH := hideP (HH.out.stays hc.out)
  replace BW := hideP (below_trans BW.out hc.out)
  replace Q0 := hideP (keepB Q0.out hc.out)
  replace Q1 := hideP (keepB Q1.out hc.out)
  clear hc SK
  have q0 := (cells_of Q0.out).1
  have q2 := q0 2
  simp at q2
  have hd := HH.out.head.1
  have caa := HH.out.2.2.at na hna
  rw [ea] at caa
  subst ka
  rw [symV_fig] at caa
  have l0 : w.heap.size < wc.heap.size := (Array.getElem?_eq_some_iff.1 Q0.out).1
  have SK : Hid (∀ W', Below wc.heap.size wc W' → W'.cell? ⟨w.heap.size, 2, none⟩ = some (.int .i64 (na : Int)) ∧ W'.cell? ⟨L, 0, none⟩ = some (.slice (some ⟨S, 0, none⟩) l.slots.length l.slots.length) ∧ W'.cell? ⟨S, na, none⟩ = some (.iface 180 (.int .i64 oa))) := fun W' h => ⟨(h.cell (p := ⟨w.heap.size, 2, none⟩) l0).trans (q0 2), (h.cell (p := ⟨L, 0, none⟩) HH.out.lt.1).trans hd, (h.cell (p := ⟨S, na, none⟩) HH.out.lt.2).trans caa⟩
  clear q0 hd caa l0
  obtain ⟨wd, hwd⟩ : ∃ wd, wc = wd := ⟨_, rfl⟩
  subst hwd
  go_upto_region 6 with fail
  clear q2
  go_cut [5, 6, 7, 8] from 5 to 39 (fun s5 s6 s7 s8 wx => s5 = .int .i64 (-1) ∧ s6 = .int .i64 ob ∧ s7 = .int .i64 (-1) ∧ s8 = .int .i64 oa ∧ Hid (Below wc.heap.size wc wx))
  case first =>
    go_region_held3 (fun W' => W'.cell? ⟨w.heap.size, 2, none⟩ = some (.int .i64 (na : Int)) ∧ W'.cell? ⟨L, 0, none⟩ = some (.slice (some ⟨S, 0, none⟩) l.slots.length l.slots.length) ∧ W'.cell? ⟨S, na, none⟩ = some (.iface 180 (.int .i64 oa))) (first | exact SK.out _ (Below.refl _ _).drew | exact SK.out _ HBa.out) (first
      | (go_at_call 193; refine (figParts_any oa _).mono ?_; rintro ea wa ⟨rfl, bela⟩; have HBa := hideP ((Below.refl wc.heap.size wc).drew.trans (bela.mono (Nat.le_refl _))); clear bela))
    all_goals (go_wp2_with fail; go_meet; exact ⟨rfl, rfl, rfl, rfl, HBa⟩)
  case rest =>
  obtain ⟨rfl, rfl, rfl, rfl, hc⟩ := hcut
  replace HH := hideP (HH.out.stays hc.out)
  replace BW := hideP (below_trans BW.out hc.out)
  replace Q0 := hideP (keepB Q0.out hc.out)
  replace Q1 := hideP (keepB Q1.out hc.out)
  clear hc SK
  have q0 := (cells_of Q0.out).1
  have q2 := q0 2
  have q5 := q0 5
  have q1 := cells_of Q1.out
  have g0 := q1.1 0
  have g1 := q1.1 1
  have g2 := q1.1 2
  have g3 := q1.1 3
  have f0 := q1.2 0
  have f1 := q1.2 1
  have f2 := q1.2 2
  have f3 := q1.2 3
  simp at q2 q5 g0 g1 g2 g3
  clear q0 q1
  have hres : Tryz.f113.results = #[.cell 4 92] := by kernel_rfl
  go_wp2
  all_goals first | omega | skip
  all_goals
    refine bodyPost_ret (results_cell_row hres _ _ (w.heap.size + 1) 92 _ (0, 0) _ rfl (set4_heap Q1.out) Tryz.underlying92 rfl (by kernel_rfl)) rfl ?_
    refine ⟨?_, (((BW.out.setCell (Nat.le_succ _) _).setCell (Nat.le_succ _) _).setCell (Nat.le_succ _) _).setCell (Nat.le_succ _) _⟩
    exact pl_eq (by omega) (by omega) (by first | rfl | simp [Int.add_comm])
set_option maxRecDepth 100000 in
set_option maxHeartbeats 4000000 in
theorem place_fd (w : World) (L S : Nat) (l : Led) (op d c n : Int) (nb : Nat) (t : ByteArray) (bb ob : Int) (hop : op = 3 ∨ op = 4) (h : LedIs w L S l) (hnb : nb < l.slots.length) (eb : l.slots[nb] = ⟨bb, ob⟩) (kb : bb ≠ -1) (na : Nat) (ba oa : Int) (hna : na < l.slots.length) (ea : l.slots[na] = ⟨ba, oa⟩) (ka : ba = -1) :
    Calls Tryz.prog 113 #[.pointer (some ⟨L, 0, none⟩), .agg #[.int .i64 op, .int .i64 d, .int .i64 (na : Int), .int .i64 (nb : Int), .int .i64 c, .int .i64 n, .string t]] w
      fun e w' => e = .returned (.agg #[.int .i64 n, .int .i64 (min ba bb), .int .i64 (max ba bb), .int .i64 (wrap64 (oa + ob))]) ∧ Below w.heap.size w w' := by
  have HH := hideP h
  have TO : Hid (∀ W, Calls Tryz.prog 145 #[.agg #[.int .i64 op, .int .i64 d, .int .i64 (na : Int), .int .i64 (nb : Int), .int .i64 c, .int .i64 n, .string t]] W fun e w' => e = .returned (.bool true) ∧ Below W.heap.size W w') := fun W => by
    have := touches_any ⟨op, d, (na : Int), (nb : Int), c, n, t⟩ W
    simpa [insV, hop] using this
  have BW := hideP (below2 w (.cells #[.int .i64 op, .int .i64 d, .int .i64 (na : Int), .int .i64 (nb : Int), .int .i64 c, .int .i64 n, .string t] 56) (.cells #[.int .i64 0, .int .i64 0, .int .i64 0, .int .i64 0] 92))
  have Q0 := hideP (two (Below.refl ((w.alloc (.cells #[.int .i64 op, .int .i64 d, .int .i64 (na : Int), .int .i64 (nb : Int), .int .i64 c, .int .i64 n, .string t] 56)).alloc (.cells #[.int .i64 0, .int .i64 0, .int .i64 0, .int .i64 0] 92)).heap.size _)).1
  have Q1 := hideP (two (Below.refl ((w.alloc (.cells #[.int .i64 op, .int .i64 d, .int .i64 (na : Int), .int .i64 (nb : Int), .int .i64 c, .int .i64 n, .string t] 56)).alloc (.cells #[.int .i64 0, .int .i64 0, .int .i64 0, .int .i64 0] 92)).heap.size _)).2.1
  clear h hop
  go_enter Tryz.func113, Tryz.ntmps113
  go_wp2_with fail
  refine (TO.out _).mono ?_
  rintro e1 w1 ⟨rfl, bel1⟩
  replace HH := hideP (HH.out.stays (below_trans BW.out bel1))
  replace BW := hideP (below_trans BW.out bel1)
  replace Q0 := hideP (keepB Q0.out bel1)
  replace Q1 := hideP (keepB Q1.out bel1)
  clear bel1
  have q0 := (cells_of Q0.out).1
  have hd := HH.out.head.1
  have cbb := HH.out.2.2.at nb hnb
  rw [eb] at cbb
  rw [symV_dist kb] at cbb
  have l0 : w.heap.size < w1.heap.size := (Array.getElem?_eq_some_iff.1 Q0.out).1
  have SK : Hid (∀ W', Below w1.heap.size w1 W' → W'.cell? ⟨w.heap.size, 3, none⟩ = some (.int .i64 (nb : Int)) ∧ W'.cell? ⟨L, 0, none⟩ = some (.slice (some ⟨S, 0, none⟩) l.slots.length l.slots.length) ∧ W'.cell? ⟨S, nb, none⟩ = some (.iface 175 (.agg #[.int .i64 bb, .int .i64 ob]))) := fun W' h => ⟨(h.cell (p := ⟨w.heap.size, 3, none⟩) l0).trans (q0 3), (h.cell (p := ⟨L, 0, none⟩) HH.out.lt.1).trans hd, (h.cell (p := ⟨S, nb, none⟩) HH.out.lt.2).trans cbb⟩
  clear q0 hd cbb l0
  go_upto_region 3 with fail
  go_cut [5, 6] from 5 to 24 (fun s5 s6 wx => s5 = .int .i64 bb ∧ s6 = .int .i64 ob ∧ Hid (Below w1.heap.size w1 wx))
  case first =>
    go_region_held3 (fun W' => W'.cell? ⟨w.heap.size, 3, none⟩ = some (.int .i64 (nb : Int)) ∧ W'.cell? ⟨L, 0, none⟩ = some (.slice (some ⟨S, 0, none⟩) l.slots.length l.slots.length) ∧ W'.cell? ⟨S, nb, none⟩ = some (.iface 175 (.agg #[.int .i64 bb, .int .i64 ob]))) (first | exact SK.out _ (Below.refl _ _).drew | exact SK.out _ HBa.out) (first
      | (go_at_call 192; refine (distParts_any bb ob _).mono ?_; rintro ea wa ⟨rfl, bela⟩; have HBa := hideP ((Below.refl w1.heap.size w1).drew.trans (bela.mono (Nat.le_refl _))); clear bela))
    all_goals (go_wp2_with fail; go_meet; exact ⟨rfl, rfl, HBa⟩)
  case rest =>
  obtain ⟨rfl, rfl, hc⟩ := hcut
  replace HH := hideP (HH.out.stays hc.out)
  replace BW := hideP (below_trans BW.out hc.out)
  replace Q0 := hideP (keepB Q0.out hc.out)
  replace Q1 := hideP (keepB Q1.out hc.out)
  clear hc SK
  have q0 := (cells_of Q0.out).1
  have q2 := q0 2
  simp at q2
  have hd := HH.out.head.1
  have caa := HH.out.2.2.at na hna
  rw [ea] at caa
  subst ka
  rw [symV_fig] at caa
  have l0 : w.heap.size < wc.heap.size := (Array.getElem?_eq_some_iff.1 Q0.out).1
  have SK : Hid (∀ W', Below wc.heap.size wc W' → W'.cell? ⟨w.heap.size, 2, none⟩ = some (.int .i64 (na : Int)) ∧ W'.cell? ⟨L, 0, none⟩ = some (.slice (some ⟨S, 0, none⟩) l.slots.length l.slots.length) ∧ W'.cell? ⟨S, na, none⟩ = some (.iface 180 (.int .i64 oa))) := fun W' h => ⟨(h.cell (p := ⟨w.heap.size, 2, none⟩) l0).trans (q0 2), (h.cell (p := ⟨L, 0, none⟩) HH.out.lt.1).trans hd, (h.cell (p := ⟨S, na, none⟩) HH.out.lt.2).trans caa⟩
  clear q0 hd caa l0
  obtain ⟨wd, hwd⟩ : ∃ wd, wc = wd := ⟨_, rfl⟩
  subst hwd
  go_upto_region 6 with fail
  clear q2
  go_cut [5, 6, 7, 8] from 5 to 39 (fun s5 s6 s7 s8 wx => s5 = .int .i64 bb ∧ s6 = .int .i64 ob ∧ s7 = .int .i64 (-1) ∧ s8 = .int .i64 oa ∧ Hid (Below wc.heap.size wc wx))
  case first =>
    go_region_held3 (fun W' => W'.cell? ⟨w.heap.size, 2, none⟩ = some (.int .i64 (na : Int)) ∧ W'.cell? ⟨L, 0, none⟩ = some (.slice (some ⟨S, 0, none⟩) l.slots.length l.slots.length) ∧ W'.cell? ⟨S, na, none⟩ = some (.iface 180 (.int .i64 oa))) (first | exact SK.out _ (Below.refl _ _).drew | exact SK.out _ HBa.out) (first
      | (go_at_call 193; refine (figParts_any oa _).mono ?_; rintro ea wa ⟨rfl, bela⟩; have HBa := hideP ((Below.refl wc.heap.size wc).drew.trans (bela.mono (Nat.le_refl _))); clear bela))
    all_goals (go_wp2_with fail; go_meet; exact ⟨rfl, rfl, rfl, rfl, HBa⟩)
  case rest =>
  obtain ⟨rfl, rfl, rfl, rfl, hc⟩ := hcut
  replace HH := hideP (HH.out.stays hc.out)
  replace BW := hideP (below_trans BW.out hc.out)
  replace Q0 := hideP (keepB Q0.out hc.out)
  replace Q1 := hideP (keepB Q1.out hc.out)
  clear hc SK
  have q0 := (cells_of Q0.out).1
  have q2 := q0 2
  have q5 := q0 5
  have q1 := cells_of Q1.out
  have g0 := q1.1 0
  have g1 := q1.1 1
  have g2 := q1.1 2
  have g3 := q1.1 3
  have f0 := q1.2 0
  have f1 := q1.2 1
  have f2 := q1.2 2
  have f3 := q1.2 3
  simp at q2 q5 g0 g1 g2 g3
  clear q0 q1
  have hres : Tryz.f113.results = #[.cell 4 92] := by kernel_rfl
  go_wp2
  all_goals first | omega | skip
  all_goals
    refine bodyPost_ret (results_cell_row hres _ _ (w.heap.size + 1) 92 _ (0, 0) _ rfl (set4_heap Q1.out) Tryz.underlying92 rfl (by kernel_rfl)) rfl ?_
    refine ⟨?_, (((BW.out.setCell (Nat.le_succ _) _).setCell (Nat.le_succ _) _).setCell (Nat.le_succ _) _).setCell (Nat.le_succ _) _⟩
    exact pl_eq (by omega) (by omega) (by first | rfl | simp [Int.add_comm])
set_option maxRecDepth 100000 in
set_option maxHeartbeats 4000000 in
theorem place_df (w : World) (L S : Nat) (l : Led) (op d c n : Int) (nb : Nat) (t : ByteArray) (bb ob : Int) (hop : op = 3 ∨ op = 4) (h : LedIs w L S l) (hnb : nb < l.slots.length) (eb : l.slots[nb] = ⟨bb, ob⟩) (kb : bb = -1) (na : Nat) (ba oa : Int) (hna : na < l.slots.length) (ea : l.slots[na] = ⟨ba, oa⟩) (ka : ba ≠ -1) :
    Calls Tryz.prog 113 #[.pointer (some ⟨L, 0, none⟩), .agg #[.int .i64 op, .int .i64 d, .int .i64 (na : Int), .int .i64 (nb : Int), .int .i64 c, .int .i64 n, .string t]] w
      fun e w' => e = .returned (.agg #[.int .i64 n, .int .i64 (min ba bb), .int .i64 (max ba bb), .int .i64 (wrap64 (oa + ob))]) ∧ Below w.heap.size w w' := by
  have HH := hideP h
  have TO : Hid (∀ W, Calls Tryz.prog 145 #[.agg #[.int .i64 op, .int .i64 d, .int .i64 (na : Int), .int .i64 (nb : Int), .int .i64 c, .int .i64 n, .string t]] W fun e w' => e = .returned (.bool true) ∧ Below W.heap.size W w') := fun W => by
    have := touches_any ⟨op, d, (na : Int), (nb : Int), c, n, t⟩ W
    simpa [insV, hop] using this
  have BW := hideP (below2 w (.cells #[.int .i64 op, .int .i64 d, .int .i64 (na : Int), .int .i64 (nb : Int), .int .i64 c, .int .i64 n, .string t] 56) (.cells #[.int .i64 0, .int .i64 0, .int .i64 0, .int .i64 0] 92))
  have Q0 := hideP (two (Below.refl ((w.alloc (.cells #[.int .i64 op, .int .i64 d, .int .i64 (na : Int), .int .i64 (nb : Int), .int .i64 c, .int .i64 n, .string t] 56)).alloc (.cells #[.int .i64 0, .int .i64 0, .int .i64 0, .int .i64 0] 92)).heap.size _)).1
  have Q1 := hideP (two (Below.refl ((w.alloc (.cells #[.int .i64 op, .int .i64 d, .int .i64 (na : Int), .int .i64 (nb : Int), .int .i64 c, .int .i64 n, .string t] 56)).alloc (.cells #[.int .i64 0, .int .i64 0, .int .i64 0, .int .i64 0] 92)).heap.size _)).2.1
  clear h hop
  go_enter Tryz.func113, Tryz.ntmps113
  go_wp2_with fail
  refine (TO.out _).mono ?_
  rintro e1 w1 ⟨rfl, bel1⟩
  replace HH := hideP (HH.out.stays (below_trans BW.out bel1))
  replace BW := hideP (below_trans BW.out bel1)
  replace Q0 := hideP (keepB Q0.out bel1)
  replace Q1 := hideP (keepB Q1.out bel1)
  clear bel1
  have q0 := (cells_of Q0.out).1
  have hd := HH.out.head.1
  have cbb := HH.out.2.2.at nb hnb
  rw [eb] at cbb
  subst kb
  rw [symV_fig] at cbb
  have l0 : w.heap.size < w1.heap.size := (Array.getElem?_eq_some_iff.1 Q0.out).1
  have SK : Hid (∀ W', Below w1.heap.size w1 W' → W'.cell? ⟨w.heap.size, 3, none⟩ = some (.int .i64 (nb : Int)) ∧ W'.cell? ⟨L, 0, none⟩ = some (.slice (some ⟨S, 0, none⟩) l.slots.length l.slots.length) ∧ W'.cell? ⟨S, nb, none⟩ = some (.iface 180 (.int .i64 ob))) := fun W' h => ⟨(h.cell (p := ⟨w.heap.size, 3, none⟩) l0).trans (q0 3), (h.cell (p := ⟨L, 0, none⟩) HH.out.lt.1).trans hd, (h.cell (p := ⟨S, nb, none⟩) HH.out.lt.2).trans cbb⟩
  clear q0 hd cbb l0
  go_upto_region 3 with fail
  go_cut [5, 6] from 5 to 24 (fun s5 s6 wx => s5 = .int .i64 (-1) ∧ s6 = .int .i64 ob ∧ Hid (Below w1.heap.size w1 wx))
  case first =>
    go_region_held3 (fun W' => W'.cell? ⟨w.heap.size, 3, none⟩ = some (.int .i64 (nb : Int)) ∧ W'.cell? ⟨L, 0, none⟩ = some (.slice (some ⟨S, 0, none⟩) l.slots.length l.slots.length) ∧ W'.cell? ⟨S, nb, none⟩ = some (.iface 180 (.int .i64 ob))) (first | exact SK.out _ (Below.refl _ _).drew | exact SK.out _ HBa.out) (first
      | (go_at_call 193; refine (figParts_any ob _).mono ?_; rintro ea wa ⟨rfl, bela⟩; have HBa := hideP ((Below.refl w1.heap.size w1).drew.trans (bela.mono (Nat.le_refl _))); clear bela))
    all_goals (go_wp2_with fail; go_meet; exact ⟨rfl, rfl, HBa⟩)
  case rest =>
  obtain ⟨rfl, rfl, hc⟩ := hcut
  replace HH := hideP (HH.out.stays hc.out)
  replace BW := hideP (below_trans BW.out hc.out)
  replace Q0 := hideP (keepB Q0.out hc.out)
  replace Q1 := hideP (keepB Q1.out hc.out)
  clear hc SK
  have q0 := (cells_of Q0.out).1
  have q2 := q0 2
  simp at q2
  have hd := HH.out.head.1
  have caa := HH.out.2.2.at na hna
  rw [ea] at caa
  rw [symV_dist ka] at caa
  have l0 : w.heap.size < wc.heap.size := (Array.getElem?_eq_some_iff.1 Q0.out).1
  have SK : Hid (∀ W', Below wc.heap.size wc W' → W'.cell? ⟨w.heap.size, 2, none⟩ = some (.int .i64 (na : Int)) ∧ W'.cell? ⟨L, 0, none⟩ = some (.slice (some ⟨S, 0, none⟩) l.slots.length l.slots.length) ∧ W'.cell? ⟨S, na, none⟩ = some (.iface 175 (.agg #[.int .i64 ba, .int .i64 oa]))) := fun W' h => ⟨(h.cell (p := ⟨w.heap.size, 2, none⟩) l0).trans (q0 2), (h.cell (p := ⟨L, 0, none⟩) HH.out.lt.1).trans hd, (h.cell (p := ⟨S, na, none⟩) HH.out.lt.2).trans caa⟩
  clear q0 hd caa l0
  obtain ⟨wd, hwd⟩ : ∃ wd, wc = wd := ⟨_, rfl⟩
  subst hwd
  go_upto_region 6 with fail
  clear q2
  go_cut [5, 6, 7, 8] from 5 to 39 (fun s5 s6 s7 s8 wx => s5 = .int .i64 (-1) ∧ s6 = .int .i64 ob ∧ s7 = .int .i64 ba ∧ s8 = .int .i64 oa ∧ Hid (Below wc.heap.size wc wx))
  case first =>
    go_region_held3 (fun W' => W'.cell? ⟨w.heap.size, 2, none⟩ = some (.int .i64 (na : Int)) ∧ W'.cell? ⟨L, 0, none⟩ = some (.slice (some ⟨S, 0, none⟩) l.slots.length l.slots.length) ∧ W'.cell? ⟨S, na, none⟩ = some (.iface 175 (.agg #[.int .i64 ba, .int .i64 oa]))) (first | exact SK.out _ (Below.refl _ _).drew | exact SK.out _ HBa.out) (first
      | (go_at_call 192; refine (distParts_any ba oa _).mono ?_; rintro ea wa ⟨rfl, bela⟩; have HBa := hideP ((Below.refl wc.heap.size wc).drew.trans (bela.mono (Nat.le_refl _))); clear bela))
    all_goals (go_wp2_with fail; go_meet; exact ⟨rfl, rfl, rfl, rfl, HBa⟩)
  case rest =>
  obtain ⟨rfl, rfl, rfl, rfl, hc⟩ := hcut
  replace HH := hideP (HH.out.stays hc.out)
  replace BW := hideP (below_trans BW.out hc.out)
  replace Q0 := hideP (keepB Q0.out hc.out)
  replace Q1 := hideP (keepB Q1.out hc.out)
  clear hc SK
  have q0 := (cells_of Q0.out).1
  have q2 := q0 2
  have q5 := q0 5
  have q1 := cells_of Q1.out
  have g0 := q1.1 0
  have g1 := q1.1 1
  have g2 := q1.1 2
  have g3 := q1.1 3
  have f0 := q1.2 0
  have f1 := q1.2 1
  have f2 := q1.2 2
  have f3 := q1.2 3
  simp at q2 q5 g0 g1 g2 g3
  clear q0 q1
  have hres : Tryz.f113.results = #[.cell 4 92] := by kernel_rfl
  go_wp2
  all_goals first | omega | skip
  all_goals
    refine bodyPost_ret (results_cell_row hres _ _ (w.heap.size + 1) 92 _ (0, 0) _ rfl (set4_heap Q1.out) Tryz.underlying92 rfl (by kernel_rfl)) rfl ?_
    refine ⟨?_, (((BW.out.setCell (Nat.le_succ _) _).setCell (Nat.le_succ _) _).setCell (Nat.le_succ _) _).setCell (Nat.le_succ _) _⟩
    exact pl_eq (by omega) (by omega) (by first | rfl | simp [Int.add_comm])
set_option maxRecDepth 100000 in
set_option maxHeartbeats 4000000 in
theorem place_dd (w : World) (L S : Nat) (l : Led) (op d c n : Int) (nb : Nat) (t : ByteArray) (bb ob : Int) (hop : op = 3 ∨ op = 4) (h : LedIs w L S l) (hnb : nb < l.slots.length) (eb : l.slots[nb] = ⟨bb, ob⟩) (kb : bb ≠ -1) (na : Nat) (ba oa : Int) (hna : na < l.slots.length) (ea : l.slots[na] = ⟨ba, oa⟩) (ka : ba ≠ -1) :
    Calls Tryz.prog 113 #[.pointer (some ⟨L, 0, none⟩), .agg #[.int .i64 op, .int .i64 d, .int .i64 (na : Int), .int .i64 (nb : Int), .int .i64 c, .int .i64 n, .string t]] w
      fun e w' => e = .returned (.agg #[.int .i64 n, .int .i64 (min ba bb), .int .i64 (max ba bb), .int .i64 (wrap64 (oa + ob))]) ∧ Below w.heap.size w w' := by
  have HH := hideP h
  have TO : Hid (∀ W, Calls Tryz.prog 145 #[.agg #[.int .i64 op, .int .i64 d, .int .i64 (na : Int), .int .i64 (nb : Int), .int .i64 c, .int .i64 n, .string t]] W fun e w' => e = .returned (.bool true) ∧ Below W.heap.size W w') := fun W => by
    have := touches_any ⟨op, d, (na : Int), (nb : Int), c, n, t⟩ W
    simpa [insV, hop] using this
  have BW := hideP (below2 w (.cells #[.int .i64 op, .int .i64 d, .int .i64 (na : Int), .int .i64 (nb : Int), .int .i64 c, .int .i64 n, .string t] 56) (.cells #[.int .i64 0, .int .i64 0, .int .i64 0, .int .i64 0] 92))
  have Q0 := hideP (two (Below.refl ((w.alloc (.cells #[.int .i64 op, .int .i64 d, .int .i64 (na : Int), .int .i64 (nb : Int), .int .i64 c, .int .i64 n, .string t] 56)).alloc (.cells #[.int .i64 0, .int .i64 0, .int .i64 0, .int .i64 0] 92)).heap.size _)).1
  have Q1 := hideP (two (Below.refl ((w.alloc (.cells #[.int .i64 op, .int .i64 d, .int .i64 (na : Int), .int .i64 (nb : Int), .int .i64 c, .int .i64 n, .string t] 56)).alloc (.cells #[.int .i64 0, .int .i64 0, .int .i64 0, .int .i64 0] 92)).heap.size _)).2.1
  clear h hop
  go_enter Tryz.func113, Tryz.ntmps113
  go_wp2_with fail
  refine (TO.out _).mono ?_
  rintro e1 w1 ⟨rfl, bel1⟩
  replace HH := hideP (HH.out.stays (below_trans BW.out bel1))
  replace BW := hideP (below_trans BW.out bel1)
  replace Q0 := hideP (keepB Q0.out bel1)
  replace Q1 := hideP (keepB Q1.out bel1)
  clear bel1
  have q0 := (cells_of Q0.out).1
  have hd := HH.out.head.1
  have cbb := HH.out.2.2.at nb hnb
  rw [eb] at cbb
  rw [symV_dist kb] at cbb
  have l0 : w.heap.size < w1.heap.size := (Array.getElem?_eq_some_iff.1 Q0.out).1
  have SK : Hid (∀ W', Below w1.heap.size w1 W' → W'.cell? ⟨w.heap.size, 3, none⟩ = some (.int .i64 (nb : Int)) ∧ W'.cell? ⟨L, 0, none⟩ = some (.slice (some ⟨S, 0, none⟩) l.slots.length l.slots.length) ∧ W'.cell? ⟨S, nb, none⟩ = some (.iface 175 (.agg #[.int .i64 bb, .int .i64 ob]))) := fun W' h => ⟨(h.cell (p := ⟨w.heap.size, 3, none⟩) l0).trans (q0 3), (h.cell (p := ⟨L, 0, none⟩) HH.out.lt.1).trans hd, (h.cell (p := ⟨S, nb, none⟩) HH.out.lt.2).trans cbb⟩
  clear q0 hd cbb l0
  go_upto_region 3 with fail
  go_cut [5, 6] from 5 to 24 (fun s5 s6 wx => s5 = .int .i64 bb ∧ s6 = .int .i64 ob ∧ Hid (Below w1.heap.size w1 wx))
  case first =>
    go_region_held3 (fun W' => W'.cell? ⟨w.heap.size, 3, none⟩ = some (.int .i64 (nb : Int)) ∧ W'.cell? ⟨L, 0, none⟩ = some (.slice (some ⟨S, 0, none⟩) l.slots.length l.slots.length) ∧ W'.cell? ⟨S, nb, none⟩ = some (.iface 175 (.agg #[.int .i64 bb, .int .i64 ob]))) (first | exact SK.out _ (Below.refl _ _).drew | exact SK.out _ HBa.out) (first
      | (go_at_call 192; refine (distParts_any bb ob _).mono ?_; rintro ea wa ⟨rfl, bela⟩; have HBa := hideP ((Below.refl w1.heap.size w1).drew.trans (bela.mono (Nat.le_refl _))); clear bela))
    all_goals (go_wp2_with fail; go_meet; exact ⟨rfl, rfl, HBa⟩)
  case rest =>
  obtain ⟨rfl, rfl, hc⟩ := hcut
  replace HH := hideP (HH.out.stays hc.out)
  replace BW := hideP (below_trans BW.out hc.out)
  replace Q0 := hideP (keepB Q0.out hc.out)
  replace Q1 := hideP (keepB Q1.out hc.out)
  clear hc SK
  have q0 := (cells_of Q0.out).1
  have q2 := q0 2
  simp at q2
  have hd := HH.out.head.1
  have caa := HH.out.2.2.at na hna
  rw [ea] at caa
  rw [symV_dist ka] at caa
  have l0 : w.heap.size < wc.heap.size := (Array.getElem?_eq_some_iff.1 Q0.out).1
  have SK : Hid (∀ W', Below wc.heap.size wc W' → W'.cell? ⟨w.heap.size, 2, none⟩ = some (.int .i64 (na : Int)) ∧ W'.cell? ⟨L, 0, none⟩ = some (.slice (some ⟨S, 0, none⟩) l.slots.length l.slots.length) ∧ W'.cell? ⟨S, na, none⟩ = some (.iface 175 (.agg #[.int .i64 ba, .int .i64 oa]))) := fun W' h => ⟨(h.cell (p := ⟨w.heap.size, 2, none⟩) l0).trans (q0 2), (h.cell (p := ⟨L, 0, none⟩) HH.out.lt.1).trans hd, (h.cell (p := ⟨S, na, none⟩) HH.out.lt.2).trans caa⟩
  clear q0 hd caa l0
  obtain ⟨wd, hwd⟩ : ∃ wd, wc = wd := ⟨_, rfl⟩
  subst hwd
  go_upto_region 6 with fail
  clear q2
  go_cut [5, 6, 7, 8] from 5 to 39 (fun s5 s6 s7 s8 wx => s5 = .int .i64 bb ∧ s6 = .int .i64 ob ∧ s7 = .int .i64 ba ∧ s8 = .int .i64 oa ∧ Hid (Below wc.heap.size wc wx))
  case first =>
    go_region_held3 (fun W' => W'.cell? ⟨w.heap.size, 2, none⟩ = some (.int .i64 (na : Int)) ∧ W'.cell? ⟨L, 0, none⟩ = some (.slice (some ⟨S, 0, none⟩) l.slots.length l.slots.length) ∧ W'.cell? ⟨S, na, none⟩ = some (.iface 175 (.agg #[.int .i64 ba, .int .i64 oa]))) (first | exact SK.out _ (Below.refl _ _).drew | exact SK.out _ HBa.out) (first
      | (go_at_call 192; refine (distParts_any ba oa _).mono ?_; rintro ea wa ⟨rfl, bela⟩; have HBa := hideP ((Below.refl wc.heap.size wc).drew.trans (bela.mono (Nat.le_refl _))); clear bela))
    all_goals (go_wp2_with fail; go_meet; exact ⟨rfl, rfl, rfl, rfl, HBa⟩)
  case rest =>
  obtain ⟨rfl, rfl, rfl, rfl, hc⟩ := hcut
  replace HH := hideP (HH.out.stays hc.out)
  replace BW := hideP (below_trans BW.out hc.out)
  replace Q0 := hideP (keepB Q0.out hc.out)
  replace Q1 := hideP (keepB Q1.out hc.out)
  clear hc SK
  have q0 := (cells_of Q0.out).1
  have q2 := q0 2
  have q5 := q0 5
  have q1 := cells_of Q1.out
  have g0 := q1.1 0
  have g1 := q1.1 1
  have g2 := q1.1 2
  have g3 := q1.1 3
  have f0 := q1.2 0
  have f1 := q1.2 1
  have f2 := q1.2 2
  have f3 := q1.2 3
  simp at q2 q5 g0 g1 g2 g3
  clear q0 q1
  have hres : Tryz.f113.results = #[.cell 4 92] := by kernel_rfl
  go_wp2
  all_goals first | omega | skip
  all_goals
    refine bodyPost_ret (results_cell_row hres _ _ (w.heap.size + 1) 92 _ (0, 0) _ rfl (set4_heap Q1.out) Tryz.underlying92 rfl (by kernel_rfl)) rfl ?_
    refine ⟨?_, (((BW.out.setCell (Nat.le_succ _) _).setCell (Nat.le_succ _) _).setCell (Nat.le_succ _) _).setCell (Nat.le_succ _) _⟩
    exact pl_eq (by omega) (by omega) (by first | rfl | simp [Int.add_comm])
end Go.Proofs.YtelkpikbjfkpcaaGreat

/- The program's ledger: the contracts of place and step, for any step that is right. -/
namespace Go.Proofs.YtelkpikbjfkpcaaGreat
open Go.ChangeShapes Go.WideShapes Go.ChangeAt Go.RowKit
theorem Led.get_at {l : Led} {n : Nat} (h : n < l.slots.length) : l.get (n : Int) = l.slots[n] := by
  unfold Led.get; rw [show ((n : Int).toNat) = n by omega, getElem!_pos l.slots n h]
theorem vOk_nat {V : Nat} {n : Int} (h : vOk V n = true) : ∃ k : Nat, n = (k : Int) ∧ k < V := by
  have h' : 0 ≤ n ∧ n < V := by simpa [vOk] using h
  exact ⟨n.toNat, by omega, by omega⟩
set_option maxRecDepth 100000 in
set_option maxHeartbeats 2000000 in
theorem place_no (w : World) (L : Nat) (x : Ins) (hop : ¬ (x.op = 3 ∨ x.op = 4)) :
    Calls Tryz.prog 113 #[.pointer (some ⟨L, 0, none⟩), .agg (insV x)] w fun e w' => e = .returned (.agg #[.int .i64 (-1), .int .i64 0, .int .i64 0, .int .i64 0]) ∧ Below w.heap.size w w' := by
  have TO : Hid (∀ W, Calls Tryz.prog 145 #[.agg (insV x)] W fun e w' => e = .returned (.bool false) ∧ Below W.heap.size W w') := fun W => by
    have := touches_any x W
    simpa [hop] using this
  obtain ⟨op, d, a, b, c, n, t⟩ := x
  simp only [insV] at *
  have BW := hideP (below2 w (.cells #[.int .i64 op, .int .i64 d, .int .i64 a, .int .i64 b, .int .i64 c, .int .i64 n, .string t] 56) (.cells #[.int .i64 0, .int .i64 0, .int .i64 0, .int .i64 0] 92))
  have Q1 := hideP (two (Below.refl ((w.alloc (.cells #[.int .i64 op, .int .i64 d, .int .i64 a, .int .i64 b, .int .i64 c, .int .i64 n, .string t] 56)).alloc (.cells #[.int .i64 0, .int .i64 0, .int .i64 0, .int .i64 0] 92)).heap.size _)).2.1
  clear hop
  go_enter Tryz.func113, Tryz.ntmps113
  go_wp2_with fail
  refine (TO.out _).mono ?_
  rintro e1 w1 ⟨rfl, bel1⟩
  replace BW := hideP (below_trans BW.out bel1)
  replace Q1 := hideP (keepB Q1.out bel1)
  clear bel1
  have q1 := cells_of Q1.out
  have g0 := q1.1 0
  have g1 := q1.1 1
  have g2 := q1.1 2
  have g3 := q1.1 3
  have f0 := q1.2 0
  have f1 := q1.2 1
  have f2 := q1.2 2
  have f3 := q1.2 3
  simp at g0 g1 g2 g3
  clear q1
  have hres : Tryz.f113.results = #[.cell 4 92] := by kernel_rfl
  go_wp2
  refine bodyPost_ret (results_cell_row hres _ _ (w.heap.size + 1) 92 _ (0, 0) _ rfl (set4_heap Q1.out) Tryz.underlying92 rfl (by kernel_rfl)) rfl ?_
  exact ⟨rfl, (((BW.out.setCell (Nat.le_succ _) _).setCell (Nat.le_succ _) _).setCell (Nat.le_succ _) _).setCell (Nat.le_succ _) _⟩
theorem place_any (w : World) (L S : Nat) (l : Led) (x : Ins) (R : Int) (h : LedIs w L S l) (hx : insOk R (l.slots.length : Nat) x = true) :
    Calls Tryz.prog 113 #[.pointer (some ⟨L, 0, none⟩), .agg (insV x)] w fun e w' => e = .returned (.agg (plaV (placeP l x))) ∧ Below w.heap.size w w' := by
  by_cases hop : x.op = 3 ∨ x.op = 4
  · obtain ⟨hb, ha⟩ : vOk (l.slots.length : Nat) x.b = true ∧ (x.a = -1 ∨ vOk (l.slots.length : Nat) x.a = true) := by
      rcases insOk_slots hx with ⟨e, _⟩ | ⟨e, _⟩ | ⟨e, _⟩ | ⟨_, _, hb, ha, _⟩ | ⟨_, hb, ha, _⟩ | ⟨e, _⟩ | e
      all_goals first | exact ⟨hb, ha⟩ | omega
    obtain ⟨op, d, a, b, c, n, t⟩ := x
    simp only at hop hb ha
    obtain ⟨nb, rfl, hnb⟩ := vOk_nat hb
    obtain ⟨⟨bb, ob⟩, eb⟩ : ∃ s, l.slots[nb] = s := ⟨_, rfl⟩
    have E : placeP l ⟨op, d, a, (nb : Int), c, n, t⟩ = ⟨n, min (l.oget a).base bb, max (l.oget a).base bb, wrap64 ((l.oget a).off + ob)⟩ := by
      unfold placeP; rw [if_pos hop]; simp only [Led.get_at hnb, eb]
    rw [E]
    simp only [insV, plaV]
    by_cases hn : a = -1
    · subst hn
      have e0 : l.oget (-1) = ⟨-1, 0⟩ := if_pos rfl
      rw [e0]
      by_cases kb : bb = -1
      · exact place_nf w L S l op d c n nb t bb ob hop h hnb eb kb
      · exact place_nd w L S l op d c n nb t bb ob hop h hnb eb kb
    · obtain ⟨na, rfl, hna⟩ := vOk_nat (ha.resolve_left hn)
      obtain ⟨⟨ba, oa⟩, ea⟩ : ∃ s, l.slots[na] = s := ⟨_, rfl⟩
      have e0 : l.oget (na : Int) = ⟨ba, oa⟩ := by unfold Led.oget; rw [if_neg hn, Led.get_at hna, ea]
      rw [e0]
      by_cases ka : ba = -1 <;> by_cases kb : bb = -1
      · exact place_ff w L S l op d c n nb t bb ob hop h hnb eb kb na ba oa hna ea ka
      · exact place_fd w L S l op d c n nb t bb ob hop h hnb eb kb na ba oa hna ea ka
      · exact place_df w L S l op d c n nb t bb ob hop h hnb eb kb na ba oa hna ea ka
      · exact place_dd w L S l op d c n nb t bb ob hop h hnb eb kb na ba oa hna ea ka
  · have E : placeP l x = ⟨-1, 0, 0, 0⟩ := if_neg hop
    rw [E]
    exact place_no w L x hop
theorem LedIs.put {w : World} {L S : Nat} {l : Led} (h : LedIs w L S l) (nd : Nat) (s : Sym) (hn : nd < l.slots.length) : LedIs (w.setCell ⟨S, nd, none⟩ (symV s)) L S (l.put (nd : Int) s) := by
  refine ⟨h.1, ?_, ?_⟩
  · rw [Below.heap_setCell w ⟨S, nd, none⟩ _ L h.1]
    simpa [Led.put] using h.2.1
  · have := h.2.2.set nd s hn
    simpa [Led.put] using this
theorem LedIs.putO {w w1 : World} {L S : Nat} {l : Led} (h : LedIs w L S l) (but : But L w w1) (o : Option Sym) (hl : w1.heap[L]? = some (.cells (ledHead S l.slots.length (l.next o)) 173 (0, 0))) (nd : Nat) (hn : nd < l.slots.length) : LedIs (w1.setCell ⟨S, nd, none⟩ (symV (l.made o))) L S (l.putO (nd : Int) o) := by
  have h1 : LedIs w1 L S ⟨l.slots, l.next o⟩ := ⟨h.1, hl, h.2.2.blk (but.block S h.lt.2 (fun e => h.1 e.symm))⟩
  have := h1.put nd (l.made o) hn
  rw [putO_eq]
  simpa [Led.put] using this
end Go.Proofs.YtelkpikbjfkpcaaGreat

/- The program's ledger: the contract of step, for each kind of step (written by wip/mkstep.py). -/
namespace Go.Proofs.YtelkpikbjfkpcaaGreat
open Go.ChangeShapes Go.WideShapes Go.ChangeAt Go.RowKit
theorem symV_iface (s : Sym) : ∃ T v, symV s = .iface T v := by
  unfold symV; split
  · exact ⟨_, _, rfl⟩
  · exact ⟨_, _, rfl⟩
theorem cell_other {w : World} {S i b o : Nat} {v : Value} (h : b ≠ S) : (w.setCell ⟨S, i, none⟩ v).cell? ⟨b, o, none⟩ = w.cell? ⟨b, o, none⟩ := World.cell?_of_block (w := w) (a := ⟨b, o, none⟩) (Below.heap_setCell w ⟨S, i, none⟩ v b h)
set_option maxRecDepth 100000 in
set_option maxHeartbeats 4000000 in
theorem step_const (w : World) (L S : Nat) (l : Led) (nd : Nat) (a b c n : Int) (t : ByteArray) (h : LedIs w L S l) (hnd : nd < l.slots.length) :
    Calls Tryz.prog 114 #[.pointer (some ⟨L, 0, none⟩), .agg #[.int .i64 0, .int .i64 (nd : Int), .int .i64 a, .int .i64 b, .int .i64 c, .int .i64 n, .string t]] w fun e w' => e = .returned (.tuple #[]) ∧ But2 L S w w' ∧ LedIs w' L S (l.put (nd : Int) ⟨-1, n⟩) := by
  have H1 := h.put nd ⟨-1, n⟩ hnd
  have H2 : Hid (LedIs _ L S (l.put (nd : Int) ⟨-1, n⟩)) := H1.stays ((Below.refl _ _).alloc (Nat.le_refl _) (.cells #[.int .i64 0, .int .i64 (nd : Int), .int .i64 a, .int .i64 b, .int .i64 c, .int .i64 n, .string t] 56)).drew
  have B2 : Hid (But2 L S w _) := ((But2.refl L S w).set2 nd (symV ⟨-1, n⟩)).trans (But2.ofB ((Below.refl _ _).alloc (Nat.le_refl _) (.cells #[.int .i64 0, .int .i64 (nd : Int), .int .i64 a, .int .i64 b, .int .i64 c, .int .i64 n, .string t] 56)).drew)
  rw [symV_fig] at H2 B2
  obtain ⟨hL, hS⟩ := h.lt
  have c0 := h.head.1
  have cd := h.2.2.at nd hnd
  have fd := h.2.2.free nd
  clear h H1
  go_enter Tryz.func114, Tryz.ntmps114
  go_wp2
  go_region
  all_goals go_wp2
  all_goals (first | go_end0 | refine bodyPost_ret (results_none rfl _ _ _) rfl ?_)
  all_goals exact ⟨rfl, B2.out, H2.out⟩
set_option maxRecDepth 100000 in
set_option maxHeartbeats 4000000 in
theorem step_move (w : World) (L S : Nat) (l : Led) (nd na : Nat) (b c n : Int) (t : ByteArray) (h : LedIs w L S l) (hnd : nd < l.slots.length) (hna : na < l.slots.length) :
    Calls Tryz.prog 114 #[.pointer (some ⟨L, 0, none⟩), .agg #[.int .i64 1, .int .i64 (nd : Int), .int .i64 (na : Int), .int .i64 b, .int .i64 c, .int .i64 n, .string t]] w fun e w' => e = .returned (.tuple #[]) ∧ But2 L S w w' ∧ LedIs w' L S (l.put (nd : Int) l.slots[na]) := by
  have H1 := h.put nd l.slots[na] hnd
  have H2 : Hid (LedIs _ L S (l.put (nd : Int) l.slots[na])) := H1.stays ((Below.refl _ _).alloc (Nat.le_refl _) (.cells #[.int .i64 1, .int .i64 (nd : Int), .int .i64 (na : Int), .int .i64 b, .int .i64 c, .int .i64 n, .string t] 56)).drew
  have B2 : Hid (But2 L S w _) := ((But2.refl L S w).set2 nd (symV l.slots[na])).trans (But2.ofB ((Below.refl _ _).alloc (Nat.le_refl _) (.cells #[.int .i64 1, .int .i64 (nd : Int), .int .i64 (na : Int), .int .i64 b, .int .i64 c, .int .i64 n, .string t] 56)).drew)
  have ca := h.2.2.at na hna
  obtain ⟨Ts, vs, es⟩ := symV_iface l.slots[na]
  rw [es] at ca B2
  replace H2 : Hid (LedIs ((w.setCell ⟨S, nd, none⟩ (.iface Ts vs)).alloc (.cells #[.int .i64 1, .int .i64 (nd : Int), .int .i64 (na : Int), .int .i64 b, .int .i64 c, .int .i64 n, .string t] 56)).drew L S _) := es ▸ H2.out
  clear es
  obtain ⟨hL, hS⟩ := h.lt
  have c0 := h.head.1
  have cd := h.2.2.at nd hnd
  have fd := h.2.2.free nd
  clear h H1
  go_enter Tryz.func114, Tryz.ntmps114
  go_wp2
  go_region
  all_goals go_wp2
  all_goals (first | go_end0 | refine bodyPost_ret (results_none rfl _ _ _) rfl ?_)
  all_goals exact ⟨rfl, B2.out, H2.out⟩
set_option maxRecDepth 100000 in
set_option maxHeartbeats 4000000 in
theorem step_none (w : World) (L S : Nat) (l : Led) (op d a b c n : Int) (t : ByteArray) (h : LedIs w L S l) (hop : op = 4 ∨ op = 6) :
    Calls Tryz.prog 114 #[.pointer (some ⟨L, 0, none⟩), .agg #[.int .i64 op, .int .i64 d, .int .i64 a, .int .i64 b, .int .i64 c, .int .i64 n, .string t]] w fun e w' => e = .returned (.tuple #[]) ∧ But2 L S w w' ∧ LedIs w' L S l := by
  have al := (Below.refl w.heap.size w).alloc (Nat.le_refl _) (.cells #[.int .i64 op, .int .i64 d, .int .i64 a, .int .i64 b, .int .i64 c, .int .i64 n, .string t] 56)
  have H2 := hideP (h.stays al)
  have B2 : Hid (But2 L S w _) := But2.ofB al
  clear h al
  rcases hop with rfl | rfl
  · go_enter Tryz.func114, Tryz.ntmps114
    go_wp2
    first | go_end0 | refine bodyPost_ret (results_none rfl _ _ _) rfl ?_
    exact ⟨rfl, B2.out, H2.out⟩
  · go_enter Tryz.func114, Tryz.ntmps114
    go_wp2
    first | go_end0 | refine bodyPost_ret (results_none rfl _ _ _) rfl ?_
    exact ⟨rfl, B2.out, H2.out⟩
set_option maxRecDepth 100000 in
set_option maxHeartbeats 4000000 in
theorem step_bin (w : World) (L S : Nat) (l : Led) (nd na nb : Nat) (c n : Int) (t : ByteArray) (h : LedIs w L S l) (hn : l.slots.length + l.fresh ≤ 1000000) (hnd : nd < l.slots.length) (hna : na < l.slots.length) (hnb : nb < l.slots.length) :
    Calls Tryz.prog 114 #[.pointer (some ⟨L, 0, none⟩), .agg #[.int .i64 2, .int .i64 (nd : Int), .int .i64 (na : Int), .int .i64 (nb : Int), .int .i64 c, .int .i64 n, .string t]] w fun e w' => e = .returned (.tuple #[]) ∧ But2 L S w w' ∧ LedIs w' L S (l.putO (nd : Int) (symBin t.toList l.slots[na] l.slots[nb])) := by
  have al := (Below.refl w.heap.size w).alloc (Nat.le_refl _) (.cells #[.int .i64 2, .int .i64 (nd : Int), .int .i64 (na : Int), .int .i64 (nb : Int), .int .i64 c, .int .i64 n, .string t] 56)
  have HA := hideP (h.stays al)
  have AL := hideP al
  have PQ : Hid (∀ W' v, But L (w.alloc (.cells #[.int .i64 2, .int .i64 (nd : Int), .int .i64 (na : Int), .int .i64 (nb : Int), .int .i64 c, .int .i64 n, .string t] 56)) W' → v = symV (l.made (symBin t.toList l.slots[na] l.slots[nb])) → W'.heap[L]? = some (.cells (ledHead S l.slots.length (l.next (symBin t.toList l.slots[na] l.slots[nb]))) 173 (0, 0)) → But2 L S w (W'.setCell ⟨S, nd, none⟩ v) ∧ LedIs (W'.setCell ⟨S, nd, none⟩ v) L S (l.putO (nd : Int) (symBin t.toList l.slots[na] l.slots[nb]))) := fun W' v hb hv hl => by
    subst hv
    exact ⟨((But2.ofB AL.out).trans (But2.of1 hb)).set2 nd _, HA.out.putO hb (symBin t.toList l.slots[na] l.slots[nb]) hl nd hnd⟩
  have q0 := (cells_of (heap_alloc_new w (.cells #[.int .i64 2, .int .i64 (nd : Int), .int .i64 (na : Int), .int .i64 (nb : Int), .int .i64 c, .int .i64 n, .string t] 56))).1
  have SK : Hid (∀ W' f, But L (w.alloc (.cells #[.int .i64 2, .int .i64 (nd : Int), .int .i64 (na : Int), .int .i64 (nb : Int), .int .i64 c, .int .i64 n, .string t] 56)) W' → W'.heap[L]? = some (.cells (ledHead S l.slots.length f) 173 (0, 0)) → W'.cell? ⟨w.heap.size, 0, none⟩ = some (.int .i64 2) ∧ W'.cell? ⟨w.heap.size, 1, none⟩ = some (.int .i64 (nd : Int)) ∧ W'.cell? ⟨w.heap.size, 2, none⟩ = some (.int .i64 (na : Int)) ∧ W'.cell? ⟨w.heap.size, 3, none⟩ = some (.int .i64 (nb : Int)) ∧ W'.cell? ⟨w.heap.size, 4, none⟩ = some (.int .i64 c) ∧ W'.cell? ⟨w.heap.size, 5, none⟩ = some (.int .i64 n) ∧ W'.cell? ⟨w.heap.size, 6, none⟩ = some (.string t) ∧ W'.cell? ⟨L, 0, none⟩ = some (.slice (some ⟨S, 0, none⟩) l.slots.length l.slots.length)) := fun W' f hb hl => by
    have hne : w.heap.size ≠ L := by have := h.lt.1; omega
    have hs : w.heap.size < (w.alloc (.cells #[.int .i64 2, .int .i64 (nd : Int), .int .i64 (na : Int), .int .i64 (nb : Int), .int .i64 c, .int .i64 n, .string t] 56)).heap.size := by simp
    exact ⟨(hb.cell hs hne).trans (q0 0), (hb.cell hs hne).trans (q0 1), (hb.cell hs hne).trans (q0 2), (hb.cell hs hne).trans (q0 3), (hb.cell hs hne).trans (q0 4), (hb.cell hs hne).trans (q0 5), (hb.cell hs hne).trans (q0 6), (cells_of hl).1 0⟩
  have SK2 : Hid (∀ W' f v, But L (w.alloc (.cells #[.int .i64 2, .int .i64 (nd : Int), .int .i64 (na : Int), .int .i64 (nb : Int), .int .i64 c, .int .i64 n, .string t] 56)) W' → W'.heap[L]? = some (.cells (ledHead S l.slots.length f) 173 (0, 0)) → (W'.setCell ⟨S, nd, none⟩ v).cell? ⟨w.heap.size, 0, none⟩ = some (.int .i64 2) ∧ (W'.setCell ⟨S, nd, none⟩ v).cell? ⟨w.heap.size, 1, none⟩ = some (.int .i64 (nd : Int)) ∧ (W'.setCell ⟨S, nd, none⟩ v).cell? ⟨w.heap.size, 2, none⟩ = some (.int .i64 (na : Int)) ∧ (W'.setCell ⟨S, nd, none⟩ v).cell? ⟨w.heap.size, 3, none⟩ = some (.int .i64 (nb : Int)) ∧ (W'.setCell ⟨S, nd, none⟩ v).cell? ⟨w.heap.size, 4, none⟩ = some (.int .i64 c) ∧ (W'.setCell ⟨S, nd, none⟩ v).cell? ⟨w.heap.size, 5, none⟩ = some (.int .i64 n) ∧ (W'.setCell ⟨S, nd, none⟩ v).cell? ⟨w.heap.size, 6, none⟩ = some (.string t) ∧ (W'.setCell ⟨S, nd, none⟩ v).cell? ⟨L, 0, none⟩ = some (.slice (some ⟨S, 0, none⟩) l.slots.length l.slots.length)) := fun W' f v hb hl => by
    have h1 : w.heap.size ≠ S := by have := h.lt.2; omega
    have h2 : L ≠ S := h.1
    have := SK.out W' f hb hl
    rw [cell_other h1, cell_other h1, cell_other h1, cell_other h1, cell_other h1, cell_other h1, cell_other h1, cell_other h2]
    exact this
  obtain ⟨Ts, vs, es⟩ := symV_iface (l.made (symBin t.toList l.slots[na] l.slots[nb]))
  rw [es] at PQ
  have RC : Hid (∀ W', But L (w.alloc (.cells #[.int .i64 2, .int .i64 (nd : Int), .int .i64 (na : Int), .int .i64 (nb : Int), .int .i64 c, .int .i64 n, .string t] 56)) W' → W'.heap[L]? = some (.cells (ledHead S l.slots.length l.fresh) 173 (0, 0)) → Calls Tryz.prog 146 #[.pointer (some ⟨L, 0, none⟩), .agg #[.int .i64 2, .int .i64 (nd : Int), .int .i64 (na : Int), .int .i64 (nb : Int), .int .i64 c, .int .i64 n, .string t]] W' fun e w' => e = .returned (.iface Ts vs) ∧ But L W' w' ∧ w'.heap[L]? = some (.cells (ledHead S l.slots.length (l.next (symBin t.toList l.slots[na] l.slots[nb]))) 173 (0, 0))) := fun W' hb hl => by
    have h1 : LedIs W' L S l := ⟨h.1, hl, HA.out.2.2.blk (hb.block S HA.out.lt.2 (fun e => h.1 e.symm))⟩
    rw [← es]
    exact reckoned_any W' L S l 2 (nd : Int) c n na nb t h1 hn hna hnb
  clear es
  have HD := hideP HA.out.2.1
  have SD : Hid (∀ W', But L (w.alloc (.cells #[.int .i64 2, .int .i64 (nd : Int), .int .i64 (na : Int), .int .i64 (nb : Int), .int .i64 c, .int .i64 n, .string t] 56)) W' → ∃ v, W'.cell? ⟨S, nd, none⟩ = some v ∧ W'.frozen? ⟨S, nd, none⟩ = false) := fun W' hb => by
    have := HA.out.2.2.blk (hb.block S HA.out.lt.2 (fun e => h.1 e.symm))
    exact ⟨_, this.at nd hnd, this.free nd⟩
  obtain ⟨hL, hS⟩ := h.lt
  clear h al q0
  go_enter Tryz.func114, Tryz.ntmps114
  go_upto_region 7 with fail
  obtain ⟨W0, hW0⟩ : ∃ W0, w.alloc (.cells #[.int .i64 2, .int .i64 (nd : Int), .int .i64 (na : Int), .int .i64 (nb : Int), .int .i64 c, .int .i64 n, .string t] 56) = W0 := ⟨_, rfl⟩
  rw [hW0] at HA PQ SK SK2 HD SD AL RC ⊢
  clear hW0
  go_region_held3 (fun W' => W'.cell? ⟨w.heap.size, 0, none⟩ = some (.int .i64 2) ∧ W'.cell? ⟨w.heap.size, 1, none⟩ = some (.int .i64 (nd : Int)) ∧ W'.cell? ⟨w.heap.size, 2, none⟩ = some (.int .i64 (na : Int)) ∧ W'.cell? ⟨w.heap.size, 3, none⟩ = some (.int .i64 (nb : Int)) ∧ W'.cell? ⟨w.heap.size, 4, none⟩ = some (.int .i64 c) ∧ W'.cell? ⟨w.heap.size, 5, none⟩ = some (.int .i64 n) ∧ W'.cell? ⟨w.heap.size, 6, none⟩ = some (.string t) ∧ W'.cell? ⟨L, 0, none⟩ = some (.slice (some ⟨S, 0, none⟩) l.slots.length l.slots.length)) (first | exact SK.out _ _ (but_drew _) HD.out | exact SK.out _ _ BU.out HL1.out | exact SK2.out _ _ _ BU.out HL1.out) (first
    | (go_at_call 146; refine (RC.out _ (but_drew _) HD.out).mono ?_; rintro e1 w1 ⟨rfl, but1, hl1⟩; have BU := hideP ((but_drew _).after but1); have HL1 := hideP hl1; obtain ⟨vd, hvd, hfd⟩ := SD.out _ BU.out; clear but1 hl1))
  all_goals go_wp2
  all_goals (first | go_end0 | refine bodyPost_ret (results_none rfl _ _ _) rfl ?_)
  all_goals exact ⟨rfl, PQ.out _ _ BU.out rfl HL1.out⟩
set_option maxRecDepth 100000 in
set_option maxHeartbeats 4000000 in
theorem step_load (w : World) (L S : Nat) (l : Led) (nd : Nat) (a b c n : Int) (t : ByteArray) (h : LedIs w L S l) (hn : l.slots.length + l.fresh ≤ 1000000) (hnd : nd < l.slots.length) :
    Calls Tryz.prog 114 #[.pointer (some ⟨L, 0, none⟩), .agg #[.int .i64 3, .int .i64 (nd : Int), .int .i64 a, .int .i64 b, .int .i64 c, .int .i64 n, .string t]] w fun e w' => e = .returned (.tuple #[]) ∧ But2 L S w w' ∧ LedIs w' L S (l.putO (nd : Int) none) := by
  have al := (Below.refl w.heap.size w).alloc (Nat.le_refl _) (.cells #[.int .i64 3, .int .i64 (nd : Int), .int .i64 a, .int .i64 b, .int .i64 c, .int .i64 n, .string t] 56)
  have HA := hideP (h.stays al)
  have AL := hideP al
  have PQ : Hid (∀ W' v, But L (w.alloc (.cells #[.int .i64 3, .int .i64 (nd : Int), .int .i64 a, .int .i64 b, .int .i64 c, .int .i64 n, .string t] 56)) W' → v = symV (l.made none) → W'.heap[L]? = some (.cells (ledHead S l.slots.length (l.next none)) 173 (0, 0)) → But2 L S w (W'.setCell ⟨S, nd, none⟩ v) ∧ LedIs (W'.setCell ⟨S, nd, none⟩ v) L S (l.putO (nd : Int) none)) := fun W' v hb hv hl => by
    subst hv
    exact ⟨((But2.ofB AL.out).trans (But2.of1 hb)).set2 nd _, HA.out.putO hb none hl nd hnd⟩
  have q0 := (cells_of (heap_alloc_new w (.cells #[.int .i64 3, .int .i64 (nd : Int), .int .i64 a, .int .i64 b, .int .i64 c, .int .i64 n, .string t] 56))).1
  have SK : Hid (∀ W' f, But L (w.alloc (.cells #[.int .i64 3, .int .i64 (nd : Int), .int .i64 a, .int .i64 b, .int .i64 c, .int .i64 n, .string t] 56)) W' → W'.heap[L]? = some (.cells (ledHead S l.slots.length f) 173 (0, 0)) → W'.cell? ⟨w.heap.size, 0, none⟩ = some (.int .i64 3) ∧ W'.cell? ⟨w.heap.size, 1, none⟩ = some (.int .i64 (nd : Int)) ∧ W'.cell? ⟨w.heap.size, 2, none⟩ = some (.int .i64 a) ∧ W'.cell? ⟨w.heap.size, 3, none⟩ = some (.int .i64 b) ∧ W'.cell? ⟨w.heap.size, 4, none⟩ = some (.int .i64 c) ∧ W'.cell? ⟨w.heap.size, 5, none⟩ = some (.int .i64 n) ∧ W'.cell? ⟨w.heap.size, 6, none⟩ = some (.string t) ∧ W'.cell? ⟨L, 0, none⟩ = some (.slice (some ⟨S, 0, none⟩) l.slots.length l.slots.length)) := fun W' f hb hl => by
    have hne : w.heap.size ≠ L := by have := h.lt.1; omega
    have hs : w.heap.size < (w.alloc (.cells #[.int .i64 3, .int .i64 (nd : Int), .int .i64 a, .int .i64 b, .int .i64 c, .int .i64 n, .string t] 56)).heap.size := by simp
    exact ⟨(hb.cell hs hne).trans (q0 0), (hb.cell hs hne).trans (q0 1), (hb.cell hs hne).trans (q0 2), (hb.cell hs hne).trans (q0 3), (hb.cell hs hne).trans (q0 4), (hb.cell hs hne).trans (q0 5), (hb.cell hs hne).trans (q0 6), (cells_of hl).1 0⟩
  have SK2 : Hid (∀ W' f v, But L (w.alloc (.cells #[.int .i64 3, .int .i64 (nd : Int), .int .i64 a, .int .i64 b, .int .i64 c, .int .i64 n, .string t] 56)) W' → W'.heap[L]? = some (.cells (ledHead S l.slots.length f) 173 (0, 0)) → (W'.setCell ⟨S, nd, none⟩ v).cell? ⟨w.heap.size, 0, none⟩ = some (.int .i64 3) ∧ (W'.setCell ⟨S, nd, none⟩ v).cell? ⟨w.heap.size, 1, none⟩ = some (.int .i64 (nd : Int)) ∧ (W'.setCell ⟨S, nd, none⟩ v).cell? ⟨w.heap.size, 2, none⟩ = some (.int .i64 a) ∧ (W'.setCell ⟨S, nd, none⟩ v).cell? ⟨w.heap.size, 3, none⟩ = some (.int .i64 b) ∧ (W'.setCell ⟨S, nd, none⟩ v).cell? ⟨w.heap.size, 4, none⟩ = some (.int .i64 c) ∧ (W'.setCell ⟨S, nd, none⟩ v).cell? ⟨w.heap.size, 5, none⟩ = some (.int .i64 n) ∧ (W'.setCell ⟨S, nd, none⟩ v).cell? ⟨w.heap.size, 6, none⟩ = some (.string t) ∧ (W'.setCell ⟨S, nd, none⟩ v).cell? ⟨L, 0, none⟩ = some (.slice (some ⟨S, 0, none⟩) l.slots.length l.slots.length)) := fun W' f v hb hl => by
    have h1 : w.heap.size ≠ S := by have := h.lt.2; omega
    have h2 : L ≠ S := h.1
    have := SK.out W' f hb hl
    rw [cell_other h1, cell_other h1, cell_other h1, cell_other h1, cell_other h1, cell_other h1, cell_other h1, cell_other h2]
    exact this
  obtain ⟨Ts, vs, es⟩ := symV_iface (l.made none)
  rw [es] at PQ
  have RC : Hid (∀ W', But L (w.alloc (.cells #[.int .i64 3, .int .i64 (nd : Int), .int .i64 a, .int .i64 b, .int .i64 c, .int .i64 n, .string t] 56)) W' → W'.heap[L]? = some (.cells (ledHead S l.slots.length l.fresh) 173 (0, 0)) → Calls Tryz.prog 147 #[.pointer (some ⟨L, 0, none⟩)] W' fun e w' => e = .returned (.iface Ts vs) ∧ But L W' w' ∧ w'.heap[L]? = some (.cells (ledHead S l.slots.length (l.next none)) 173 (0, 0))) := fun W' hb hl => by
    have h1 : LedIs W' L S l := ⟨h.1, hl, HA.out.2.2.blk (hb.block S HA.out.lt.2 (fun e => h.1 e.symm))⟩
    rw [← es]
    exact newBase_any W' L S l h1 hn
  clear es
  have HD := hideP HA.out.2.1
  have SD : Hid (∀ W', But L (w.alloc (.cells #[.int .i64 3, .int .i64 (nd : Int), .int .i64 a, .int .i64 b, .int .i64 c, .int .i64 n, .string t] 56)) W' → ∃ v, W'.cell? ⟨S, nd, none⟩ = some v ∧ W'.frozen? ⟨S, nd, none⟩ = false) := fun W' hb => by
    have := HA.out.2.2.blk (hb.block S HA.out.lt.2 (fun e => h.1 e.symm))
    exact ⟨_, this.at nd hnd, this.free nd⟩
  obtain ⟨hL, hS⟩ := h.lt
  clear h al q0
  go_enter Tryz.func114, Tryz.ntmps114
  go_upto_region 10 with fail
  obtain ⟨W0, hW0⟩ : ∃ W0, w.alloc (.cells #[.int .i64 3, .int .i64 (nd : Int), .int .i64 a, .int .i64 b, .int .i64 c, .int .i64 n, .string t] 56) = W0 := ⟨_, rfl⟩
  rw [hW0] at HA PQ SK SK2 HD SD AL RC ⊢
  clear hW0
  go_region_held3 (fun W' => W'.cell? ⟨w.heap.size, 0, none⟩ = some (.int .i64 3) ∧ W'.cell? ⟨w.heap.size, 1, none⟩ = some (.int .i64 (nd : Int)) ∧ W'.cell? ⟨w.heap.size, 2, none⟩ = some (.int .i64 a) ∧ W'.cell? ⟨w.heap.size, 3, none⟩ = some (.int .i64 b) ∧ W'.cell? ⟨w.heap.size, 4, none⟩ = some (.int .i64 c) ∧ W'.cell? ⟨w.heap.size, 5, none⟩ = some (.int .i64 n) ∧ W'.cell? ⟨w.heap.size, 6, none⟩ = some (.string t) ∧ W'.cell? ⟨L, 0, none⟩ = some (.slice (some ⟨S, 0, none⟩) l.slots.length l.slots.length)) (first | exact SK.out _ _ (but_drew _) HD.out | exact SK.out _ _ BU.out HL1.out | exact SK2.out _ _ _ BU.out HL1.out) (first
    | (go_at_call 147; refine (RC.out _ (but_drew _) HD.out).mono ?_; rintro e1 w1 ⟨rfl, but1, hl1⟩; have BU := hideP ((but_drew _).after but1); have HL1 := hideP hl1; obtain ⟨vd, hvd, hfd⟩ := SD.out _ BU.out; clear but1 hl1))
  all_goals go_wp2
  all_goals (first | go_end0 | refine bodyPost_ret (results_none rfl _ _ _) rfl ?_)
  all_goals exact ⟨rfl, PQ.out _ _ BU.out rfl HL1.out⟩
set_option maxRecDepth 100000 in
set_option maxHeartbeats 4000000 in
theorem step_get (w : World) (L S : Nat) (l : Led) (nd : Nat) (a b c n : Int) (t : ByteArray) (h : LedIs w L S l) (hn : l.slots.length + l.fresh ≤ 1000000) (hnd : nd < l.slots.length) :
    Calls Tryz.prog 114 #[.pointer (some ⟨L, 0, none⟩), .agg #[.int .i64 5, .int .i64 (nd : Int), .int .i64 a, .int .i64 b, .int .i64 c, .int .i64 n, .string t]] w fun e w' => e = .returned (.tuple #[]) ∧ But2 L S w w' ∧ LedIs w' L S (l.putO (nd : Int) none) := by
  have al := (Below.refl w.heap.size w).alloc (Nat.le_refl _) (.cells #[.int .i64 5, .int .i64 (nd : Int), .int .i64 a, .int .i64 b, .int .i64 c, .int .i64 n, .string t] 56)
  have HA := hideP (h.stays al)
  have AL := hideP al
  have PQ : Hid (∀ W' v, But L (w.alloc (.cells #[.int .i64 5, .int .i64 (nd : Int), .int .i64 a, .int .i64 b, .int .i64 c, .int .i64 n, .string t] 56)) W' → v = symV (l.made none) → W'.heap[L]? = some (.cells (ledHead S l.slots.length (l.next none)) 173 (0, 0)) → But2 L S w (W'.setCell ⟨S, nd, none⟩ v) ∧ LedIs (W'.setCell ⟨S, nd, none⟩ v) L S (l.putO (nd : Int) none)) := fun W' v hb hv hl => by
    subst hv
    exact ⟨((But2.ofB AL.out).trans (But2.of1 hb)).set2 nd _, HA.out.putO hb none hl nd hnd⟩
  have q0 := (cells_of (heap_alloc_new w (.cells #[.int .i64 5, .int .i64 (nd : Int), .int .i64 a, .int .i64 b, .int .i64 c, .int .i64 n, .string t] 56))).1
  have SK : Hid (∀ W' f, But L (w.alloc (.cells #[.int .i64 5, .int .i64 (nd : Int), .int .i64 a, .int .i64 b, .int .i64 c, .int .i64 n, .string t] 56)) W' → W'.heap[L]? = some (.cells (ledHead S l.slots.length f) 173 (0, 0)) → W'.cell? ⟨w.heap.size, 0, none⟩ = some (.int .i64 5) ∧ W'.cell? ⟨w.heap.size, 1, none⟩ = some (.int .i64 (nd : Int)) ∧ W'.cell? ⟨w.heap.size, 2, none⟩ = some (.int .i64 a) ∧ W'.cell? ⟨w.heap.size, 3, none⟩ = some (.int .i64 b) ∧ W'.cell? ⟨w.heap.size, 4, none⟩ = some (.int .i64 c) ∧ W'.cell? ⟨w.heap.size, 5, none⟩ = some (.int .i64 n) ∧ W'.cell? ⟨w.heap.size, 6, none⟩ = some (.string t) ∧ W'.cell? ⟨L, 0, none⟩ = some (.slice (some ⟨S, 0, none⟩) l.slots.length l.slots.length)) := fun W' f hb hl => by
    have hne : w.heap.size ≠ L := by have := h.lt.1; omega
    have hs : w.heap.size < (w.alloc (.cells #[.int .i64 5, .int .i64 (nd : Int), .int .i64 a, .int .i64 b, .int .i64 c, .int .i64 n, .string t] 56)).heap.size := by simp
    exact ⟨(hb.cell hs hne).trans (q0 0), (hb.cell hs hne).trans (q0 1), (hb.cell hs hne).trans (q0 2), (hb.cell hs hne).trans (q0 3), (hb.cell hs hne).trans (q0 4), (hb.cell hs hne).trans (q0 5), (hb.cell hs hne).trans (q0 6), (cells_of hl).1 0⟩
  have SK2 : Hid (∀ W' f v, But L (w.alloc (.cells #[.int .i64 5, .int .i64 (nd : Int), .int .i64 a, .int .i64 b, .int .i64 c, .int .i64 n, .string t] 56)) W' → W'.heap[L]? = some (.cells (ledHead S l.slots.length f) 173 (0, 0)) → (W'.setCell ⟨S, nd, none⟩ v).cell? ⟨w.heap.size, 0, none⟩ = some (.int .i64 5) ∧ (W'.setCell ⟨S, nd, none⟩ v).cell? ⟨w.heap.size, 1, none⟩ = some (.int .i64 (nd : Int)) ∧ (W'.setCell ⟨S, nd, none⟩ v).cell? ⟨w.heap.size, 2, none⟩ = some (.int .i64 a) ∧ (W'.setCell ⟨S, nd, none⟩ v).cell? ⟨w.heap.size, 3, none⟩ = some (.int .i64 b) ∧ (W'.setCell ⟨S, nd, none⟩ v).cell? ⟨w.heap.size, 4, none⟩ = some (.int .i64 c) ∧ (W'.setCell ⟨S, nd, none⟩ v).cell? ⟨w.heap.size, 5, none⟩ = some (.int .i64 n) ∧ (W'.setCell ⟨S, nd, none⟩ v).cell? ⟨w.heap.size, 6, none⟩ = some (.string t) ∧ (W'.setCell ⟨S, nd, none⟩ v).cell? ⟨L, 0, none⟩ = some (.slice (some ⟨S, 0, none⟩) l.slots.length l.slots.length)) := fun W' f v hb hl => by
    have h1 : w.heap.size ≠ S := by have := h.lt.2; omega
    have h2 : L ≠ S := h.1
    have := SK.out W' f hb hl
    rw [cell_other h1, cell_other h1, cell_other h1, cell_other h1, cell_other h1, cell_other h1, cell_other h1, cell_other h2]
    exact this
  obtain ⟨Ts, vs, es⟩ := symV_iface (l.made none)
  rw [es] at PQ
  have RC : Hid (∀ W', But L (w.alloc (.cells #[.int .i64 5, .int .i64 (nd : Int), .int .i64 a, .int .i64 b, .int .i64 c, .int .i64 n, .string t] 56)) W' → W'.heap[L]? = some (.cells (ledHead S l.slots.length l.fresh) 173 (0, 0)) → Calls Tryz.prog 147 #[.pointer (some ⟨L, 0, none⟩)] W' fun e w' => e = .returned (.iface Ts vs) ∧ But L W' w' ∧ w'.heap[L]? = some (.cells (ledHead S l.slots.length (l.next none)) 173 (0, 0))) := fun W' hb hl => by
    have h1 : LedIs W' L S l := ⟨h.1, hl, HA.out.2.2.blk (hb.block S HA.out.lt.2 (fun e => h.1 e.symm))⟩
    rw [← es]
    exact newBase_any W' L S l h1 hn
  clear es
  have HD := hideP HA.out.2.1
  have SD : Hid (∀ W', But L (w.alloc (.cells #[.int .i64 5, .int .i64 (nd : Int), .int .i64 a, .int .i64 b, .int .i64 c, .int .i64 n, .string t] 56)) W' → ∃ v, W'.cell? ⟨S, nd, none⟩ = some v ∧ W'.frozen? ⟨S, nd, none⟩ = false) := fun W' hb => by
    have := HA.out.2.2.blk (hb.block S HA.out.lt.2 (fun e => h.1 e.symm))
    exact ⟨_, this.at nd hnd, this.free nd⟩
  obtain ⟨hL, hS⟩ := h.lt
  clear h al q0
  go_enter Tryz.func114, Tryz.ntmps114
  go_upto_region 10 with fail
  obtain ⟨W0, hW0⟩ : ∃ W0, w.alloc (.cells #[.int .i64 5, .int .i64 (nd : Int), .int .i64 a, .int .i64 b, .int .i64 c, .int .i64 n, .string t] 56) = W0 := ⟨_, rfl⟩
  rw [hW0] at HA PQ SK SK2 HD SD AL RC ⊢
  clear hW0
  go_region_held3 (fun W' => W'.cell? ⟨w.heap.size, 0, none⟩ = some (.int .i64 5) ∧ W'.cell? ⟨w.heap.size, 1, none⟩ = some (.int .i64 (nd : Int)) ∧ W'.cell? ⟨w.heap.size, 2, none⟩ = some (.int .i64 a) ∧ W'.cell? ⟨w.heap.size, 3, none⟩ = some (.int .i64 b) ∧ W'.cell? ⟨w.heap.size, 4, none⟩ = some (.int .i64 c) ∧ W'.cell? ⟨w.heap.size, 5, none⟩ = some (.int .i64 n) ∧ W'.cell? ⟨w.heap.size, 6, none⟩ = some (.string t) ∧ W'.cell? ⟨L, 0, none⟩ = some (.slice (some ⟨S, 0, none⟩) l.slots.length l.slots.length)) (first | exact SK.out _ _ (but_drew _) HD.out | exact SK.out _ _ BU.out HL1.out | exact SK2.out _ _ _ BU.out HL1.out) (first
    | (go_at_call 147; refine (RC.out _ (but_drew _) HD.out).mono ?_; rintro e1 w1 ⟨rfl, but1, hl1⟩; have BU := hideP ((but_drew _).after but1); have HL1 := hideP hl1; obtain ⟨vd, hvd, hfd⟩ := SD.out _ BU.out; clear but1 hl1))
  all_goals go_wp2
  all_goals (first | go_end0 | refine bodyPost_ret (results_none rfl _ _ _) rfl ?_)
  all_goals exact ⟨rfl, PQ.out _ _ BU.out rfl HL1.out⟩
end Go.Proofs.YtelkpikbjfkpcaaGreat

/- The contracts of impl.placesOf and impl.hasBlock; step for any step that is right. -/
namespace Go.Proofs.YtelkpikbjfkpcaaGreat
open Go.ChangeShapes Go.WideShapes Go.ChangeAt Go.RowKit
theorem step_any (w : World) (L S : Nat) (l : Led) (x : Ins) (R : Int) (h : LedIs w L S l) (hn : l.slots.length + l.fresh ≤ 1000000) (hx : insOk R (l.slots.length : Nat) x = true) :
    Calls Tryz.prog 114 #[.pointer (some ⟨L, 0, none⟩), .agg (insV x)] w fun e w' => e = .returned (.tuple #[]) ∧ But2 L S w w' ∧ LedIs w' L S (stepP l x) := by
  have hs := insOk_slots hx
  obtain ⟨op, d, a, b, c, n, t⟩ := x
  simp only at hs
  rcases hs with ⟨rfl, hd⟩ | ⟨rfl, hd, ha⟩ | ⟨rfl, hd, ha, hb⟩ | ⟨rfl, hd, _⟩ | ⟨rfl, _⟩ | ⟨rfl, hd⟩ | rfl
  · obtain ⟨nd, rfl, hnd⟩ := vOk_nat hd
    exact step_const w L S l nd a b c n t h hnd
  · obtain ⟨nd, rfl, hnd⟩ := vOk_nat hd
    obtain ⟨na, rfl, hna⟩ := vOk_nat ha
    have := step_move w L S l nd na b c n t h hnd hna
    simpa [stepP, insV, Led.get_at hna] using this
  · obtain ⟨nd, rfl, hnd⟩ := vOk_nat hd
    obtain ⟨na, rfl, hna⟩ := vOk_nat ha
    obtain ⟨nb, rfl, hnb⟩ := vOk_nat hb
    have := step_bin w L S l nd na nb c n t h hn hnd hna hnb
    simpa [stepP, insV, Led.get_at hna, Led.get_at hnb] using this
  · obtain ⟨nd, rfl, hnd⟩ := vOk_nat hd
    have := step_load w L S l nd a b c n t h hn hnd
    simpa [stepP, insV, Led.putO] using this
  · have := step_none w L S l 4 d a b c n t h (Or.inl rfl)
    simpa [stepP, insV] using this
  · obtain ⟨nd, rfl, hnd⟩ := vOk_nat hd
    have := step_get w L S l nd a b c n t h hn hnd
    simpa [stepP, insV, Led.putO] using this
  · have := step_none w L S l 6 d a b c n t h (Or.inr rfl)
    simpa [stepP, insV] using this
theorem But2.on {a b : Nat} {w w1 w2 : World} (h : But2 a b w w1) (k : Below w1.heap.size w1 w2) : But2 a b w w2 := h.trans (But2.ofB k)
/-- All steps are right, of so many regions and slots. -/
def CodeOk (R : Int) (V : Nat) (code : List Ins) : Prop := code.length ≤ 1000 ∧ V ≤ 1000 ∧ ∀ x ∈ code, insOk R (V : Nat) x = true ∧ I64 x.n
/-- Between two rounds of placesOf. -/
structure PInv (w : World) (V : Nat) (code : List Ins) (L S : Nat) (wr : World) (o : Value) (j : Nat) : Prop where
  own : OwnE PlE wr w.heap.size o (placesUp V code j)
  led : LedIs wr L S (ledP V (code.take j))
  bel : Below w.heap.size w wr
  hL : w.heap.size ≤ L
  hS : w.heap.size ≤ S
  ne1 : o.ownBlock ≠ some L
  ne2 : o.ownBlock ≠ some S
set_option maxRecDepth 100000 in
set_option maxHeartbeats 4000000 in
theorem placesOf_any (code : List Ins) (V : Nat) (R : Int) (w : World) (B : Nat) (u : Option Addr) (cap : Nat) (hc : SlIs InsIs 7 w B u code) (ok : CodeOk R V code) :
    Calls Tryz.prog 62 #[.int .i64 (V : Int), .slice u code.length cap] w fun en w' => ∃ v', en = .returned v' ∧ OwnE PlE w' w.heap.size v' (placesUp V code code.length) ∧ Below w.heap.size w w' := by
  have hm := maxLen_lt
  have hl := hc.1
  obtain ⟨hlen, hV, hall⟩ := ok
  have HC := hideP hc
  have HALL := hideP hall
  clear hc hall
  have O0 := hideP (own_nil PlOk w w.heap.size rfl)
  have al := hideP ((Below.refl w.heap.size w).alloc (Nat.le_refl _) (.cells #[] 92))
  go_enter Tryz.func62, Tryz.ntmps62
  go_wp2_with fail
  refine (newLedger_any V _ hV).mono ?_
  rintro e1 w1 ⟨L, S, rfl, led, hL, hS, bel1⟩
  have IV : Hid (PInv w V code L S w1 (.slice (some ⟨w.heap.size, 0, none⟩) 0 0) 0) := by
    simp at hL hS
    exact ⟨O0.out.stays bel1, by simpa [ledP] using led, below_trans al.out bel1, by omega, by omega, by simp [Value.ownBlock]; omega, by simp [Value.ownBlock]; omega⟩
  clear O0 al led hL hS bel1
  go_wp2
  go_loopg [5, 14] code.length (fun gk o i wr => ∃ j : Nat, gk + j = code.length ∧ i = .int .i64 j ∧ Hid (PInv w V code L S wr o j))
  case atStart => exact ⟨0, rfl, rfl, IV.out⟩
  case round =>
    obtain ⟨j, hj, rfl, hv⟩ := hrel
    clear IV
    by_cases hlt : j < code.length
    · obtain ⟨b, o, op, d, a, bb, c, n, t, rfl, _, hb, hx, q0, q1, q2, q3, q4, q5, q6, _⟩ := Ins_get (HC.out.stays InsKeeps hv.out.bel) j hlt
      obtain ⟨gO, cO, rfl, _⟩ := id hv.out.own
      have HX : Hid (code[j] = ⟨op, d, a, bb, c, n, t⟩) := hx
      have hok := HALL.out _ (List.getElem_mem hlt)
      rw [hx] at hok
      have LK := ledP_ok (fun x hx => HALL.out x hx) j (by omega)
      have al := (Below.refl wr.heap.size wr).alloc (Nat.le_refl _) (.cells #[.int .i64 op, .int .i64 d, .int .i64 a, .int .i64 bb, .int .i64 c, .int .i64 n, .string t] 56)
      have LD := hideP (hv.out.led.stays al)
      have OA := hideP (hv.out.own.stays al)
      have BA := hideP (hv.out.bel.alloc hv.out.bel.size (.cells #[.int .i64 op, .int .i64 d, .int .i64 a, .int .i64 bb, .int .i64 c, .int .i64 n, .string t] 56))
      have Q := hideP (heap_alloc_new wr (.cells #[.int .i64 op, .int .i64 d, .int .i64 a, .int .i64 bb, .int .i64 c, .int .i64 n, .string t] 56))
      obtain ⟨ld, hld⟩ : ∃ ld, ledP V (code.take j) = ld := ⟨_, rfl⟩
      rw [hld] at LD LK
      have HLD := hideP hld
      have hok1 : Hid (insOk R (ld.slots.length : Nat) ⟨op, d, a, bb, c, n, t⟩ = true) := by show _ = _; rw [LK.1.1]; exact hok.1
      have hfr : Hid (ld.slots.length + ld.fresh ≤ 1000000) := by show _ ≤ _; rw [LK.1.1]; have := LK.2; omega
      clear hld LK hok al hx
      go_wp2_with fail
      refine (place_any _ L S ld ⟨op, d, a, bb, c, n, t⟩ R LD.out hok1.out).mono ?_
      rintro e2 w2 ⟨rfl, bel2⟩
      obtain ⟨p, hp⟩ : ∃ p, placeP ld ⟨op, d, a, bb, c, n, t⟩ = p := ⟨_, rfl⟩
      rw [hp]
      have UP : Hid (placesUp V code (j + 1) = placesUp V code j ++ [p]) := by show _ = _; rw [placesUp_at V hlt, HLD.out, HX.out, hp]
      clear hp
      obtain ⟨pr, pi, pj, po⟩ := p
      simp only [plaV]
      replace LD := hideP (LD.out.stays bel2)
      replace OA := hideP (OA.out.stays bel2)
      replace BA := hideP (below_trans BA.out bel2)
      replace Q := hideP (keepB Q.out bel2)
      clear bel2 q0 q1 q2 q3 q4 q5 q6
      have al := (Below.refl w2.heap.size w2).alloc (Nat.le_refl _) (.cells #[.int .i64 pr, .int .i64 pi, .int .i64 pj, .int .i64 po] 92)
      have CQ : Hid (∀ r, r < PlE.sz → (w2.alloc (.cells #[.int .i64 pr, .int .i64 pi, .int .i64 pj, .int .i64 po] 92)).cell? ⟨w2.heap.size, 0 + r, none⟩ = (PlE.cs ⟨pr, pi, pj, po⟩)[r]?) := fun r _ => by
        have := (cells_of (heap_alloc_new w2 (.cells #[.int .i64 pr, .int .i64 pi, .int .i64 pj, .int .i64 po] 92))).1 r
        rw [Nat.zero_add, this]; simp [PlE]
      replace LD := hideP (LD.out.stays al)
      replace OA := hideP (OA.out.stays al)
      replace BA := hideP (below_trans BA.out al)
      replace Q := hideP (keepB Q.out al)
      clear al
      have hpl := placesUp_len V code j (by omega)
      have hne1 := hideP hv.out.ne1
      have hne2 := hideP hv.out.ne2
      have hLS : Hid (w.heap.size ≤ L ∧ w.heap.size ≤ S) := ⟨hv.out.hL, hv.out.hS⟩
      go_upto_region 7 with (at_builtin; refine list_appE PlOk _ rfl _ _ rfl w.heap.size _ (placesUp V code j) ⟨pr, pi, pj, po⟩ w2.heap.size 0 1 rfl rfl OA.out CQ.out (by omega) BA.out.size ?_; intro v6 w6 o6 grow6 loc6)
      replace grow6 : World.grownBy _ w6 ((Value.slice (some ⟨gO, 0, none⟩) (placesUp V code j).length cO).ownBlock) := grow6
      replace loc6 : v6.ownBlock = ((Value.slice (some ⟨gO, 0, none⟩) (placesUp V code j).length cO).ownBlock) ∨ v6.ownBlock = some (w2.alloc (.cells #[.int .i64 pr, .int .i64 pi, .int .i64 pj, .int .i64 po] 92)).heap.size := loc6
      rw [← UP.out] at o6
      have O6 := hideP o6
      have B6 := hideP (BA.out.grown grow6 BA.out.size (fun b' hb' => (OA.out.low b' hb').1))
      have L6 := hideP (LD.out.kept grow6 hne1.out hne2.out)
      have Q6 : Hid (w6.heap[wr.heap.size]? = some (.cells #[.int .i64 op, .int .i64 d, .int .i64 a, .int .i64 bb, .int .i64 c, .int .i64 n, .string t] 56)) := by
        refine (grow6.block wr.heap.size (Array.getElem?_eq_some_iff.1 Q.out).1 (fun e => ?_)).trans Q.out
        have := (hv.out.own.low _ e.symm).2
        omega
      have ne6 : Hid (v6.ownBlock ≠ some L ∧ v6.ownBlock ≠ some S) := by
        rcases loc6 with e | e
        · rw [e]; exact ⟨hne1.out, hne2.out⟩
        · rw [e]
          have := LD.out.lt
          exact ⟨fun h => by injection h with h; omega, fun h => by injection h with h; omega⟩
      clear o6 grow6 loc6 hne1 hne2 LD OA BA Q CQ
      obtain ⟨g6, c6, rfl, _⟩ := id O6.out
      have p := (cells_of Q6.out).1
      have p0 := p 0
      have p1 := p 1
      have p2 := p 2
      have p3 := p 3
      have p4 := p 4
      have p5 := p 5
      have p6 := p 6
      simp at p0 p1 p2 p3 p4 p5 p6
      clear p
      go_wp2_with fail
      refine (step_any _ L S ld ⟨op, d, a, bb, c, n, t⟩ R L6.out hfr.out hok1.out).mono ?_
      rintro e7 w7 ⟨rfl, but7, led7⟩
      have IV : Hid (PInv w V code L S w7 (.slice (some ⟨g6, 0, none⟩) (placesUp V code (j + 1)).length c6) (j + 1)) := by
        refine ⟨O6.out.blk (fun k hk hlt => but7.block k hlt (fun e => ne6.out.1 (by rw [hk, e])) (fun e => ne6.out.2 (by rw [hk, e]))), ?_, B6.out.trans (but7.below hLS.out.1 hLS.out.2 B6.out.size), hLS.out.1, hLS.out.2, ne6.out.1, ne6.out.2⟩
        rw [ledP_take V code j hlt, HLD.out, HX.out]; exact led7
      clear but7 led7 p0 p1 p2 p3 p4 p5 p6 O6 B6 L6 Q6 ne6
      go_wp2
      go_roundg (code.length - (j + 1))
      case rel => exact ⟨j + 1, by omega, by go_num, IV.out⟩
      case measure => omega
    · have hjn : j = code.length := by omega
      subst hjn
      go_wp2
      go_ret
      exact ⟨_, rfl, hv.out.own, hv.out.bel⟩
end Go.Proofs.YtelkpikbjfkpcaaGreat
