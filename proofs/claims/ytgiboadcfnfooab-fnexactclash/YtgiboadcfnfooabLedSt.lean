/- The program's ledger: the contract of step, for each kind of step (written by wip/mkstep.py). -/
import Derived.Test.YtgiboadcfnfooabLedSt0
namespace Go.Proofs.Ytgiboadcfnfooab
open Go.ChangeShapes Go.WideShapes Go.ChangeAt Go.RowKit
theorem symV_iface (s : Sym) : ∃ T v, symV s = .iface T v := by
  unfold symV; split
  · exact ⟨_, _, rfl⟩
  · exact ⟨_, _, rfl⟩
theorem cell_other {w : World} {S i b o : Nat} {v : Value} (h : b ≠ S) : (w.setCell ⟨S, i, none⟩ v).cell? ⟨b, o, none⟩ = w.cell? ⟨b, o, none⟩ := World.cell?_of_block (w := w) (a := ⟨b, o, none⟩) (Below.heap_setCell w ⟨S, i, none⟩ v b h)
set_option maxRecDepth 100000 in
set_option maxHeartbeats 4000000 in
theorem step_const (w : World) (L S : Nat) (l : Led) (nd : Nat) (a b c n : Int) (t : ByteArray) (h : LedIs w L S l) (hnd : nd < l.slots.length) :
    Calls Try.prog 51 #[.pointer (some ⟨L, 0, none⟩), .agg #[.int .i64 0, .int .i64 (nd : Int), .int .i64 a, .int .i64 b, .int .i64 c, .int .i64 n, .string t]] w fun e w' => e = .returned (.tuple #[]) ∧ But2 L S w w' ∧ LedIs w' L S (l.put (nd : Int) ⟨-1, n⟩) := by
  have H1 := h.put nd ⟨-1, n⟩ hnd
  have H2 : Hid (LedIs _ L S (l.put (nd : Int) ⟨-1, n⟩)) := H1.stays ((Below.refl _ _).alloc (Nat.le_refl _) (.cells #[.int .i64 0, .int .i64 (nd : Int), .int .i64 a, .int .i64 b, .int .i64 c, .int .i64 n, .string t] 66)).drew
  have B2 : Hid (But2 L S w _) := ((But2.refl L S w).set2 nd (symV ⟨-1, n⟩)).trans (But2.ofB ((Below.refl _ _).alloc (Nat.le_refl _) (.cells #[.int .i64 0, .int .i64 (nd : Int), .int .i64 a, .int .i64 b, .int .i64 c, .int .i64 n, .string t] 66)).drew)
  rw [symV_fig] at H2 B2
  obtain ⟨hL, hS⟩ := h.lt
  have c0 := h.head.1
  have cd := h.2.2.at nd hnd
  have fd := h.2.2.free nd
  clear h H1
  go_enter Try.func51, Try.ntmps51
  go_wp2
  go_region
  all_goals go_wp2
  all_goals (first | go_end0 | refine bodyPost_ret (results_none rfl _ _ _) rfl ?_)
  all_goals exact ⟨rfl, B2.out, H2.out⟩
set_option maxRecDepth 100000 in
set_option maxHeartbeats 4000000 in
theorem step_move (w : World) (L S : Nat) (l : Led) (nd na : Nat) (b c n : Int) (t : ByteArray) (h : LedIs w L S l) (hnd : nd < l.slots.length) (hna : na < l.slots.length) :
    Calls Try.prog 51 #[.pointer (some ⟨L, 0, none⟩), .agg #[.int .i64 1, .int .i64 (nd : Int), .int .i64 (na : Int), .int .i64 b, .int .i64 c, .int .i64 n, .string t]] w fun e w' => e = .returned (.tuple #[]) ∧ But2 L S w w' ∧ LedIs w' L S (l.put (nd : Int) l.slots[na]) := by
  have H1 := h.put nd l.slots[na] hnd
  have H2 : Hid (LedIs _ L S (l.put (nd : Int) l.slots[na])) := H1.stays ((Below.refl _ _).alloc (Nat.le_refl _) (.cells #[.int .i64 1, .int .i64 (nd : Int), .int .i64 (na : Int), .int .i64 b, .int .i64 c, .int .i64 n, .string t] 66)).drew
  have B2 : Hid (But2 L S w _) := ((But2.refl L S w).set2 nd (symV l.slots[na])).trans (But2.ofB ((Below.refl _ _).alloc (Nat.le_refl _) (.cells #[.int .i64 1, .int .i64 (nd : Int), .int .i64 (na : Int), .int .i64 b, .int .i64 c, .int .i64 n, .string t] 66)).drew)
  have ca := h.2.2.at na hna
  obtain ⟨Ts, vs, es⟩ := symV_iface l.slots[na]
  rw [es] at ca B2
  replace H2 : Hid (LedIs ((w.setCell ⟨S, nd, none⟩ (.iface Ts vs)).alloc (.cells #[.int .i64 1, .int .i64 (nd : Int), .int .i64 (na : Int), .int .i64 b, .int .i64 c, .int .i64 n, .string t] 66)).drew L S _) := es ▸ H2.out
  clear es
  obtain ⟨hL, hS⟩ := h.lt
  have c0 := h.head.1
  have cd := h.2.2.at nd hnd
  have fd := h.2.2.free nd
  clear h H1
  go_enter Try.func51, Try.ntmps51
  go_wp2
  go_region
  all_goals go_wp2
  all_goals (first | go_end0 | refine bodyPost_ret (results_none rfl _ _ _) rfl ?_)
  all_goals exact ⟨rfl, B2.out, H2.out⟩
set_option maxRecDepth 100000 in
set_option maxHeartbeats 4000000 in
theorem step_none (w : World) (L S : Nat) (l : Led) (op d a b c n : Int) (t : ByteArray) (h : LedIs w L S l) (hop : op = 4 ∨ op = 6) :
    Calls Try.prog 51 #[.pointer (some ⟨L, 0, none⟩), .agg #[.int .i64 op, .int .i64 d, .int .i64 a, .int .i64 b, .int .i64 c, .int .i64 n, .string t]] w fun e w' => e = .returned (.tuple #[]) ∧ But2 L S w w' ∧ LedIs w' L S l := by
  have al := (Below.refl w.heap.size w).alloc (Nat.le_refl _) (.cells #[.int .i64 op, .int .i64 d, .int .i64 a, .int .i64 b, .int .i64 c, .int .i64 n, .string t] 66)
  have H2 := hideP (h.stays al)
  have B2 : Hid (But2 L S w _) := But2.ofB al
  clear h al
  rcases hop with rfl | rfl
  · go_enter Try.func51, Try.ntmps51
    go_wp2
    first | go_end0 | refine bodyPost_ret (results_none rfl _ _ _) rfl ?_
    exact ⟨rfl, B2.out, H2.out⟩
  · go_enter Try.func51, Try.ntmps51
    go_wp2
    first | go_end0 | refine bodyPost_ret (results_none rfl _ _ _) rfl ?_
    exact ⟨rfl, B2.out, H2.out⟩
set_option maxRecDepth 100000 in
set_option maxHeartbeats 4000000 in
theorem step_bin (w : World) (L S : Nat) (l : Led) (nd na nb : Nat) (c n : Int) (t : ByteArray) (h : LedIs w L S l) (hn : l.slots.length + l.fresh ≤ 1000000) (hnd : nd < l.slots.length) (hna : na < l.slots.length) (hnb : nb < l.slots.length) :
    Calls Try.prog 51 #[.pointer (some ⟨L, 0, none⟩), .agg #[.int .i64 2, .int .i64 (nd : Int), .int .i64 (na : Int), .int .i64 (nb : Int), .int .i64 c, .int .i64 n, .string t]] w fun e w' => e = .returned (.tuple #[]) ∧ But2 L S w w' ∧ LedIs w' L S (l.putO (nd : Int) (symBin t.toList l.slots[na] l.slots[nb])) := by
  have al := (Below.refl w.heap.size w).alloc (Nat.le_refl _) (.cells #[.int .i64 2, .int .i64 (nd : Int), .int .i64 (na : Int), .int .i64 (nb : Int), .int .i64 c, .int .i64 n, .string t] 66)
  have HA := hideP (h.stays al)
  have AL := hideP al
  have PQ : Hid (∀ W' v, But L (w.alloc (.cells #[.int .i64 2, .int .i64 (nd : Int), .int .i64 (na : Int), .int .i64 (nb : Int), .int .i64 c, .int .i64 n, .string t] 66)) W' → v = symV (l.made (symBin t.toList l.slots[na] l.slots[nb])) → W'.heap[L]? = some (.cells (ledHead S l.slots.length (l.next (symBin t.toList l.slots[na] l.slots[nb]))) 62 (0, 0)) → But2 L S w (W'.setCell ⟨S, nd, none⟩ v) ∧ LedIs (W'.setCell ⟨S, nd, none⟩ v) L S (l.putO (nd : Int) (symBin t.toList l.slots[na] l.slots[nb]))) := fun W' v hb hv hl => by
    subst hv
    exact ⟨((But2.ofB AL.out).trans (But2.of1 hb)).set2 nd _, HA.out.putO hb (symBin t.toList l.slots[na] l.slots[nb]) hl nd hnd⟩
  have q0 := (cells_of (heap_alloc_new w (.cells #[.int .i64 2, .int .i64 (nd : Int), .int .i64 (na : Int), .int .i64 (nb : Int), .int .i64 c, .int .i64 n, .string t] 66))).1
  have SK : Hid (∀ W' f, But L (w.alloc (.cells #[.int .i64 2, .int .i64 (nd : Int), .int .i64 (na : Int), .int .i64 (nb : Int), .int .i64 c, .int .i64 n, .string t] 66)) W' → W'.heap[L]? = some (.cells (ledHead S l.slots.length f) 62 (0, 0)) → W'.cell? ⟨w.heap.size, 0, none⟩ = some (.int .i64 2) ∧ W'.cell? ⟨w.heap.size, 1, none⟩ = some (.int .i64 (nd : Int)) ∧ W'.cell? ⟨w.heap.size, 2, none⟩ = some (.int .i64 (na : Int)) ∧ W'.cell? ⟨w.heap.size, 3, none⟩ = some (.int .i64 (nb : Int)) ∧ W'.cell? ⟨w.heap.size, 4, none⟩ = some (.int .i64 c) ∧ W'.cell? ⟨w.heap.size, 5, none⟩ = some (.int .i64 n) ∧ W'.cell? ⟨w.heap.size, 6, none⟩ = some (.string t) ∧ W'.cell? ⟨L, 0, none⟩ = some (.slice (some ⟨S, 0, none⟩) l.slots.length l.slots.length)) := fun W' f hb hl => by
    have hne : w.heap.size ≠ L := by have := h.lt.1; omega
    have hs : w.heap.size < (w.alloc (.cells #[.int .i64 2, .int .i64 (nd : Int), .int .i64 (na : Int), .int .i64 (nb : Int), .int .i64 c, .int .i64 n, .string t] 66)).heap.size := by simp
    exact ⟨(hb.cell hs hne).trans (q0 0), (hb.cell hs hne).trans (q0 1), (hb.cell hs hne).trans (q0 2), (hb.cell hs hne).trans (q0 3), (hb.cell hs hne).trans (q0 4), (hb.cell hs hne).trans (q0 5), (hb.cell hs hne).trans (q0 6), (cells_of hl).1 0⟩
  have SK2 : Hid (∀ W' f v, But L (w.alloc (.cells #[.int .i64 2, .int .i64 (nd : Int), .int .i64 (na : Int), .int .i64 (nb : Int), .int .i64 c, .int .i64 n, .string t] 66)) W' → W'.heap[L]? = some (.cells (ledHead S l.slots.length f) 62 (0, 0)) → (W'.setCell ⟨S, nd, none⟩ v).cell? ⟨w.heap.size, 0, none⟩ = some (.int .i64 2) ∧ (W'.setCell ⟨S, nd, none⟩ v).cell? ⟨w.heap.size, 1, none⟩ = some (.int .i64 (nd : Int)) ∧ (W'.setCell ⟨S, nd, none⟩ v).cell? ⟨w.heap.size, 2, none⟩ = some (.int .i64 (na : Int)) ∧ (W'.setCell ⟨S, nd, none⟩ v).cell? ⟨w.heap.size, 3, none⟩ = some (.int .i64 (nb : Int)) ∧ (W'.setCell ⟨S, nd, none⟩ v).cell? ⟨w.heap.size, 4, none⟩ = some (.int .i64 c) ∧ (W'.setCell ⟨S, nd, none⟩ v).cell? ⟨w.heap.size, 5, none⟩ = some (.int .i64 n) ∧ (W'.setCell ⟨S, nd, none⟩ v).cell? ⟨w.heap.size, 6, none⟩ = some (.string t) ∧ (W'.setCell ⟨S, nd, none⟩ v).cell? ⟨L, 0, none⟩ = some (.slice (some ⟨S, 0, none⟩) l.slots.length l.slots.length)) := fun W' f v hb hl => by
    have h1 : w.heap.size ≠ S := by have := h.lt.2; omega
    have h2 : L ≠ S := h.1
    have := SK.out W' f hb hl
    rw [cell_other h1, cell_other h1, cell_other h1, cell_other h1, cell_other h1, cell_other h1, cell_other h1, cell_other h2]
    exact this
  obtain ⟨Ts, vs, es⟩ := symV_iface (l.made (symBin t.toList l.slots[na] l.slots[nb]))
  rw [es] at PQ
  have RC : Hid (∀ W', But L (w.alloc (.cells #[.int .i64 2, .int .i64 (nd : Int), .int .i64 (na : Int), .int .i64 (nb : Int), .int .i64 c, .int .i64 n, .string t] 66)) W' → W'.heap[L]? = some (.cells (ledHead S l.slots.length l.fresh) 62 (0, 0)) → Calls Try.prog 65 #[.pointer (some ⟨L, 0, none⟩), .agg #[.int .i64 2, .int .i64 (nd : Int), .int .i64 (na : Int), .int .i64 (nb : Int), .int .i64 c, .int .i64 n, .string t]] W' fun e w' => e = .returned (.iface Ts vs) ∧ But L W' w' ∧ w'.heap[L]? = some (.cells (ledHead S l.slots.length (l.next (symBin t.toList l.slots[na] l.slots[nb]))) 62 (0, 0))) := fun W' hb hl => by
    have h1 : LedIs W' L S l := ⟨h.1, hl, HA.out.2.2.blk (hb.block S HA.out.lt.2 (fun e => h.1 e.symm))⟩
    rw [← es]
    exact reckoned_any W' L S l 2 (nd : Int) c n na nb t h1 hn hna hnb
  clear es
  have HD := hideP HA.out.2.1
  have SD : Hid (∀ W', But L (w.alloc (.cells #[.int .i64 2, .int .i64 (nd : Int), .int .i64 (na : Int), .int .i64 (nb : Int), .int .i64 c, .int .i64 n, .string t] 66)) W' → ∃ v, W'.cell? ⟨S, nd, none⟩ = some v ∧ W'.frozen? ⟨S, nd, none⟩ = false) := fun W' hb => by
    have := HA.out.2.2.blk (hb.block S HA.out.lt.2 (fun e => h.1 e.symm))
    exact ⟨_, this.at nd hnd, this.free nd⟩
  obtain ⟨hL, hS⟩ := h.lt
  clear h al q0
  go_enter Try.func51, Try.ntmps51
  go_upto_region 7 with fail
  obtain ⟨W0, hW0⟩ : ∃ W0, w.alloc (.cells #[.int .i64 2, .int .i64 (nd : Int), .int .i64 (na : Int), .int .i64 (nb : Int), .int .i64 c, .int .i64 n, .string t] 66) = W0 := ⟨_, rfl⟩
  rw [hW0] at HA PQ SK SK2 HD SD AL RC ⊢
  clear hW0
  go_region_held3 (fun W' => W'.cell? ⟨w.heap.size, 0, none⟩ = some (.int .i64 2) ∧ W'.cell? ⟨w.heap.size, 1, none⟩ = some (.int .i64 (nd : Int)) ∧ W'.cell? ⟨w.heap.size, 2, none⟩ = some (.int .i64 (na : Int)) ∧ W'.cell? ⟨w.heap.size, 3, none⟩ = some (.int .i64 (nb : Int)) ∧ W'.cell? ⟨w.heap.size, 4, none⟩ = some (.int .i64 c) ∧ W'.cell? ⟨w.heap.size, 5, none⟩ = some (.int .i64 n) ∧ W'.cell? ⟨w.heap.size, 6, none⟩ = some (.string t) ∧ W'.cell? ⟨L, 0, none⟩ = some (.slice (some ⟨S, 0, none⟩) l.slots.length l.slots.length)) (first | exact SK.out _ _ (but_drew _) HD.out | exact SK.out _ _ BU.out HL1.out | exact SK2.out _ _ _ BU.out HL1.out) (first
    | (go_at_call 65; refine (RC.out _ (but_drew _) HD.out).mono ?_; rintro e1 w1 ⟨rfl, but1, hl1⟩; have BU := hideP ((but_drew _).after but1); have HL1 := hideP hl1; obtain ⟨vd, hvd, hfd⟩ := SD.out _ BU.out; clear but1 hl1))
  all_goals go_wp2
  all_goals (first | go_end0 | refine bodyPost_ret (results_none rfl _ _ _) rfl ?_)
  all_goals exact ⟨rfl, PQ.out _ _ BU.out rfl HL1.out⟩
set_option maxRecDepth 100000 in
set_option maxHeartbeats 4000000 in
theorem step_load (w : World) (L S : Nat) (l : Led) (nd : Nat) (a b c n : Int) (t : ByteArray) (h : LedIs w L S l) (hn : l.slots.length + l.fresh ≤ 1000000) (hnd : nd < l.slots.length) :
    Calls Try.prog 51 #[.pointer (some ⟨L, 0, none⟩), .agg #[.int .i64 3, .int .i64 (nd : Int), .int .i64 a, .int .i64 b, .int .i64 c, .int .i64 n, .string t]] w fun e w' => e = .returned (.tuple #[]) ∧ But2 L S w w' ∧ LedIs w' L S (l.putO (nd : Int) none) := by
  have al := (Below.refl w.heap.size w).alloc (Nat.le_refl _) (.cells #[.int .i64 3, .int .i64 (nd : Int), .int .i64 a, .int .i64 b, .int .i64 c, .int .i64 n, .string t] 66)
  have HA := hideP (h.stays al)
  have AL := hideP al
  have PQ : Hid (∀ W' v, But L (w.alloc (.cells #[.int .i64 3, .int .i64 (nd : Int), .int .i64 a, .int .i64 b, .int .i64 c, .int .i64 n, .string t] 66)) W' → v = symV (l.made none) → W'.heap[L]? = some (.cells (ledHead S l.slots.length (l.next none)) 62 (0, 0)) → But2 L S w (W'.setCell ⟨S, nd, none⟩ v) ∧ LedIs (W'.setCell ⟨S, nd, none⟩ v) L S (l.putO (nd : Int) none)) := fun W' v hb hv hl => by
    subst hv
    exact ⟨((But2.ofB AL.out).trans (But2.of1 hb)).set2 nd _, HA.out.putO hb none hl nd hnd⟩
  have q0 := (cells_of (heap_alloc_new w (.cells #[.int .i64 3, .int .i64 (nd : Int), .int .i64 a, .int .i64 b, .int .i64 c, .int .i64 n, .string t] 66))).1
  have SK : Hid (∀ W' f, But L (w.alloc (.cells #[.int .i64 3, .int .i64 (nd : Int), .int .i64 a, .int .i64 b, .int .i64 c, .int .i64 n, .string t] 66)) W' → W'.heap[L]? = some (.cells (ledHead S l.slots.length f) 62 (0, 0)) → W'.cell? ⟨w.heap.size, 0, none⟩ = some (.int .i64 3) ∧ W'.cell? ⟨w.heap.size, 1, none⟩ = some (.int .i64 (nd : Int)) ∧ W'.cell? ⟨w.heap.size, 2, none⟩ = some (.int .i64 a) ∧ W'.cell? ⟨w.heap.size, 3, none⟩ = some (.int .i64 b) ∧ W'.cell? ⟨w.heap.size, 4, none⟩ = some (.int .i64 c) ∧ W'.cell? ⟨w.heap.size, 5, none⟩ = some (.int .i64 n) ∧ W'.cell? ⟨w.heap.size, 6, none⟩ = some (.string t) ∧ W'.cell? ⟨L, 0, none⟩ = some (.slice (some ⟨S, 0, none⟩) l.slots.length l.slots.length)) := fun W' f hb hl => by
    have hne : w.heap.size ≠ L := by have := h.lt.1; omega
    have hs : w.heap.size < (w.alloc (.cells #[.int .i64 3, .int .i64 (nd : Int), .int .i64 a, .int .i64 b, .int .i64 c, .int .i64 n, .string t] 66)).heap.size := by simp
    exact ⟨(hb.cell hs hne).trans (q0 0), (hb.cell hs hne).trans (q0 1), (hb.cell hs hne).trans (q0 2), (hb.cell hs hne).trans (q0 3), (hb.cell hs hne).trans (q0 4), (hb.cell hs hne).trans (q0 5), (hb.cell hs hne).trans (q0 6), (cells_of hl).1 0⟩
  have SK2 : Hid (∀ W' f v, But L (w.alloc (.cells #[.int .i64 3, .int .i64 (nd : Int), .int .i64 a, .int .i64 b, .int .i64 c, .int .i64 n, .string t] 66)) W' → W'.heap[L]? = some (.cells (ledHead S l.slots.length f) 62 (0, 0)) → (W'.setCell ⟨S, nd, none⟩ v).cell? ⟨w.heap.size, 0, none⟩ = some (.int .i64 3) ∧ (W'.setCell ⟨S, nd, none⟩ v).cell? ⟨w.heap.size, 1, none⟩ = some (.int .i64 (nd : Int)) ∧ (W'.setCell ⟨S, nd, none⟩ v).cell? ⟨w.heap.size, 2, none⟩ = some (.int .i64 a) ∧ (W'.setCell ⟨S, nd, none⟩ v).cell? ⟨w.heap.size, 3, none⟩ = some (.int .i64 b) ∧ (W'.setCell ⟨S, nd, none⟩ v).cell? ⟨w.heap.size, 4, none⟩ = some (.int .i64 c) ∧ (W'.setCell ⟨S, nd, none⟩ v).cell? ⟨w.heap.size, 5, none⟩ = some (.int .i64 n) ∧ (W'.setCell ⟨S, nd, none⟩ v).cell? ⟨w.heap.size, 6, none⟩ = some (.string t) ∧ (W'.setCell ⟨S, nd, none⟩ v).cell? ⟨L, 0, none⟩ = some (.slice (some ⟨S, 0, none⟩) l.slots.length l.slots.length)) := fun W' f v hb hl => by
    have h1 : w.heap.size ≠ S := by have := h.lt.2; omega
    have h2 : L ≠ S := h.1
    have := SK.out W' f hb hl
    rw [cell_other h1, cell_other h1, cell_other h1, cell_other h1, cell_other h1, cell_other h1, cell_other h1, cell_other h2]
    exact this
  obtain ⟨Ts, vs, es⟩ := symV_iface (l.made none)
  rw [es] at PQ
  have RC : Hid (∀ W', But L (w.alloc (.cells #[.int .i64 3, .int .i64 (nd : Int), .int .i64 a, .int .i64 b, .int .i64 c, .int .i64 n, .string t] 66)) W' → W'.heap[L]? = some (.cells (ledHead S l.slots.length l.fresh) 62 (0, 0)) → Calls Try.prog 66 #[.pointer (some ⟨L, 0, none⟩)] W' fun e w' => e = .returned (.iface Ts vs) ∧ But L W' w' ∧ w'.heap[L]? = some (.cells (ledHead S l.slots.length (l.next none)) 62 (0, 0))) := fun W' hb hl => by
    have h1 : LedIs W' L S l := ⟨h.1, hl, HA.out.2.2.blk (hb.block S HA.out.lt.2 (fun e => h.1 e.symm))⟩
    rw [← es]
    exact newBase_any W' L S l h1 hn
  clear es
  have HD := hideP HA.out.2.1
  have SD : Hid (∀ W', But L (w.alloc (.cells #[.int .i64 3, .int .i64 (nd : Int), .int .i64 a, .int .i64 b, .int .i64 c, .int .i64 n, .string t] 66)) W' → ∃ v, W'.cell? ⟨S, nd, none⟩ = some v ∧ W'.frozen? ⟨S, nd, none⟩ = false) := fun W' hb => by
    have := HA.out.2.2.blk (hb.block S HA.out.lt.2 (fun e => h.1 e.symm))
    exact ⟨_, this.at nd hnd, this.free nd⟩
  obtain ⟨hL, hS⟩ := h.lt
  clear h al q0
  go_enter Try.func51, Try.ntmps51
  go_upto_region 10 with fail
  obtain ⟨W0, hW0⟩ : ∃ W0, w.alloc (.cells #[.int .i64 3, .int .i64 (nd : Int), .int .i64 a, .int .i64 b, .int .i64 c, .int .i64 n, .string t] 66) = W0 := ⟨_, rfl⟩
  rw [hW0] at HA PQ SK SK2 HD SD AL RC ⊢
  clear hW0
  go_region_held3 (fun W' => W'.cell? ⟨w.heap.size, 0, none⟩ = some (.int .i64 3) ∧ W'.cell? ⟨w.heap.size, 1, none⟩ = some (.int .i64 (nd : Int)) ∧ W'.cell? ⟨w.heap.size, 2, none⟩ = some (.int .i64 a) ∧ W'.cell? ⟨w.heap.size, 3, none⟩ = some (.int .i64 b) ∧ W'.cell? ⟨w.heap.size, 4, none⟩ = some (.int .i64 c) ∧ W'.cell? ⟨w.heap.size, 5, none⟩ = some (.int .i64 n) ∧ W'.cell? ⟨w.heap.size, 6, none⟩ = some (.string t) ∧ W'.cell? ⟨L, 0, none⟩ = some (.slice (some ⟨S, 0, none⟩) l.slots.length l.slots.length)) (first | exact SK.out _ _ (but_drew _) HD.out | exact SK.out _ _ BU.out HL1.out | exact SK2.out _ _ _ BU.out HL1.out) (first
    | (go_at_call 66; refine (RC.out _ (but_drew _) HD.out).mono ?_; rintro e1 w1 ⟨rfl, but1, hl1⟩; have BU := hideP ((but_drew _).after but1); have HL1 := hideP hl1; obtain ⟨vd, hvd, hfd⟩ := SD.out _ BU.out; clear but1 hl1))
  all_goals go_wp2
  all_goals (first | go_end0 | refine bodyPost_ret (results_none rfl _ _ _) rfl ?_)
  all_goals exact ⟨rfl, PQ.out _ _ BU.out rfl HL1.out⟩
set_option maxRecDepth 100000 in
set_option maxHeartbeats 4000000 in
theorem step_get (w : World) (L S : Nat) (l : Led) (nd : Nat) (a b c n : Int) (t : ByteArray) (h : LedIs w L S l) (hn : l.slots.length + l.fresh ≤ 1000000) (hnd : nd < l.slots.length) :
    Calls Try.prog 51 #[.pointer (some ⟨L, 0, none⟩), .agg #[.int .i64 5, .int .i64 (nd : Int), .int .i64 a, .int .i64 b, .int .i64 c, .int .i64 n, .string t]] w fun e w' => e = .returned (.tuple #[]) ∧ But2 L S w w' ∧ LedIs w' L S (l.putO (nd : Int) none) := by
  have al := (Below.refl w.heap.size w).alloc (Nat.le_refl _) (.cells #[.int .i64 5, .int .i64 (nd : Int), .int .i64 a, .int .i64 b, .int .i64 c, .int .i64 n, .string t] 66)
  have HA := hideP (h.stays al)
  have AL := hideP al
  have PQ : Hid (∀ W' v, But L (w.alloc (.cells #[.int .i64 5, .int .i64 (nd : Int), .int .i64 a, .int .i64 b, .int .i64 c, .int .i64 n, .string t] 66)) W' → v = symV (l.made none) → W'.heap[L]? = some (.cells (ledHead S l.slots.length (l.next none)) 62 (0, 0)) → But2 L S w (W'.setCell ⟨S, nd, none⟩ v) ∧ LedIs (W'.setCell ⟨S, nd, none⟩ v) L S (l.putO (nd : Int) none)) := fun W' v hb hv hl => by
    subst hv
    exact ⟨((But2.ofB AL.out).trans (But2.of1 hb)).set2 nd _, HA.out.putO hb none hl nd hnd⟩
  have q0 := (cells_of (heap_alloc_new w (.cells #[.int .i64 5, .int .i64 (nd : Int), .int .i64 a, .int .i64 b, .int .i64 c, .int .i64 n, .string t] 66))).1
  have SK : Hid (∀ W' f, But L (w.alloc (.cells #[.int .i64 5, .int .i64 (nd : Int), .int .i64 a, .int .i64 b, .int .i64 c, .int .i64 n, .string t] 66)) W' → W'.heap[L]? = some (.cells (ledHead S l.slots.length f) 62 (0, 0)) → W'.cell? ⟨w.heap.size, 0, none⟩ = some (.int .i64 5) ∧ W'.cell? ⟨w.heap.size, 1, none⟩ = some (.int .i64 (nd : Int)) ∧ W'.cell? ⟨w.heap.size, 2, none⟩ = some (.int .i64 a) ∧ W'.cell? ⟨w.heap.size, 3, none⟩ = some (.int .i64 b) ∧ W'.cell? ⟨w.heap.size, 4, none⟩ = some (.int .i64 c) ∧ W'.cell? ⟨w.heap.size, 5, none⟩ = some (.int .i64 n) ∧ W'.cell? ⟨w.heap.size, 6, none⟩ = some (.string t) ∧ W'.cell? ⟨L, 0, none⟩ = some (.slice (some ⟨S, 0, none⟩) l.slots.length l.slots.length)) := fun W' f hb hl => by
    have hne : w.heap.size ≠ L := by have := h.lt.1; omega
    have hs : w.heap.size < (w.alloc (.cells #[.int .i64 5, .int .i64 (nd : Int), .int .i64 a, .int .i64 b, .int .i64 c, .int .i64 n, .string t] 66)).heap.size := by simp
    exact ⟨(hb.cell hs hne).trans (q0 0), (hb.cell hs hne).trans (q0 1), (hb.cell hs hne).trans (q0 2), (hb.cell hs hne).trans (q0 3), (hb.cell hs hne).trans (q0 4), (hb.cell hs hne).trans (q0 5), (hb.cell hs hne).trans (q0 6), (cells_of hl).1 0⟩
  have SK2 : Hid (∀ W' f v, But L (w.alloc (.cells #[.int .i64 5, .int .i64 (nd : Int), .int .i64 a, .int .i64 b, .int .i64 c, .int .i64 n, .string t] 66)) W' → W'.heap[L]? = some (.cells (ledHead S l.slots.length f) 62 (0, 0)) → (W'.setCell ⟨S, nd, none⟩ v).cell? ⟨w.heap.size, 0, none⟩ = some (.int .i64 5) ∧ (W'.setCell ⟨S, nd, none⟩ v).cell? ⟨w.heap.size, 1, none⟩ = some (.int .i64 (nd : Int)) ∧ (W'.setCell ⟨S, nd, none⟩ v).cell? ⟨w.heap.size, 2, none⟩ = some (.int .i64 a) ∧ (W'.setCell ⟨S, nd, none⟩ v).cell? ⟨w.heap.size, 3, none⟩ = some (.int .i64 b) ∧ (W'.setCell ⟨S, nd, none⟩ v).cell? ⟨w.heap.size, 4, none⟩ = some (.int .i64 c) ∧ (W'.setCell ⟨S, nd, none⟩ v).cell? ⟨w.heap.size, 5, none⟩ = some (.int .i64 n) ∧ (W'.setCell ⟨S, nd, none⟩ v).cell? ⟨w.heap.size, 6, none⟩ = some (.string t) ∧ (W'.setCell ⟨S, nd, none⟩ v).cell? ⟨L, 0, none⟩ = some (.slice (some ⟨S, 0, none⟩) l.slots.length l.slots.length)) := fun W' f v hb hl => by
    have h1 : w.heap.size ≠ S := by have := h.lt.2; omega
    have h2 : L ≠ S := h.1
    have := SK.out W' f hb hl
    rw [cell_other h1, cell_other h1, cell_other h1, cell_other h1, cell_other h1, cell_other h1, cell_other h1, cell_other h2]
    exact this
  obtain ⟨Ts, vs, es⟩ := symV_iface (l.made none)
  rw [es] at PQ
  have RC : Hid (∀ W', But L (w.alloc (.cells #[.int .i64 5, .int .i64 (nd : Int), .int .i64 a, .int .i64 b, .int .i64 c, .int .i64 n, .string t] 66)) W' → W'.heap[L]? = some (.cells (ledHead S l.slots.length l.fresh) 62 (0, 0)) → Calls Try.prog 66 #[.pointer (some ⟨L, 0, none⟩)] W' fun e w' => e = .returned (.iface Ts vs) ∧ But L W' w' ∧ w'.heap[L]? = some (.cells (ledHead S l.slots.length (l.next none)) 62 (0, 0))) := fun W' hb hl => by
    have h1 : LedIs W' L S l := ⟨h.1, hl, HA.out.2.2.blk (hb.block S HA.out.lt.2 (fun e => h.1 e.symm))⟩
    rw [← es]
    exact newBase_any W' L S l h1 hn
  clear es
  have HD := hideP HA.out.2.1
  have SD : Hid (∀ W', But L (w.alloc (.cells #[.int .i64 5, .int .i64 (nd : Int), .int .i64 a, .int .i64 b, .int .i64 c, .int .i64 n, .string t] 66)) W' → ∃ v, W'.cell? ⟨S, nd, none⟩ = some v ∧ W'.frozen? ⟨S, nd, none⟩ = false) := fun W' hb => by
    have := HA.out.2.2.blk (hb.block S HA.out.lt.2 (fun e => h.1 e.symm))
    exact ⟨_, this.at nd hnd, this.free nd⟩
  obtain ⟨hL, hS⟩ := h.lt
  clear h al q0
  go_enter Try.func51, Try.ntmps51
  go_upto_region 10 with fail
  obtain ⟨W0, hW0⟩ : ∃ W0, w.alloc (.cells #[.int .i64 5, .int .i64 (nd : Int), .int .i64 a, .int .i64 b, .int .i64 c, .int .i64 n, .string t] 66) = W0 := ⟨_, rfl⟩
  rw [hW0] at HA PQ SK SK2 HD SD AL RC ⊢
  clear hW0
  go_region_held3 (fun W' => W'.cell? ⟨w.heap.size, 0, none⟩ = some (.int .i64 5) ∧ W'.cell? ⟨w.heap.size, 1, none⟩ = some (.int .i64 (nd : Int)) ∧ W'.cell? ⟨w.heap.size, 2, none⟩ = some (.int .i64 a) ∧ W'.cell? ⟨w.heap.size, 3, none⟩ = some (.int .i64 b) ∧ W'.cell? ⟨w.heap.size, 4, none⟩ = some (.int .i64 c) ∧ W'.cell? ⟨w.heap.size, 5, none⟩ = some (.int .i64 n) ∧ W'.cell? ⟨w.heap.size, 6, none⟩ = some (.string t) ∧ W'.cell? ⟨L, 0, none⟩ = some (.slice (some ⟨S, 0, none⟩) l.slots.length l.slots.length)) (first | exact SK.out _ _ (but_drew _) HD.out | exact SK.out _ _ BU.out HL1.out | exact SK2.out _ _ _ BU.out HL1.out) (first
    | (go_at_call 66; refine (RC.out _ (but_drew _) HD.out).mono ?_; rintro e1 w1 ⟨rfl, but1, hl1⟩; have BU := hideP ((but_drew _).after but1); have HL1 := hideP hl1; obtain ⟨vd, hvd, hfd⟩ := SD.out _ BU.out; clear but1 hl1))
  all_goals go_wp2
  all_goals (first | go_end0 | refine bodyPost_ret (results_none rfl _ _ _) rfl ?_)
  all_goals exact ⟨rfl, PQ.out _ _ BU.out rfl HL1.out⟩
end Go.Proofs.Ytgiboadcfnfooab
