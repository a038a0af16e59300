/- errors.As of the machine's own ending, into a variable of that type: its walk. -/
import Derived.Test.YtpkfbabgcinhhaaDoorAsE
namespace Go.Proofs.YtpkfbabgcinhhaaDoor
open Go.RowKit Go.Extern
/-- A value's own pair of cells, read and written. -/
theorem ld_end (w : World) (g : Nat) (c x : Value) (h : w.heap[g]? = some (.cells #[c, x] 111 (0, 0))) : (loadVar 111 ⟨g, 0, none⟩).run Tryd.prog w = .ok (.agg #[c, x]) w :=
  run_loadVar_row w g 111 111 #[c, x] (0, 0) _ h Tryd.underlying111 rfl (by kernel_rfl)
theorem st_end (w : World) (g : Nat) (a0 a1 : Value) (c x : Int) (h : w.heap[g]? = some (.cells #[a0, a1] 111 (0, 0))) : (storeVar 111 ⟨g, 0, none⟩ (.agg #[.int .i64 c, .int .i64 x])).run Tryd.prog w = .ok () (w.setRow g #[.int .i64 c, .int .i64 x]) :=
  run_storeVar_row w g 111 111 #[a0, a1] #[.int .i64 c, .int .i64 x] h (by kernel_rfl) rfl (by simp [Value.oneCell'])
theorem ld_ptr (w : World) (p : Addr) (a : Addr) (h : w.cell? p = some (.pointer (some a))) : (loadVar 113 p).run Tryd.prog w = .ok (.pointer (some a)) w := by
  have e : (isAgg 113).run Tryd.prog w = .ok false w := by kernel_rfl
  simp [loadVar, Sem.run_bind, e, h]
set_option maxHeartbeats 8000000 in
set_option maxRecDepth 100000 in
theorem asIn_any (c x : Int) (b p : Nat) (a0 a1 : Value) (w : World) (hb : w.heap[b]? = some (.cells #[a0, a1] 111 (0, 0))) (hp : w.cell? ⟨p, 0, none⟩ = some (.pointer (some ⟨b, 0, none⟩))) (tg : Value) :
    Calls Tryd.prog 75 #[.iface 111 (.agg #[.int .i64 c, .int .i64 x]), tg, .agg #[hT 113, .pointer (some ⟨p, 0, none⟩), .int .u64 150], .iface 100 (.agg #[hT 111])] w
      fun e w' => e = .returned (.bool true) ∧ But b w w' ∧ w'.heap[b]? = some (.cells #[.int .i64 c, .int .i64 x] 111 (0, 0)) := by
  have m10 := as10
  have c11 := as11
  have c9 := as9
  have c12 := as12
  have al1 := (Below.refl w.heap.size w).alloc (Nat.le_refl _) (.cells #[hT 113, .pointer (some ⟨p, 0, none⟩), .int .u64 150] 122)
  have hpl : p < w.heap.size := World.block_lt_of_cell? _ _ hp
  have hbl : b < w.heap.size := (Array.getElem?_eq_some_iff.1 hb).1
  have c14 := as14 ⟨p, 0, none⟩ ⟨b, 0, none⟩ _ (ld_ptr _ _ _ ((al1.cell (p := ⟨p, 0, none⟩) hpl).trans hp))
  have al2 := (Below.refl _ (w.alloc (.cells #[hT 113, .pointer (some ⟨p, 0, none⟩), .int .u64 150] 122))).alloc (Nat.le_refl _) (.cells #[.int .i64 c, .int .i64 x] 111)
  have hb2 := (al2.block b (Nat.lt_of_lt_of_le hbl al1.size)).trans ((al1.block b hbl).trans hb)
  have hn2 : ((w.alloc (.cells #[hT 113, .pointer (some ⟨p, 0, none⟩), .int .u64 150] 122)).alloc (.cells #[.int .i64 c, .int .i64 x] 111)).heap[(w.alloc (.cells #[hT 113, .pointer (some ⟨p, 0, none⟩), .int .u64 150] 122)).heap.size]? = some (.cells #[.int .i64 c, .int .i64 x] 111 (0, 0)) := by
    show ((w.alloc _).heap.push _)[(w.alloc _).heap.size]? = _
    exact Array.getElem?_push_size
  have c15 := as15 ⟨b, 0, none⟩ _ c x _ _ (ld_end _ _ _ _ hn2) (st_end _ b a0 a1 c x hb2)
  obtain ⟨W3, hW3⟩ : ∃ W3, ((w.alloc (.cells #[hT 113, .pointer (some ⟨p, 0, none⟩), .int .u64 150] 122)).alloc (.cells #[.int .i64 c, .int .i64 x] 111)).setRow b #[.int .i64 c, .int .i64 x] = W3 := ⟨_, rfl⟩
  have k1 := ((But.refl b w).on al1).on al2
  have FB : Hid (But b w W3) := by
    rw [← hW3]
    exact ⟨k1.os, k1.tape, k1.output, by rw [size_setRow]; exact k1.size, fun q hq hne => (setRow_other _ b q _ hne).trans (k1.block q hq hne)⟩
  have FH : Hid (W3.heap[b]? = some (.cells #[.int .i64 c, .int .i64 x] 111 (0, 0))) := by
    show _ = _
    rw [← hW3]
    exact setRow_heap _ b #[a0, a1] #[.int .i64 c, .int .i64 x] _ (0, 0) hb2
  rw [hW3, World.size_alloc] at c15
  clear hW3 k1 hb hb2 hn2 al1 al2 hp hpl hbl
  go_enter Tryd.func75, Tryd.ntmps75
  go_wp2
  refine wp_loop_rounds 1 ?_
  rw [rounds_succ]
  go_wp2
  go_ret
  exact ⟨rfl, FB.out, FH.out⟩
set_option maxHeartbeats 8000000 in
set_option maxRecDepth 100000 in
/-- errors.As of the machine's own ending, into a variable of that type. -/
theorem isAsE (c x : Int) (b : Nat) (a0 a1 : Value) (w : World) (hb : w.heap[b]? = some (.cells #[a0, a1] 111 (0, 0))) (het : w.cell? ⟨2, 0, none⟩ = some (.iface 100 (.agg #[hT 50]))) :
    Calls Tryd.prog 67 #[.iface 111 (.agg #[.int .i64 c, .int .i64 x]), .iface 113 (.pointer (some ⟨b, 0, none⟩))] w
      fun e w' => e = .returned (.bool true) ∧ But b w w' ∧ w'.heap[b]? = some (.cells #[.int .i64 c, .int .i64 x] 111 (0, 0)) := by
  have c1 := as1
  have m3 := as3
  have c4 := as4
  have c4b := as4b
  have m5 := as5
  have c6 := as6
  have m7 := as7
  have c8 := as8
  have hbl : b < w.heap.size := (Array.getElem?_eq_some_iff.1 hb).1
  have hel : 2 < w.heap.size := World.block_lt_of_cell? _ _ het
  have al1 := (Below.refl w.heap.size w).alloc (Nat.le_refl _) (.cells #[.pointer (some ⟨b, 0, none⟩)] 113)
  have al2 := (Below.refl _ (w.alloc (.cells #[.pointer (some ⟨b, 0, none⟩)] 113))).alloc (Nat.le_refl _) (.cells #[hT 113, .pointer (some ⟨w.heap.size, 0, none⟩), .int .u64 150] 122)
  have hn1 : (w.alloc (.cells #[.pointer (some ⟨b, 0, none⟩)] 113)).cell? ⟨w.heap.size, 0, none⟩ = some (.pointer (some ⟨b, 0, none⟩)) := by rw [World.cell?_alloc_new]; rfl
  have hn2 := (al2.cell (p := ⟨w.heap.size, 0, none⟩) (by simp)).trans hn1
  have c2 := as2 ⟨w.heap.size, 0, none⟩
  have c13 := as13 ⟨w.heap.size, 0, none⟩ ⟨b, 0, none⟩ _ (ld_ptr _ _ _ hn2)
  have ht2 := (al2.cell (p := ⟨2, 0, none⟩) (by simp; omega)).trans ((al1.cell (p := ⟨2, 0, none⟩) hel).trans het)
  have hb2 := (al2.block b (by simp; omega)).trans ((al1.block b hbl).trans hb)
  have IN := hideP (asIn_any c x b w.heap.size a0 a1 _ hb2 hn2 (.iface 113 (.pointer (some ⟨b, 0, none⟩))))
  have BK := hideP (((But.refl b w).on al1).on al2)
  clear hb hb2 al1 al2 hn1 het
  go_enter Tryd.func67, Tryd.ntmps67
  go_wp2_with fail
  refine IN.out.mono ?_
  rintro e1 w1 ⟨rfl, k1, h1⟩
  have K1 : Hid (But b w w1) := ⟨k1.os.trans BK.out.os, k1.tape.trans BK.out.tape, k1.output.trans BK.out.output, Nat.le_trans BK.out.size k1.size, fun q hq hne => (k1.block q (Nat.lt_of_lt_of_le hq BK.out.size) hne).trans (BK.out.block q hq hne)⟩
  have H1 := hideP h1
  clear k1 h1 IN BK c1 m3 c4 c4b m5 c6 m7 c8 c2 c13 hn2 ht2
  go_wp2
  go_ret
  exact ⟨rfl, K1.out, H1.out⟩
theorem isAsNil (tg : Value) (w : World) : Calls Tryd.prog 67 #[.nilIface, tg] w fun e w' => e = .returned (.bool false) ∧ w' = w := by
  go_enter Tryd.func67, Tryd.ntmps67
  go_wp2
  go_ret
  exact ⟨rfl, rfl⟩
end Go.Proofs.YtpkfbabgcinhhaaDoor
