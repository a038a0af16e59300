/- The contract of spec.l14Word: Li, Mv, Jmp, Jz, Ret (written by wip/mkmcw.py). -/
import Derived.Test.YtpkfbabgcinhhaaDoorCkG
import Derived.Test.YtpkfbabgcinhhaaDoorCkQ
import Derived.BigQuiet
namespace Go.Proofs.YtpkfbabgcinhhaaDoor
open Go.ChangeShapes Go.WideShapes Go.ChangeAt Go.RowKit
theorem belI_nat {n c : Int} (h : belI n c = true) : ∃ k : Nat, n = (k : Int) ∧ (k : Int) < c := by
  unfold belI at h
  have := of_decide_eq_true h
  exact ⟨n.toNat, by omega, by omega⟩
theorem regG_at {g : List Int} {r : Nat} (h : r < g.length) : regG g (r : Int) = g[r] := by
  unfold regG; rw [Int.toNat_natCast, List.getD_eq_getElem?_getD, List.getElem?_eq_getElem h]; rfl
theorem below_but2 {D b c : Nat} {w w1 w2 w3 : World} (h : Below w.heap.size w w1) (k : But b w1 w2) (k2 : But c w2 w3) (hD : D ≤ w.heap.size) (hb : D ≤ b) (hc : D ≤ c) : Below D w w3 := ((h.mono hD).trans (k.below hb (Nat.le_trans hD h.size))).trans (k2.below hc (Nat.le_trans hD (Nat.le_trans h.size k.size)))
/-- What a word leaves. -/
def WordRes (L : Lay) (D : Nat) (ci : Nat) (w : World) (R : Mch × List Int × Int) (en : Ending) (w' : World) : Prop :=
  en = .returned (.int .i64 R.2.2) ∧ (∃ ui' ci' vo', ci' ≤ ci ∧ MAt L D ui' ci' vo' w' R.1 R.2.1) ∧ Below D w w'
theorem below_but {D b : Nat} {w w1 w2 : World} (h : Below w.heap.size w w1) (k : But b w1 w2) (hD : D ≤ w.heap.size) (hb : D ≤ b) : Below D w w2 := (h.mono hD).trans (k.below hb (Nat.le_trans hD h.size))
set_option maxHeartbeats 8000000 in
set_option maxRecDepth 100000 in
theorem word_0 (L : Lay) (D : Nat) (ui : Option Addr) (ci : Nat) (vo : Value) (w : World) (s : Mch) (g : List Int) (h : MAt L D ui ci vo w s g) (hg : g.length = 16) (r a b : Nat) (n k : Int) (hr : r < 16) (ha : a < 16) (hb : b < 16) (hk : 0 ≤ k ∧ k ≤ 6000) :
    Calls Tryd.prog 34 #[.pointer (some ⟨L.b, 0, none⟩), .slice (some ⟨L.r, 0, none⟩) 16 L.cr, .agg #[.int .i64 0, .int .i64 (r : Int), .int .i64 (a : Int), .int .i64 (b : Int), .int .i64 n], .int .i64 k] w fun en w' => WordRes L D ci w (wordM ⟨0, r, a, b, n⟩ k s g) en w' := by
  have hm := maxLen_lt
  have al := (Below.refl w.heap.size w).alloc (Nat.le_refl _) (.cells #[.int .i64 0, .int .i64 (r : Int), .int .i64 (a : Int), .int .i64 (b : Int), .int .i64 n] 73)
  have H := hideP (h.stays al)
  have X : Hid ((w.alloc (.cells #[.int .i64 0, .int .i64 (r : Int), .int .i64 (a : Int), .int .i64 (b : Int), .int .i64 n] 73)).heap[w.heap.size]? = some (.cells #[.int .i64 0, .int .i64 (r : Int), .int .i64 (a : Int), .int .i64 (b : Int), .int .i64 n] 73 (0, 0))) := by show (w.heap.push _)[w.heap.size]? = _; exact Array.getElem?_push_size
  have HAL := hideP al
  have hDw := h.low
  obtain ⟨W, hW⟩ : ∃ W, w.alloc (.cells #[.int .i64 0, .int .i64 (r : Int), .int .i64 (a : Int), .int .i64 (b : Int), .int .i64 n] 73) = W := ⟨_, rfl⟩
  rw [hW] at H X HAL
  clear al h
  have x0 := (cells_of X.out).1 0
  have x1 := (cells_of X.out).1 1
  have x2 := (cells_of X.out).1 2
  have x3 := (cells_of X.out).1 3
  have x4 := (cells_of X.out).1 4
  simp at x0 x1 x2 x3 x4
  have hr' : r < g.length := by omega
  have ha' : a < g.length := by omega
  have hb' : b < g.length := by omega
  have lr := H.out.regs.lt
  have lb : L.b < W.heap.size := (Array.getElem?_eq_some_iff.1 H.out.box).1
  obtain ⟨cr, fr⟩ := H.out.regs.at r hr'
  obtain ⟨ca, fa⟩ := H.out.regs.at a ha'
  obtain ⟨cb, fb⟩ := H.out.regs.at b hb'
  have E : wordM ⟨0, r, a, b, n⟩ k s g = (s, g.set r (n), k + 1) := by simp [wordM]
  rw [E]
  clear E
  have K := hideP (H.out.setReg r (n))
  have KB := hideP (below_but HAL.out ((But.refl L.r W).set r (.int .i64 (n))) hDw H.out.lowR)
  have e16 : (g.length : Int) = 16 := by omega
  have KD := hideP (K.out.stays (Below.refl _ _).drew)
  have KBD := hideP KB.out.drew
  go_enter Tryd.func34, Tryd.ntmps34
  go_wp2
  go_ret
  exact ⟨rfl, ⟨_, _, _, Nat.le_refl _, K.out⟩, KB.out⟩
set_option maxHeartbeats 8000000 in
set_option maxRecDepth 100000 in
theorem word_8 (L : Lay) (D : Nat) (ui : Option Addr) (ci : Nat) (vo : Value) (w : World) (s : Mch) (g : List Int) (h : MAt L D ui ci vo w s g) (hg : g.length = 16) (r a b : Nat) (n k : Int) (hr : r < 16) (ha : a < 16) (hb : b < 16) :
    Calls Tryd.prog 34 #[.pointer (some ⟨L.b, 0, none⟩), .slice (some ⟨L.r, 0, none⟩) 16 L.cr, .agg #[.int .i64 8, .int .i64 (r : Int), .int .i64 (a : Int), .int .i64 (b : Int), .int .i64 n], .int .i64 k] w fun en w' => WordRes L D ci w (wordM ⟨8, r, a, b, n⟩ k s g) en w' := by
  have hm := maxLen_lt
  have al := (Below.refl w.heap.size w).alloc (Nat.le_refl _) (.cells #[.int .i64 8, .int .i64 (r : Int), .int .i64 (a : Int), .int .i64 (b : Int), .int .i64 n] 73)
  have H := hideP (h.stays al)
  have X : Hid ((w.alloc (.cells #[.int .i64 8, .int .i64 (r : Int), .int .i64 (a : Int), .int .i64 (b : Int), .int .i64 n] 73)).heap[w.heap.size]? = some (.cells #[.int .i64 8, .int .i64 (r : Int), .int .i64 (a : Int), .int .i64 (b : Int), .int .i64 n] 73 (0, 0))) := by show (w.heap.push _)[w.heap.size]? = _; exact Array.getElem?_push_size
  have HAL := hideP al
  have hDw := h.low
  obtain ⟨W, hW⟩ : ∃ W, w.alloc (.cells #[.int .i64 8, .int .i64 (r : Int), .int .i64 (a : Int), .int .i64 (b : Int), .int .i64 n] 73) = W := ⟨_, rfl⟩
  rw [hW] at H X HAL
  clear al h
  have x0 := (cells_of X.out).1 0
  have x1 := (cells_of X.out).1 1
  have x2 := (cells_of X.out).1 2
  have x3 := (cells_of X.out).1 3
  have x4 := (cells_of X.out).1 4
  simp at x0 x1 x2 x3 x4
  have hr' : r < g.length := by omega
  have ha' : a < g.length := by omega
  have hb' : b < g.length := by omega
  have lr := H.out.regs.lt
  have lb : L.b < W.heap.size := (Array.getElem?_eq_some_iff.1 H.out.box).1
  obtain ⟨cr, fr⟩ := H.out.regs.at r hr'
  obtain ⟨ca, fa⟩ := H.out.regs.at a ha'
  obtain ⟨cb, fb⟩ := H.out.regs.at b hb'
  have E : wordM ⟨8, r, a, b, n⟩ k s g = (s, g, n) := by simp [wordM]
  rw [E]
  clear E
  go_enter Tryd.func34, Tryd.ntmps34
  go_wp2
  go_ret
  exact ⟨rfl, ⟨_, _, _, Nat.le_refl _, H.out⟩, HAL.out.mono hDw⟩
set_option maxHeartbeats 8000000 in
set_option maxRecDepth 100000 in
theorem word_9 (L : Lay) (D : Nat) (ui : Option Addr) (ci : Nat) (vo : Value) (w : World) (s : Mch) (g : List Int) (h : MAt L D ui ci vo w s g) (hg : g.length = 16) (r a b : Nat) (n k : Int) (hr : r < 16) (ha : a < 16) (hb : b < 16) (hk : 0 ≤ k ∧ k ≤ 6000) :
    Calls Tryd.prog 34 #[.pointer (some ⟨L.b, 0, none⟩), .slice (some ⟨L.r, 0, none⟩) 16 L.cr, .agg #[.int .i64 9, .int .i64 (r : Int), .int .i64 (a : Int), .int .i64 (b : Int), .int .i64 n], .int .i64 k] w fun en w' => WordRes L D ci w (wordM ⟨9, r, a, b, n⟩ k s g) en w' := by
  have hm := maxLen_lt
  have al := (Below.refl w.heap.size w).alloc (Nat.le_refl _) (.cells #[.int .i64 9, .int .i64 (r : Int), .int .i64 (a : Int), .int .i64 (b : Int), .int .i64 n] 73)
  have H := hideP (h.stays al)
  have X : Hid ((w.alloc (.cells #[.int .i64 9, .int .i64 (r : Int), .int .i64 (a : Int), .int .i64 (b : Int), .int .i64 n] 73)).heap[w.heap.size]? = some (.cells #[.int .i64 9, .int .i64 (r : Int), .int .i64 (a : Int), .int .i64 (b : Int), .int .i64 n] 73 (0, 0))) := by show (w.heap.push _)[w.heap.size]? = _; exact Array.getElem?_push_size
  have HAL := hideP al
  have hDw := h.low
  obtain ⟨W, hW⟩ : ∃ W, w.alloc (.cells #[.int .i64 9, .int .i64 (r : Int), .int .i64 (a : Int), .int .i64 (b : Int), .int .i64 n] 73) = W := ⟨_, rfl⟩
  rw [hW] at H X HAL
  clear al h
  have x0 := (cells_of X.out).1 0
  have x1 := (cells_of X.out).1 1
  have x2 := (cells_of X.out).1 2
  have x3 := (cells_of X.out).1 3
  have x4 := (cells_of X.out).1 4
  simp at x0 x1 x2 x3 x4
  have hr' : r < g.length := by omega
  have ha' : a < g.length := by omega
  have hb' : b < g.length := by omega
  have lr := H.out.regs.lt
  have lb : L.b < W.heap.size := (Array.getElem?_eq_some_iff.1 H.out.box).1
  obtain ⟨cr, fr⟩ := H.out.regs.at r hr'
  obtain ⟨ca, fa⟩ := H.out.regs.at a ha'
  obtain ⟨cb, fb⟩ := H.out.regs.at b hb'
  have E : wordM ⟨9, r, a, b, n⟩ k s g = (s, g, if g[r] = 0 then n else k + 1) := by simp [wordM, regG_at hr']
  rw [E]
  clear E
  by_cases hz : g[r] = 0
  · rw [if_pos hz]
    rw [hz] at cr
    go_enter Tryd.func34, Tryd.ntmps34
    go_wp2
    go_ret
    exact ⟨rfl, ⟨_, _, _, Nat.le_refl _, H.out⟩, HAL.out.mono hDw⟩
  · rw [if_neg hz]
    obtain ⟨z, hz2⟩ : ∃ z, g[r] = z := ⟨_, rfl⟩
    rw [hz2] at cr hz
    clear hz2
    go_enter Tryd.func34, Tryd.ntmps34
    go_wp2
    go_ret
    exact ⟨rfl, ⟨_, _, _, Nat.le_refl _, H.out⟩, HAL.out.mono hDw⟩
set_option maxHeartbeats 8000000 in
set_option maxRecDepth 100000 in
theorem word_11 (L : Lay) (D : Nat) (ui : Option Addr) (ci : Nat) (vo : Value) (w : World) (s : Mch) (g : List Int) (h : MAt L D ui ci vo w s g) (hg : g.length = 16) (r a b : Nat) (n k : Int) (hr : r < 16) (ha : a < 16) (hb : b < 16) (hk : 0 ≤ k ∧ k ≤ 6000) :
    Calls Tryd.prog 34 #[.pointer (some ⟨L.b, 0, none⟩), .slice (some ⟨L.r, 0, none⟩) 16 L.cr, .agg #[.int .i64 11, .int .i64 (r : Int), .int .i64 (a : Int), .int .i64 (b : Int), .int .i64 n], .int .i64 k] w fun en w' => WordRes L D ci w (wordM ⟨11, r, a, b, n⟩ k s g) en w' := by
  have hm := maxLen_lt
  have al := (Below.refl w.heap.size w).alloc (Nat.le_refl _) (.cells #[.int .i64 11, .int .i64 (r : Int), .int .i64 (a : Int), .int .i64 (b : Int), .int .i64 n] 73)
  have H := hideP (h.stays al)
  have X : Hid ((w.alloc (.cells #[.int .i64 11, .int .i64 (r : Int), .int .i64 (a : Int), .int .i64 (b : Int), .int .i64 n] 73)).heap[w.heap.size]? = some (.cells #[.int .i64 11, .int .i64 (r : Int), .int .i64 (a : Int), .int .i64 (b : Int), .int .i64 n] 73 (0, 0))) := by show (w.heap.push _)[w.heap.size]? = _; exact Array.getElem?_push_size
  have HAL := hideP al
  have hDw := h.low
  obtain ⟨W, hW⟩ : ∃ W, w.alloc (.cells #[.int .i64 11, .int .i64 (r : Int), .int .i64 (a : Int), .int .i64 (b : Int), .int .i64 n] 73) = W := ⟨_, rfl⟩
  rw [hW] at H X HAL
  clear al h
  have x0 := (cells_of X.out).1 0
  have x1 := (cells_of X.out).1 1
  have x2 := (cells_of X.out).1 2
  have x3 := (cells_of X.out).1 3
  have x4 := (cells_of X.out).1 4
  simp at x0 x1 x2 x3 x4
  have hr' : r < g.length := by omega
  have ha' : a < g.length := by omega
  have hb' : b < g.length := by omega
  have lr := H.out.regs.lt
  have lb : L.b < W.heap.size := (Array.getElem?_eq_some_iff.1 H.out.box).1
  obtain ⟨cr, fr⟩ := H.out.regs.at r hr'
  obtain ⟨ca, fa⟩ := H.out.regs.at a ha'
  obtain ⟨cb, fb⟩ := H.out.regs.at b hb'
  have E : wordM ⟨11, r, a, b, n⟩ k s g = (s, g.set r (g[a]), k + 1) := by simp [wordM, regG_at ha']
  rw [E]
  clear E
  have K := hideP (H.out.setReg r (g[a]))
  have KB := hideP (below_but HAL.out ((But.refl L.r W).set r (.int .i64 (g[a]))) hDw H.out.lowR)
  have e16 : (g.length : Int) = 16 := by omega
  have KD := hideP (K.out.stays (Below.refl _ _).drew)
  have KBD := hideP KB.out.drew
  obtain ⟨z, hz⟩ : ∃ z, g[a] = z := ⟨_, rfl⟩
  rw [hz] at ca K KB KD KBD ⊢
  clear hz
  go_enter Tryd.func34, Tryd.ntmps34
  go_wp2_with fail
  go_region
  all_goals go_wp2
  all_goals go_ret
  all_goals exact ⟨rfl, ⟨_, _, _, Nat.le_refl _, KD.out⟩, KBD.out⟩
end Go.Proofs.YtpkfbabgcinhhaaDoor

/- The contract of spec.Bin (cut out of SymS). -/
namespace Go.Proofs.YtpkfbabgcinhhaaDoor
open Go.ChangeShapes Go.WideShapes Go.ChangeAt Go.RowKit
set_option maxHeartbeats 1000000 in
theorem specBin_any (s : ByteArray) (a b : Int) (w : World) :
    Calls Tryd.prog 48 #[.string s, .int .i64 a, .int .i64 b] w fun e w' => e = .returned (.int .i64 (binL s.toList a b)) ∧ w' = w := by
  go_enter Tryd.func48, Tryd.ntmps48
  go_wp2
  all_goals first | (simp_all; done) | skip
  all_goals go_ret
  all_goals refine ⟨ret_int ?_, rfl⟩
  all_goals simp only [binL, *, if_true, if_false, Bool.false_eq_true]
  all_goals first | rfl | (rw [if_pos (by omega)]; done) | (rw [if_neg (by omega)]; done) | skip
end Go.Proofs.YtpkfbabgcinhhaaDoor
