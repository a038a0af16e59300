/- The contract of spec.l14Word: Ld, Sd, Alu (written by wip/mkmcw.py). -/
import Derived.Test.YtpkfbabgcinhhaaDoorCkG
import Derived.Test.YtpkfbabgcinhhaaDoorCkH
namespace Go.Proofs.YtpkfbabgcinhhaaDoor
open Go.ChangeShapes Go.WideShapes Go.ChangeAt Go.RowKit
set_option maxHeartbeats 8000000 in
set_option maxRecDepth 100000 in
theorem word_1 (L : Lay) (D : Nat) (ui : Option Addr) (ci : Nat) (vo : Value) (w : World) (s : Mch) (g : List Int) (h : MAt L D ui ci vo w s g) (hg : g.length = 16) (r a b : Nat) (n k : Int) (hr : r < 16) (ha : a < 16) (hb : b < 16) (hk : 0 ≤ k ∧ k ≤ 6000) (v : Nat) (hv : v < s.vars.length) (hn : n = (v : Int)) :
    Calls Tryd.prog 34 #[.pointer (some ⟨L.b, 0, none⟩), .slice (some ⟨L.r, 0, none⟩) 16 L.cr, .agg #[.int .i64 1, .int .i64 (r : Int), .int .i64 (a : Int), .int .i64 (b : Int), .int .i64 n], .int .i64 k] w fun en w' => WordRes L D ci w (wordM ⟨1, r, a, b, n⟩ k s g) en w' := by
  subst hn
  have hm := maxLen_lt
  have al := (Below.refl w.heap.size w).alloc (Nat.le_refl _) (.cells #[.int .i64 1, .int .i64 (r : Int), .int .i64 (a : Int), .int .i64 (b : Int), .int .i64 (v : Int)] 73)
  have H := hideP (h.stays al)
  have X : Hid ((w.alloc (.cells #[.int .i64 1, .int .i64 (r : Int), .int .i64 (a : Int), .int .i64 (b : Int), .int .i64 (v : Int)] 73)).heap[w.heap.size]? = some (.cells #[.int .i64 1, .int .i64 (r : Int), .int .i64 (a : Int), .int .i64 (b : Int), .int .i64 (v : Int)] 73 (0, 0))) := by show (w.heap.push _)[w.heap.size]? = _; exact Array.getElem?_push_size
  have HAL := hideP al
  have hDw := h.low
  obtain ⟨W, hW⟩ : ∃ W, w.alloc (.cells #[.int .i64 1, .int .i64 (r : Int), .int .i64 (a : Int), .int .i64 (b : Int), .int .i64 (v : Int)] 73) = W := ⟨_, rfl⟩
  rw [hW] at H X HAL
  clear al h
  have x0 := (cells_of X.out).1 0
  have x1 := (cells_of X.out).1 1
  have x2 := (cells_of X.out).1 2
  have x3 := (cells_of X.out).1 3
  have x4 := (cells_of X.out).1 4
  simp at x0 x1 x2 x3 x4
  have hr' : r < g.length := by omega
  have ha' : a < g.length := by omega
  have hb' : b < g.length := by omega
  have lr := H.out.regs.lt
  have lb : L.b < W.heap.size := (Array.getElem?_eq_some_iff.1 H.out.box).1
  obtain ⟨cr, fr⟩ := H.out.regs.at r hr'
  obtain ⟨ca, fa⟩ := H.out.regs.at a ha'
  obtain ⟨cb, fb⟩ := H.out.regs.at b hb'
  obtain ⟨cv, fv⟩ := H.out.vars.at v hv
  have bx1 := (cells_of H.out.box).1 1
  have bxf := (cells_of H.out.box).2
  simp at bx1 bxf
  have lv := H.out.vars.lt
  have hvi : (v : Int) < (s.vars.length : Int) := by omega
  obtain ⟨nv, hnv⟩ : ∃ m, s.vars.length = m := ⟨_, rfl⟩
  rw [hnv] at bx1 hvi
  have E : wordM ⟨1, r, a, b, (v : Int)⟩ k s g = (s, g.set r (s.vars[v]), k + 1) := by simp [wordM, regG_at hv]
  rw [E]
  clear E
  have K := hideP (H.out.setReg r (s.vars[v]))
  have KB := hideP (below_but HAL.out ((But.refl L.r W).set r (.int .i64 (s.vars[v]))) hDw H.out.lowR)
  have e16 : (g.length : Int) = 16 := by omega
  have KD := hideP (K.out.stays (Below.refl _ _).drew)
  have KBD := hideP KB.out.drew
  obtain ⟨z, hz⟩ : ∃ z, s.vars[v] = z := ⟨_, rfl⟩
  rw [hz] at cv K KB KD KBD ⊢
  clear hz hnv
  go_enter Tryd.func34, Tryd.ntmps34
  go_wp2_with fail
  go_region
  all_goals go_wp2
  all_goals go_ret
  all_goals exact ⟨rfl, ⟨_, _, _, Nat.le_refl _, KD.out⟩, KBD.out⟩
set_option maxHeartbeats 8000000 in
set_option maxRecDepth 100000 in
theorem word_2 (L : Lay) (D : Nat) (ui : Option Addr) (ci : Nat) (vo : Value) (w : World) (s : Mch) (g : List Int) (h : MAt L D ui ci vo w s g) (hg : g.length = 16) (r a b : Nat) (n k : Int) (hr : r < 16) (ha : a < 16) (hb : b < 16) (hk : 0 ≤ k ∧ k ≤ 6000) (v : Nat) (hv : v < s.vars.length) (hn : n = (v : Int)) :
    Calls Tryd.prog 34 #[.pointer (some ⟨L.b, 0, none⟩), .slice (some ⟨L.r, 0, none⟩) 16 L.cr, .agg #[.int .i64 2, .int .i64 (r : Int), .int .i64 (a : Int), .int .i64 (b : Int), .int .i64 n], .int .i64 k] w fun en w' => WordRes L D ci w (wordM ⟨2, r, a, b, n⟩ k s g) en w' := by
  subst hn
  have hm := maxLen_lt
  have al := (Below.refl w.heap.size w).alloc (Nat.le_refl _) (.cells #[.int .i64 2, .int .i64 (r : Int), .int .i64 (a : Int), .int .i64 (b : Int), .int .i64 (v : Int)] 73)
  have H := hideP (h.stays al)
  have X : Hid ((w.alloc (.cells #[.int .i64 2, .int .i64 (r : Int), .int .i64 (a : Int), .int .i64 (b : Int), .int .i64 (v : Int)] 73)).heap[w.heap.size]? = some (.cells #[.int .i64 2, .int .i64 (r : Int), .int .i64 (a : Int), .int .i64 (b : Int), .int .i64 (v : Int)] 73 (0, 0))) := by show (w.heap.push _)[w.heap.size]? = _; exact Array.getElem?_push_size
  have HAL := hideP al
  have hDw := h.low
  obtain ⟨W, hW⟩ : ∃ W, w.alloc (.cells #[.int .i64 2, .int .i64 (r : Int), .int .i64 (a : Int), .int .i64 (b : Int), .int .i64 (v : Int)] 73) = W := ⟨_, rfl⟩
  rw [hW] at H X HAL
  clear al h
  have x0 := (cells_of X.out).1 0
  have x1 := (cells_of X.out).1 1
  have x2 := (cells_of X.out).1 2
  have x3 := (cells_of X.out).1 3
  have x4 := (cells_of X.out).1 4
  simp at x0 x1 x2 x3 x4
  have hr' : r < g.length := by omega
  have ha' : a < g.length := by omega
  have hb' : b < g.length := by omega
  have lr := H.out.regs.lt
  have lb : L.b < W.heap.size := (Array.getElem?_eq_some_iff.1 H.out.box).1
  obtain ⟨cr, fr⟩ := H.out.regs.at r hr'
  obtain ⟨ca, fa⟩ := H.out.regs.at a ha'
  obtain ⟨cb, fb⟩ := H.out.regs.at b hb'
  obtain ⟨cv, fv⟩ := H.out.vars.at v hv
  have bx1 := (cells_of H.out.box).1 1
  have bxf := (cells_of H.out.box).2
  simp at bx1 bxf
  have lv := H.out.vars.lt
  have hvi : (v : Int) < (s.vars.length : Int) := by omega
  obtain ⟨nv, hnv⟩ : ∃ m, s.vars.length = m := ⟨_, rfl⟩
  rw [hnv] at bx1 hvi
  have E : wordM ⟨2, r, a, b, (v : Int)⟩ k s g = ({ s with vars := s.vars.set v g[r] }, g, k + 1) := by simp [wordM, regG_at hr']
  rw [E]
  clear E
  have K := hideP (H.out.setVar v g[r])
  have KB := hideP (below_but HAL.out ((But.refl L.v W).set v (.int .i64 g[r])) hDw H.out.lowV)
  have KD := hideP (K.out.stays (Below.refl _ _).drew)
  have KBD := hideP KB.out.drew
  have e16 : (g.length : Int) = 16 := by omega
  obtain ⟨z, hz⟩ : ∃ z, g[r] = z := ⟨_, rfl⟩
  rw [hz] at cr K KB KD KBD ⊢
  clear hz hnv
  go_enter Tryd.func34, Tryd.ntmps34
  go_wp2_with fail
  go_region
  all_goals go_wp2
  all_goals go_ret
  all_goals exact ⟨rfl, ⟨_, _, _, Nat.le_refl _, KD.out⟩, KBD.out⟩
set_option maxHeartbeats 8000000 in
set_option maxRecDepth 100000 in
theorem word_10 (L : Lay) (D : Nat) (ui : Option Addr) (ci : Nat) (vo : Value) (w : World) (s : Mch) (g : List Int) (h : MAt L D ui ci vo w s g) (hg : g.length = 16) (r a b : Nat) (n k : Int) (hr : r < 16) (ha : a < 16) (hb : b < 16) (hk : 0 ≤ k ∧ k ≤ 6000) :
    Calls Tryd.prog 34 #[.pointer (some ⟨L.b, 0, none⟩), .slice (some ⟨L.r, 0, none⟩) 16 L.cr, .agg #[.int .i64 10, .int .i64 (r : Int), .int .i64 (a : Int), .int .i64 (b : Int), .int .i64 n], .int .i64 k] w fun en w' => WordRes L D ci w (wordM ⟨10, r, a, b, n⟩ k s g) en w' := by
  have hm := maxLen_lt
  have al := (Below.refl w.heap.size w).alloc (Nat.le_refl _) (.cells #[.int .i64 10, .int .i64 (r : Int), .int .i64 (a : Int), .int .i64 (b : Int), .int .i64 n] 73)
  have H := hideP (h.stays al)
  have X : Hid ((w.alloc (.cells #[.int .i64 10, .int .i64 (r : Int), .int .i64 (a : Int), .int .i64 (b : Int), .int .i64 n] 73)).heap[w.heap.size]? = some (.cells #[.int .i64 10, .int .i64 (r : Int), .int .i64 (a : Int), .int .i64 (b : Int), .int .i64 n] 73 (0, 0))) := by show (w.heap.push _)[w.heap.size]? = _; exact Array.getElem?_push_size
  have HAL := hideP al
  have hDw := h.low
  obtain ⟨W, hW⟩ : ∃ W, w.alloc (.cells #[.int .i64 10, .int .i64 (r : Int), .int .i64 (a : Int), .int .i64 (b : Int), .int .i64 n] 73) = W := ⟨_, rfl⟩
  rw [hW] at H X HAL
  clear al h
  have x0 := (cells_of X.out).1 0
  have x1 := (cells_of X.out).1 1
  have x2 := (cells_of X.out).1 2
  have x3 := (cells_of X.out).1 3
  have x4 := (cells_of X.out).1 4
  simp at x0 x1 x2 x3 x4
  have hr' : r < g.length := by omega
  have ha' : a < g.length := by omega
  have hb' : b < g.length := by omega
  have lr := H.out.regs.lt
  have lb : L.b < W.heap.size := (Array.getElem?_eq_some_iff.1 H.out.box).1
  obtain ⟨cr, fr⟩ := H.out.regs.at r hr'
  obtain ⟨ca, fa⟩ := H.out.regs.at a ha'
  obtain ⟨cb, fb⟩ := H.out.regs.at b hb'
  have E : wordM ⟨10, r, a, b, n⟩ k s g = ({ s with over := true, val := g[r] }, g, k + 1) := by simp [wordM, regG_at hr']
  rw [E]
  clear E
  have bx5 := (cells_of H.out.box).1 5
  have bx6 := (cells_of H.out.box).1 6
  have bxf := (cells_of H.out.box).2
  simp at bx5 bx6 bxf
  have k2 := ((But.refl L.b W).set 5 (.bool true)).set 6 (.int .i64 g[r])
  have K : Hid (MAt L D ui ci vo ((W.setCell ⟨L.b, 5, none⟩ (.bool true)).setCell ⟨L.b, 6, none⟩ (.int .i64 g[r])) { s with over := true, val := g[r] } g) := H.out.setBox k2 rfl rfl rfl (by rw [box_set (box_set H.out.box 5 (.bool true))]; simp) H.out.inp H.out.icap
  have KB := hideP (below_but HAL.out k2 hDw H.out.lowB)
  have nrb : L.r ≠ L.b := H.out.regs.ne H.out.box (by decide)
  have nrb2 : ¬ L.b = L.r := fun e => nrb e.symm
  have nwb : ¬ L.b = w.heap.size := fun e => typ_ne2 H.out.box X.out (by decide) e
  have nwb2 : ¬ w.heap.size = L.b := fun e => nwb e.symm
  have e16 : (g.length : Int) = 16 := by omega
  obtain ⟨z, hz⟩ : ∃ z, g[r] = z := ⟨_, rfl⟩
  rw [hz] at cr K KB ⊢
  clear hz k2
  go_enter Tryd.func34, Tryd.ntmps34
  go_wp2
  go_ret
  exact ⟨rfl, ⟨_, _, _, Nat.le_refl _, K.out⟩, KB.out⟩
end Go.Proofs.YtpkfbabgcinhhaaDoor
