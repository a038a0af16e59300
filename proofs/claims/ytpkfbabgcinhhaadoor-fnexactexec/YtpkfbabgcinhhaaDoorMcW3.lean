/- The contract of spec.l14Word: Lx, Sx (written by wip/mkmcw.py). -/
import Derived.Test.YtpkfbabgcinhhaaDoorCkG
import Derived.Test.YtpkfbabgcinhhaaDoorCkH
import Derived.Deep.RegionWith
namespace Go.Proofs.YtpkfbabgcinhhaaDoor
open Go.ChangeShapes Go.WideShapes Go.ChangeAt Go.RowKit
theorem memD_at {m : List (List Int)} {v : Nat} (hv : v < m.length) : m.getD v [] = m[v] := by rw [List.getD_eq_getElem?_getD, List.getElem?_eq_getElem hv]; rfl
theorem memG_at {m : List (List Int)} {v j : Nat} (hv : v < m.length) (hj : j < m[v].length) : memG m (v : Int) (j : Int) = m[v][j] := by
  unfold memG
  rw [Int.toNat_natCast, Int.toNat_natCast, memD_at hv, List.getD_eq_getElem?_getD, List.getElem?_eq_getElem hj]; rfl
theorem memS_at {m : List (List Int)} {v j : Nat} {z : Int} (hv : v < m.length) : memS m (v : Int) (j : Int) z = m.set v (m[v].set j z) := by
  unfold memS
  rw [Int.toNat_natCast, Int.toNat_natCast, memD_at hv]
set_option maxHeartbeats 8000000 in
set_option maxRecDepth 100000 in
theorem word_4 (L : Lay) (D : Nat) (ui : Option Addr) (ci : Nat) (vo : Value) (w : World) (s : Mch) (g : List Int) (h : MAt L D ui ci vo w s g) (hg : g.length = 16) (r a b : Nat) (n k : Int) (hr : r < 16) (ha : a < 16) (hb : b < 16) (hk : 0 ≤ k ∧ k ≤ 6000) (v : Nat) (hv : v < s.mem.length) (hvl : ∀ l ∈ s.mem, l.length ≤ 1000000) (hcode : s.code = 0) (hn : n = (v : Int)) :
    Calls Tryd.prog 34 #[.pointer (some ⟨L.b, 0, none⟩), .slice (some ⟨L.r, 0, none⟩) 16 L.cr, .agg #[.int .i64 4, .int .i64 (r : Int), .int .i64 (a : Int), .int .i64 (b : Int), .int .i64 n], .int .i64 k] w fun en w' => WordRes L D ci w (wordM ⟨4, r, a, b, n⟩ k s g) en w' := by
  subst hn
  have hm := maxLen_lt
  have al := (Below.refl w.heap.size w).alloc (Nat.le_refl _) (.cells #[.int .i64 4, .int .i64 (r : Int), .int .i64 (a : Int), .int .i64 (b : Int), .int .i64 (v : Int)] 73)
  have H := hideP (h.stays al)
  have X : Hid ((w.alloc (.cells #[.int .i64 4, .int .i64 (r : Int), .int .i64 (a : Int), .int .i64 (b : Int), .int .i64 (v : Int)] 73)).heap[w.heap.size]? = some (.cells #[.int .i64 4, .int .i64 (r : Int), .int .i64 (a : Int), .int .i64 (b : Int), .int .i64 (v : Int)] 73 (0, 0))) := by show (w.heap.push _)[w.heap.size]? = _; exact Array.getElem?_push_size
  have HAL := hideP al
  have hDw := h.low
  obtain ⟨W, hW⟩ : ∃ W, w.alloc (.cells #[.int .i64 4, .int .i64 (r : Int), .int .i64 (a : Int), .int .i64 (b : Int), .int .i64 (v : Int)] 73) = W := ⟨_, rfl⟩
  rw [hW] at H X HAL
  clear al h
  have x0 := (cells_of X.out).1 0
  have x1 := (cells_of X.out).1 1
  have x2 := (cells_of X.out).1 2
  have x3 := (cells_of X.out).1 3
  have x4 := (cells_of X.out).1 4
  simp at x0 x1 x2 x3 x4
  have hr' : r < g.length := by omega
  have ha' : a < g.length := by omega
  have hb' : b < g.length := by omega
  have lr := H.out.regs.lt
  have lb : L.b < W.heap.size := (Array.getElem?_eq_some_iff.1 H.out.box).1
  obtain ⟨cr, fr⟩ := H.out.regs.at r hr'
  obtain ⟨ca, fa⟩ := H.out.regs.at a ha'
  obtain ⟨cb, fb⟩ := H.out.regs.at b hb'
  have hvl2 : s.mem[v].length ≤ 1000000 := hvl _ (List.getElem_mem hv)
  have AT := hideP (at_any (H.out.stays (Below.refl _ _).drew) v hv hvl2 g[a])
  have E : wordM ⟨4, r, a, b, (v : Int)⟩ k s g = if memIn s.mem v g[a] = true then (s, g.set r (memG s.mem v g[a]), k + 1) else ({ s with code := 1 }, g, k) := by simp [wordM, regG_at ha']
  rw [E]
  clear E
  have nwb : L.b ≠ w.heap.size := typ_ne2 H.out.box X.out (by decide)
  have e16 : (g.length : Int) = 16 := by omega
  have hr16 : (r : Int) < 16 := by omega
  have ha16 : (a : Int) < 16 := by omega
  have hv0 : (v : Int) < (s.mem.length : Int) := by omega
  have lwx : w.heap.size < W.heap.size := (Array.getElem?_eq_some_iff.1 X.out).1
  have HMI : Hid (memIn s.mem v g[a] = true → ∃ j : Nat, g[a] = (j : Int) ∧ j < s.mem[v].length) := fun h => by
    unfold memIn at h
    rw [Int.toNat_natCast, List.getD_eq_getElem?_getD, List.getElem?_eq_getElem hv] at h
    have h2 := of_decide_eq_true h
    simp only [Option.getD_some] at h2
    exact ⟨g[a].toNat, by omega, by omega⟩
  obtain ⟨i, hi⟩ : ∃ i, g[a] = i := ⟨_, rfl⟩
  rw [hi] at ca AT HMI ⊢
  obtain ⟨y, hy⟩ : ∃ y, memIn s.mem v i = y := ⟨_, rfl⟩
  rw [hy] at AT HMI ⊢
  clear hi hy
  cases y
  · rw [if_neg (by simp)]
    have AT2 : Hid (Calls Tryd.prog 49 #[.pointer (some ⟨L.b, 0, none⟩), .int .i64 (v : Int), .int .i64 (-1), .int .i64 i] W.drew fun e w' => e = .returned (.int .i64 0) ∧ MAt L D ui ci vo w' { s with code := 1 } g ∧ But L.b W.drew w') := AT.out
    clear AT HMI
    go_enter Tryd.func34, Tryd.ntmps34
    go_wp2_with fail
    go_region_with (go_at_call 49; refine AT2.out.mono ?_; rintro ea wa ⟨rfl, k1, kb⟩; have K1 := hideP k1; have KB := hideP (below_but HAL.out.drew kb hDw H.out.lowB); have y4 := (cells_of k1.box).1 4; simp at y4; clear k1 kb)
    all_goals go_wp2
    all_goals go_ret
    all_goals exact ⟨rfl, ⟨_, _, _, Nat.le_refl _, K1.out⟩, KB.out⟩
  · rw [if_pos rfl]
    obtain ⟨j, rfl, hj⟩ := HMI.out rfl
    have AT2 : Hid (Calls Tryd.prog 49 #[.pointer (some ⟨L.b, 0, none⟩), .int .i64 (v : Int), .int .i64 (-1), .int .i64 (j : Int)] W.drew fun e w' => e = .returned (.int .i64 (j : Int)) ∧ MAt L D ui ci vo w' s g ∧ But L.b W.drew w') := AT.out
    have hj0 : (j : Int) < ((s.mem[v].length : Nat) : Int) := by omega
    clear AT HMI
    have EM : Hid (memG s.mem v (j : Int) = s.mem[v][j]) := memG_at hv hj
    rw [EM.out]
    go_enter Tryd.func34, Tryd.ntmps34
    go_wp2_with fail
    go_region_with (go_at_call 49; refine AT2.out.mono ?_; rintro ea wa ⟨rfl, k1, kb⟩; have K1 := hideP k1; have WX := keepQ (W := W.drew) X.out kb (Ne.symm nwb); have y0 := (cells_of WX).1 0; have y1 := (cells_of WX).1 1; have y4 := (cells_of WX).1 4; have z0 := (cells_of k1.box).1 0; have z4 := (cells_of k1.box).1 4; simp [hcode] at y0 y1 y4 z0 z4; have rw0 := (k1.rows v hv).2; obtain ⟨dj, fj⟩ := (k1.rows v hv).1.at j hj; obtain ⟨yr, yf⟩ := k1.regs.at r hr'; have K2 := hideP ((k1.setReg r s.mem[v][j]).stays (Below.refl _ _).drew); have KB2 := hideP (below_but2 HAL.out.drew kb ((But.refl L.r wa).set r (.int .i64 s.mem[v][j])) hDw H.out.lowB H.out.lowR).drew; clear k1 kb WX)
    all_goals go_wp2_with fail
    all_goals go_region
    all_goals go_wp2
    all_goals go_ret
    all_goals exact ⟨rfl, ⟨_, _, _, Nat.le_refl _, K2.out⟩, KB2.out⟩
set_option maxHeartbeats 8000000 in
set_option maxRecDepth 100000 in
theorem word_5 (L : Lay) (D : Nat) (ui : Option Addr) (ci : Nat) (vo : Value) (w : World) (s : Mch) (g : List Int) (h : MAt L D ui ci vo w s g) (hg : g.length = 16) (r a b : Nat) (n k : Int) (hr : r < 16) (ha : a < 16) (hb : b < 16) (hk : 0 ≤ k ∧ k ≤ 6000) (v : Nat) (hv : v < s.mem.length) (hvl : ∀ l ∈ s.mem, l.length ≤ 1000000) (hcode : s.code = 0) (hn : n = (v : Int)) :
    Calls Tryd.prog 34 #[.pointer (some ⟨L.b, 0, none⟩), .slice (some ⟨L.r, 0, none⟩) 16 L.cr, .agg #[.int .i64 5, .int .i64 (r : Int), .int .i64 (a : Int), .int .i64 (b : Int), .int .i64 n], .int .i64 k] w fun en w' => WordRes L D ci w (wordM ⟨5, r, a, b, n⟩ k s g) en w' := by
  subst hn
  have hm := maxLen_lt
  have al := (Below.refl w.heap.size w).alloc (Nat.le_refl _) (.cells #[.int .i64 5, .int .i64 (r : Int), .int .i64 (a : Int), .int .i64 (b : Int), .int .i64 (v : Int)] 73)
  have H := hideP (h.stays al)
  have X : Hid ((w.alloc (.cells #[.int .i64 5, .int .i64 (r : Int), .int .i64 (a : Int), .int .i64 (b : Int), .int .i64 (v : Int)] 73)).heap[w.heap.size]? = some (.cells #[.int .i64 5, .int .i64 (r : Int), .int .i64 (a : Int), .int .i64 (b : Int), .int .i64 (v : Int)] 73 (0, 0))) := by show (w.heap.push _)[w.heap.size]? = _; exact Array.getElem?_push_size
  have HAL := hideP al
  have hDw := h.low
  obtain ⟨W, hW⟩ : ∃ W, w.alloc (.cells #[.int .i64 5, .int .i64 (r : Int), .int .i64 (a : Int), .int .i64 (b : Int), .int .i64 (v : Int)] 73) = W := ⟨_, rfl⟩
  rw [hW] at H X HAL
  clear al h
  have x0 := (cells_of X.out).1 0
  have x1 := (cells_of X.out).1 1
  have x2 := (cells_of X.out).1 2
  have x3 := (cells_of X.out).1 3
  have x4 := (cells_of X.out).1 4
  simp at x0 x1 x2 x3 x4
  have hr' : r < g.length := by omega
  have ha' : a < g.length := by omega
  have hb' : b < g.length := by omega
  have lr := H.out.regs.lt
  have lb : L.b < W.heap.size := (Array.getElem?_eq_some_iff.1 H.out.box).1
  obtain ⟨cr, fr⟩ := H.out.regs.at r hr'
  obtain ⟨ca, fa⟩ := H.out.regs.at a ha'
  obtain ⟨cb, fb⟩ := H.out.regs.at b hb'
  have hvl2 : s.mem[v].length ≤ 1000000 := hvl _ (List.getElem_mem hv)
  have AT := hideP (at_any (H.out.stays (Below.refl _ _).drew) v hv hvl2 g[a])
  have E : wordM ⟨5, r, a, b, (v : Int)⟩ k s g = if memIn s.mem v g[a] = true then ({ s with mem := memS s.mem v g[a] g[r] }, g, k + 1) else ({ s with code := 1 }, g, k) := by simp [wordM, regG_at ha', regG_at hr']
  rw [E]
  clear E
  have nwb : L.b ≠ w.heap.size := typ_ne2 H.out.box X.out (by decide)
  have e16 : (g.length : Int) = 16 := by omega
  have hr16 : (r : Int) < 16 := by omega
  have ha16 : (a : Int) < 16 := by omega
  have hv0 : (v : Int) < (s.mem.length : Int) := by omega
  have lwx : w.heap.size < W.heap.size := (Array.getElem?_eq_some_iff.1 X.out).1
  have HMI : Hid (memIn s.mem v g[a] = true → ∃ j : Nat, g[a] = (j : Int) ∧ j < s.mem[v].length) := fun h => by
    unfold memIn at h
    rw [Int.toNat_natCast, List.getD_eq_getElem?_getD, List.getElem?_eq_getElem hv] at h
    have h2 := of_decide_eq_true h
    simp only [Option.getD_some] at h2
    exact ⟨g[a].toNat, by omega, by omega⟩
  obtain ⟨i, hi⟩ : ∃ i, g[a] = i := ⟨_, rfl⟩
  rw [hi] at ca AT HMI ⊢
  obtain ⟨y, hy⟩ : ∃ y, memIn s.mem v i = y := ⟨_, rfl⟩
  rw [hy] at AT HMI ⊢
  clear hi hy
  cases y
  · rw [if_neg (by simp)]
    have AT2 : Hid (Calls Tryd.prog 49 #[.pointer (some ⟨L.b, 0, none⟩), .int .i64 (v : Int), .int .i64 (-1), .int .i64 i] W.drew fun e w' => e = .returned (.int .i64 0) ∧ MAt L D ui ci vo w' { s with code := 1 } g ∧ But L.b W.drew w') := AT.out
    clear AT HMI
    go_enter Tryd.func34, Tryd.ntmps34
    go_wp2_with fail
    go_region_with (go_at_call 49; refine AT2.out.mono ?_; rintro ea wa ⟨rfl, k1, kb⟩; have K1 := hideP k1; have KB := hideP (below_but HAL.out.drew kb hDw H.out.lowB); have y4 := (cells_of k1.box).1 4; simp at y4; clear k1 kb)
    all_goals go_wp2
    all_goals go_ret
    all_goals exact ⟨rfl, ⟨_, _, _, Nat.le_refl _, K1.out⟩, KB.out⟩
  · rw [if_pos rfl]
    obtain ⟨j, rfl, hj⟩ := HMI.out rfl
    have AT2 : Hid (Calls Tryd.prog 49 #[.pointer (some ⟨L.b, 0, none⟩), .int .i64 (v : Int), .int .i64 (-1), .int .i64 (j : Int)] W.drew fun e w' => e = .returned (.int .i64 (j : Int)) ∧ MAt L D ui ci vo w' s g ∧ But L.b W.drew w') := AT.out
    have hj0 : (j : Int) < ((s.mem[v].length : Nat) : Int) := by omega
    clear AT HMI
    have EM : Hid (memS s.mem v (j : Int) g[r] = s.mem.set v (s.mem[v].set j g[r])) := memS_at hv
    rw [EM.out]
    go_enter Tryd.func34, Tryd.ntmps34
    go_wp2_with fail
    go_region_with (go_at_call 49; refine AT2.out.mono ?_; rintro ea wa ⟨rfl, k1, kb⟩; have K1 := hideP k1; have WX := keepQ (W := W.drew) X.out kb (Ne.symm nwb); have y0 := (cells_of WX).1 0; have y1 := (cells_of WX).1 1; have y4 := (cells_of WX).1 4; have z0 := (cells_of k1.box).1 0; have z4 := (cells_of k1.box).1 4; simp [hcode] at y0 y1 y4 z0 z4; have rw0 := (k1.rows v hv).2; obtain ⟨dj, fj⟩ := (k1.rows v hv).1.at j hj; obtain ⟨yr, yf⟩ := k1.regs.at r hr'; have K2 := hideP ((k1.setMem v hv j g[r]).stays (Below.refl _ _).drew); have KB2 := hideP (below_but2 HAL.out.drew kb ((But.refl (L.mb v) wa).set j (.int .i64 g[r])) hDw H.out.lowB (H.out.lowI v hv)).drew; clear k1 kb WX)
    all_goals go_wp2_with fail
    all_goals go_region
    all_goals go_wp2
    all_goals go_ret
    all_goals exact ⟨rfl, ⟨_, _, _, Nat.le_refl _, K2.out⟩, KB2.out⟩
end Go.Proofs.YtpkfbabgcinhhaaDoor
