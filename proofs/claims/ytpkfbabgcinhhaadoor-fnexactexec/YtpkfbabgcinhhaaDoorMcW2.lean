/- The contract of spec.l14Word: Alu, In (written by wip/mkmcw.py). -/
import Derived.Test.YtpkfbabgcinhhaaDoorCkG
import Derived.Test.YtpkfbabgcinhhaaDoorCkH
import Derived.Deep.RegionWith
import Derived.Conc.WalkWords
namespace Go.Proofs.YtpkfbabgcinhhaaDoor
open Go.ChangeShapes Go.WideShapes Go.ChangeAt Go.RowKit
/-- The cells of a word's box. -/
def SW3 (wh r a b v : Nat) (W : World) : Prop := W.cell? ⟨wh, 1, none⟩ = some (.int .i64 (r : Int)) ∧ W.cell? ⟨wh, 2, none⟩ = some (.int .i64 (a : Int)) ∧ W.cell? ⟨wh, 3, none⟩ = some (.int .i64 (b : Int)) ∧ W.cell? ⟨wh, 4, none⟩ = some (.int .i64 (v : Int))
theorem sgn_at {w : World} {g : Nat} (h : w.heap[g]? = some (.cells #[.string ⟨#[43]⟩, .string ⟨#[45]⟩, .string ⟨#[42]⟩, .string ⟨#[38]⟩, .string ⟨#[61, 61]⟩, .string ⟨#[60]⟩] 9 (0, 0))) : ∀ (v : Nat), v < 6 → ∃ t : ByteArray, w.cell? ⟨g, v, none⟩ = some (.string t) ∧ t.toList = aluS v
  | 0, _ => ⟨_, ((cells_of h).1 0).trans rfl, by rw [Lib.toList_data]; rfl⟩
  | 1, _ => ⟨_, ((cells_of h).1 1).trans rfl, by rw [Lib.toList_data]; rfl⟩
  | 2, _ => ⟨_, ((cells_of h).1 2).trans rfl, by rw [Lib.toList_data]; rfl⟩
  | 3, _ => ⟨_, ((cells_of h).1 3).trans rfl, by rw [Lib.toList_data]; rfl⟩
  | 4, _ => ⟨_, ((cells_of h).1 4).trans rfl, by rw [Lib.toList_data]; rfl⟩
  | 5, _ => ⟨_, ((cells_of h).1 5).trans rfl, by rw [Lib.toList_data]; rfl⟩
  | v + 6, h => by omega
set_option maxHeartbeats 8000000 in
set_option maxRecDepth 100000 in
theorem word_6 (L : Lay) (D : Nat) (ui : Option Addr) (ci : Nat) (vo : Value) (w : World) (s : Mch) (g : List Int) (h : MAt L D ui ci vo w s g) (hg : g.length = 16) (r a b : Nat) (n k : Int) (hr : r < 16) (ha : a < 16) (hb : b < 16) (hk : 0 ≤ k ∧ k ≤ 6000) (hci : ci ≤ maxLen) :
    Calls Tryd.prog 34 #[.pointer (some ⟨L.b, 0, none⟩), .slice (some ⟨L.r, 0, none⟩) 16 L.cr, .agg #[.int .i64 6, .int .i64 (r : Int), .int .i64 (a : Int), .int .i64 (b : Int), .int .i64 n], .int .i64 k] w fun en w' => WordRes L D ci w (wordM ⟨6, r, a, b, n⟩ k s g) en w' := by
  have hm := maxLen_lt
  have al := (Below.refl w.heap.size w).alloc (Nat.le_refl _) (.cells #[.int .i64 6, .int .i64 (r : Int), .int .i64 (a : Int), .int .i64 (b : Int), .int .i64 n] 73)
  have H := hideP (h.stays al)
  have X : Hid ((w.alloc (.cells #[.int .i64 6, .int .i64 (r : Int), .int .i64 (a : Int), .int .i64 (b : Int), .int .i64 n] 73)).heap[w.heap.size]? = some (.cells #[.int .i64 6, .int .i64 (r : Int), .int .i64 (a : Int), .int .i64 (b : Int), .int .i64 n] 73 (0, 0))) := by show (w.heap.push _)[w.heap.size]? = _; exact Array.getElem?_push_size
  have HAL := hideP al
  have hDw := h.low
  obtain ⟨W, hW⟩ : ∃ W, w.alloc (.cells #[.int .i64 6, .int .i64 (r : Int), .int .i64 (a : Int), .int .i64 (b : Int), .int .i64 n] 73) = W := ⟨_, rfl⟩
  rw [hW] at H X HAL
  clear al h
  have x0 := (cells_of X.out).1 0
  have x1 := (cells_of X.out).1 1
  have x2 := (cells_of X.out).1 2
  have x3 := (cells_of X.out).1 3
  have x4 := (cells_of X.out).1 4
  simp at x0 x1 x2 x3 x4
  have hr' : r < g.length := by omega
  have ha' : a < g.length := by omega
  have hb' : b < g.length := by omega
  have lr := H.out.regs.lt
  have lb : L.b < W.heap.size := (Array.getElem?_eq_some_iff.1 H.out.box).1
  obtain ⟨cr, fr⟩ := H.out.regs.at r hr'
  obtain ⟨ca, fa⟩ := H.out.regs.at a ha'
  obtain ⟨cb, fb⟩ := H.out.regs.at b hb'
  have E : wordM ⟨6, r, a, b, n⟩ k s g = ({ s with input := s.input.tail }, g.set r (getV s.input), k + 1) := by simp [wordM]
  rw [E]
  clear E
  have GA := hideP (get_any (H.out.stays (Below.refl _ _).drew) hci)
  have nwb : L.b ≠ w.heap.size := typ_ne2 H.out.box X.out (by decide)
  have nrb : L.r ≠ L.b := H.out.regs.ne H.out.box (by decide)
  have e16 : (g.length : Int) = 16 := by omega
  have lwx : w.heap.size < W.heap.size := (Array.getElem?_eq_some_iff.1 X.out).1
  obtain ⟨z, hz⟩ : ∃ z, getV s.input = z := ⟨_, rfl⟩
  rw [hz] at GA ⊢
  clear hz
  go_enter Tryd.func34, Tryd.ntmps34
  go_wp2_with fail
  go_region_with (go_at_call 50; refine GA.out.mono ?_; rintro ea wa ⟨rfl, ⟨ui', ci', hci', K1⟩, kb⟩; have HK1 := hideP K1; have KB := hideP kb; have y1 := (cells_of (keepQ (W := W.drew) X.out kb (Ne.symm nwb))).1 1; simp at y1; obtain ⟨yr, yf⟩ := K1.regs.at r hr'; have K2 := hideP (K1.setReg r z); have KB2 := hideP (below_but2 HAL.out.drew kb ((But.refl L.r wa).set r (.int .i64 z)) hDw H.out.lowB H.out.lowR); clear K1 kb)
  all_goals go_wp2
  all_goals go_ret
  all_goals exact ⟨rfl, ⟨_, _, _, hci', K2.out⟩, KB2.out⟩
set_option maxHeartbeats 8000000 in
set_option maxRecDepth 100000 in
theorem word_3 (L : Lay) (D : Nat) (ui : Option Addr) (ci : Nat) (vo : Value) (w : World) (s : Mch) (g : List Int) (h : MAt L D ui ci vo w s g) (hg : g.length = 16) (r a b : Nat) (n k : Int) (hr : r < 16) (ha : a < 16) (hb : b < 16) (hk : 0 ≤ k ∧ k ≤ 6000) (v : Nat) (hv : v < 6) (hn : n = (v : Int)) :
    Calls Tryd.prog 34 #[.pointer (some ⟨L.b, 0, none⟩), .slice (some ⟨L.r, 0, none⟩) 16 L.cr, .agg #[.int .i64 3, .int .i64 (r : Int), .int .i64 (a : Int), .int .i64 (b : Int), .int .i64 n], .int .i64 k] w fun en w' => WordRes L D ci w (wordM ⟨3, r, a, b, n⟩ k s g) en w' := by
  subst hn
  have hm := maxLen_lt
  have al := (Below.refl w.heap.size w).alloc (Nat.le_refl _) (.cells #[.int .i64 3, .int .i64 (r : Int), .int .i64 (a : Int), .int .i64 (b : Int), .int .i64 (v : Int)] 73)
  have H := hideP (h.stays al)
  have X : Hid ((w.alloc (.cells #[.int .i64 3, .int .i64 (r : Int), .int .i64 (a : Int), .int .i64 (b : Int), .int .i64 (v : Int)] 73)).heap[w.heap.size]? = some (.cells #[.int .i64 3, .int .i64 (r : Int), .int .i64 (a : Int), .int .i64 (b : Int), .int .i64 (v : Int)] 73 (0, 0))) := by show (w.heap.push _)[w.heap.size]? = _; exact Array.getElem?_push_size
  have HAL := hideP al
  have hDw := h.low
  obtain ⟨W, hW⟩ : ∃ W, w.alloc (.cells #[.int .i64 3, .int .i64 (r : Int), .int .i64 (a : Int), .int .i64 (b : Int), .int .i64 (v : Int)] 73) = W := ⟨_, rfl⟩
  rw [hW] at H X HAL
  clear al h
  have x0 := (cells_of X.out).1 0
  have x1 := (cells_of X.out).1 1
  have x2 := (cells_of X.out).1 2
  have x3 := (cells_of X.out).1 3
  have x4 := (cells_of X.out).1 4
  simp at x0 x1 x2 x3 x4
  have hr' : r < g.length := by omega
  have ha' : a < g.length := by omega
  have hb' : b < g.length := by omega
  have lr := H.out.regs.lt
  have lb : L.b < W.heap.size := (Array.getElem?_eq_some_iff.1 H.out.box).1
  obtain ⟨cr, fr⟩ := H.out.regs.at r hr'
  obtain ⟨ca, fa⟩ := H.out.regs.at a ha'
  obtain ⟨cb, fb⟩ := H.out.regs.at b hb'
  have E : wordM ⟨3, r, a, b, (v : Int)⟩ k s g = (s, g.set r (binL (aluS v) g[a] g[b]), k + 1) := by simp [wordM, regG_at ha', regG_at hb']
  rw [E]
  clear E
  have al2 := (Below.refl W.heap.size W).drew.alloc (Nat.le_refl _) (.cells #[.string ⟨#[43]⟩, .string ⟨#[45]⟩, .string ⟨#[42]⟩, .string ⟨#[38]⟩, .string ⟨#[61, 61]⟩, .string ⟨#[60]⟩] 9)
  obtain ⟨t, ct, ht⟩ := sgn_at (show (W.drew.alloc (.cells #[.string ⟨#[43]⟩, .string ⟨#[45]⟩, .string ⟨#[42]⟩, .string ⟨#[38]⟩, .string ⟨#[61, 61]⟩, .string ⟨#[60]⟩] 9)).heap[W.heap.size]? = some (.cells #[.string ⟨#[43]⟩, .string ⟨#[45]⟩, .string ⟨#[42]⟩, .string ⟨#[38]⟩, .string ⟨#[61, 61]⟩, .string ⟨#[60]⟩] 9 (0, 0)) by show (W.drew.heap.push _)[W.drew.heap.size]? = _; exact Array.getElem?_push_size) v hv
  have BI : Hid (∀ W', Calls Tryd.prog 48 #[.string t, .int .i64 g[a], .int .i64 g[b]] W' fun e w' => e = .returned (.int .i64 (binL (aluS v) g[a] g[b])) ∧ w' = W') := fun W' => by rw [← ht]; exact specBin_any t g[a] g[b] W'
  obtain ⟨z, hz⟩ : ∃ z, binL (aluS v) g[a] g[b] = z := ⟨_, rfl⟩
  rw [hz] at BI ⊢
  have K1 := H.out.stays al2
  have K2 := hideP (K1.setReg r z)
  have KB2 := hideP (below_but (HAL.out.trans (al2.mono HAL.out.size)) ((But.refl L.r (W.drew.alloc (.cells #[.string ⟨#[43]⟩, .string ⟨#[45]⟩, .string ⟨#[42]⟩, .string ⟨#[38]⟩, .string ⟨#[61, 61]⟩, .string ⟨#[60]⟩] 9))).set r (.int .i64 z)) hDw H.out.lowR)
  have e16 : (g.length : Int) = 16 := by omega
  have hv6 : (v : Int) < 6 := by omega
  have lwx : w.heap.size < W.heap.size := (Array.getElem?_eq_some_iff.1 X.out).1
  have lwx2 : w.heap.size < W.heap.size + 1 := by omega
  have lr2 : L.r < W.heap.size + 1 := by omega
  obtain ⟨ga, hga⟩ : ∃ z, g[a] = z := ⟨_, rfl⟩
  obtain ⟨gb, hgb⟩ : ∃ z, g[b] = z := ⟨_, rfl⟩
  rw [hga] at ca BI
  rw [hgb] at cb BI
  have H2 := K1
  have nwr : w.heap.size ≠ L.r := fun e => H.out.regs.ne X.out (by decide) e.symm
  clear K1
  have SD : Hid (SW3 w.heap.size r a b v W.drew) := ⟨x1, x2, x3, x4⟩
  have hwdef : W.drew.alloc (.cells #[.string ⟨#[43]⟩, .string ⟨#[45]⟩, .string ⟨#[42]⟩, .string ⟨#[38]⟩, .string ⟨#[61, 61]⟩, .string ⟨#[60]⟩] 9) = W.drew.alloc (.cells #[.string ⟨#[43]⟩, .string ⟨#[45]⟩, .string ⟨#[42]⟩, .string ⟨#[38]⟩, .string ⟨#[61, 61]⟩, .string ⟨#[60]⟩] 9) := rfl
  obtain ⟨WA, hWA⟩ : ∃ X, W.drew.alloc (.cells #[.string ⟨#[43]⟩, .string ⟨#[45]⟩, .string ⟨#[42]⟩, .string ⟨#[38]⟩, .string ⟨#[61, 61]⟩, .string ⟨#[60]⟩] 9) = X := ⟨_, rfl⟩
  rw [hWA] at ct K2 KB2 H2
  have SA : Hid (SW3 w.heap.size r a b v WA) := by
    have b2 : Below W.heap.size W WA := by rw [← hWA]; exact (Below.refl W.heap.size W).drew.alloc (Nat.le_refl _) (.cells #[.string ⟨#[43]⟩, .string ⟨#[45]⟩, .string ⟨#[42]⟩, .string ⟨#[38]⟩, .string ⟨#[61, 61]⟩, .string ⟨#[60]⟩] 9)
    have c := fun o => b2.cell (p := ⟨w.heap.size, o, none⟩) lwx
    exact ⟨(c 1).trans x1, (c 2).trans x2, (c 3).trans x3, (c 4).trans x4⟩
  obtain ⟨caA, faA⟩ := H2.regs.at a ha'
  obtain ⟨cbA, fbA⟩ := H2.regs.at b hb'
  obtain ⟨crA, frA⟩ := H2.regs.at r hr'
  rw [hga] at caA
  rw [hgb] at cbA
  have SZ : Hid (SW3 w.heap.size r a b v (WA.setCell ⟨L.r, r, none⟩ (.int .i64 z))) := by
    have kb := (But.refl L.r WA).set r (.int .i64 z)
    have hl : w.heap.size < WA.heap.size := by rw [← hWA]; simp; omega
    have c := fun o => kb.cell (i := o) hl nwr
    obtain ⟨s1, s2, s3, s4⟩ := SA.out
    exact ⟨(c 1).trans s1, (c 2).trans s2, (c 3).trans s3, (c 4).trans s4⟩
  clear hz hga hgb al2 ht hwdef
  go_enter Tryd.func34, Tryd.ntmps34
  go_wp2_with fail
  refine wp_region_held_drew (S := SW3 w.heap.size r a b v) (by kernel_rfl) SD.out (fun hHeld => ?_)
  refine wpAnyH_take (i := 0) (v := (.slice (some ⟨L.r, 0, none⟩) 16 L.cr)) rfl (by kernel_rfl) (by kernel_rfl) (by kernel_rfl) (fun _ _ _ h => h) (Or.inl ⟨by rfl, ?_⟩) hHeld ?_
  · (intro w hSw; obtain ⟨q1, q2, q3, q4⟩ := hSw; go_simp; try (intro hx; exfalso; omega))
  walk_nrm
  refine wpAnyH_take (i := 1) (v := (.pointer (some ⟨w.heap.size, 1, none⟩))) rfl (by kernel_rfl) (by kernel_rfl) (by kernel_rfl) (fun _ _ _ h => h) (Or.inl ⟨by rfl, ?_⟩) hHeld ?_
  · (intro w hSw; obtain ⟨q1, q2, q3, q4⟩ := hSw; go_simp; try (intro hx; exfalso; omega))
  walk_nrm
  refine wpAnyH_take (i := 2) (v := (.int .i64 (r : Int))) rfl (by kernel_rfl) (by kernel_rfl) (by kernel_rfl) (fun _ _ _ h => h) (Or.inl ⟨by rfl, ?_⟩) hHeld ?_
  · (intro w hSw; obtain ⟨q1, q2, q3, q4⟩ := hSw; go_simp; try (intro hx; exfalso; omega))
  walk_nrm
  refine wpAnyH_take (i := 4) (v := (.pointer (some ⟨w.heap.size, 4, none⟩))) rfl (by kernel_rfl) (by kernel_rfl) (by kernel_rfl) (fun _ _ _ h => h) (Or.inl ⟨by rfl, ?_⟩) hHeld ?_
  · (intro w hSw; obtain ⟨q1, q2, q3, q4⟩ := hSw; go_simp; try (intro hx; exfalso; omega))
  walk_nrm
  refine wpAnyH_take (i := 5) (v := (.int .i64 (v : Int))) rfl (by kernel_rfl) (by kernel_rfl) (by kernel_rfl) (fun _ _ _ h => h) (Or.inl ⟨by rfl, ?_⟩) hHeld ?_
  · (intro w hSw; obtain ⟨q1, q2, q3, q4⟩ := hSw; go_simp; try (intro hx; exfalso; omega))
  walk_nrm
  refine wpAnyH_take (i := 8) (v := (.slice (some ⟨L.r, 0, none⟩) 16 L.cr)) rfl (by kernel_rfl) (by kernel_rfl) (by kernel_rfl) (fun _ _ _ h => h) (Or.inl ⟨by rfl, ?_⟩) hHeld ?_
  · (intro w hSw; obtain ⟨q1, q2, q3, q4⟩ := hSw; go_simp; try (intro hx; exfalso; omega))
  walk_nrm
  refine wpAnyH_take (i := 9) (v := (.pointer (some ⟨w.heap.size, 2, none⟩))) rfl (by kernel_rfl) (by kernel_rfl) (by kernel_rfl) (fun _ _ _ h => h) (Or.inl ⟨by rfl, ?_⟩) hHeld ?_
  · (intro w hSw; obtain ⟨q1, q2, q3, q4⟩ := hSw; go_simp; try (intro hx; exfalso; omega))
  walk_nrm
  refine wpAnyH_take (i := 10) (v := (.int .i64 (a : Int))) rfl (by kernel_rfl) (by kernel_rfl) (by kernel_rfl) (fun _ _ _ h => h) (Or.inl ⟨by rfl, ?_⟩) hHeld ?_
  · (intro w hSw; obtain ⟨q1, q2, q3, q4⟩ := hSw; go_simp; try (intro hx; exfalso; omega))
  walk_nrm
  refine wpAnyH_take (i := 11) (v := (.pointer (some ⟨L.r, a, none⟩))) rfl (by kernel_rfl) (by kernel_rfl) (by kernel_rfl) (fun _ _ _ h => h) (Or.inl ⟨by rfl, ?_⟩) hHeld ?_
  · (intro w hSw; obtain ⟨q1, q2, q3, q4⟩ := hSw; go_simp; try (intro hx; exfalso; omega))
  walk_nrm
  refine wpAnyH_take (i := 13) (v := (.slice (some ⟨L.r, 0, none⟩) 16 L.cr)) rfl (by kernel_rfl) (by kernel_rfl) (by kernel_rfl) (fun _ _ _ h => h) (Or.inl ⟨by rfl, ?_⟩) hHeld ?_
  · (intro w hSw; obtain ⟨q1, q2, q3, q4⟩ := hSw; go_simp; try (intro hx; exfalso; omega))
  walk_nrm
  refine wpAnyH_take (i := 14) (v := (.pointer (some ⟨w.heap.size, 3, none⟩))) rfl (by kernel_rfl) (by kernel_rfl) (by kernel_rfl) (fun _ _ _ h => h) (Or.inl ⟨by rfl, ?_⟩) hHeld ?_
  · (intro w hSw; obtain ⟨q1, q2, q3, q4⟩ := hSw; go_simp; try (intro hx; exfalso; omega))
  walk_nrm
  refine wpAnyH_take (i := 15) (v := (.int .i64 (b : Int))) rfl (by kernel_rfl) (by kernel_rfl) (by kernel_rfl) (fun _ _ _ h => h) (Or.inl ⟨by rfl, ?_⟩) hHeld ?_
  · (intro w hSw; obtain ⟨q1, q2, q3, q4⟩ := hSw; go_simp; try (intro hx; exfalso; omega))
  walk_nrm
  refine wpAnyH_take (i := 16) (v := (.pointer (some ⟨L.r, b, none⟩))) rfl (by kernel_rfl) (by kernel_rfl) (by kernel_rfl) (fun _ _ _ h => h) (Or.inl ⟨by rfl, ?_⟩) hHeld ?_
  · (intro w hSw; obtain ⟨q1, q2, q3, q4⟩ := hSw; go_simp; try (intro hx; exfalso; omega))
  walk_nrm
  refine wpAnyH_ready (rs := [3, 12, 17]) (by kernel_rfl) (by simp) ?_
  refine AllReadyH.cons rfl (fun K hK => ?_) (AllReadyH.cons rfl (fun K hK => ?_) (AllReadyH.cons rfl (fun K hK => ?_) (AllReadyH.nil)))
  · go_simp
    first | refine hK.out _ _ SA.out (fun hHeld => ?_)
    clear hK K
    refine wpAnyH_take (i := 6) (v := (.pointer (some ⟨W.heap.size, v, none⟩))) rfl (by kernel_rfl) (by kernel_rfl) (by kernel_rfl) (fun _ _ _ h => h) (Or.inl ⟨by rfl, ?_⟩) hHeld ?_
    · (intro w hSw; obtain ⟨q1, q2, q3, q4⟩ := hSw; go_simp; try (intro hx; exfalso; omega))
    walk_nrm
    refine wpAnyH_ready (rs := [7, 12, 17]) (by kernel_rfl) (by simp) ?_
    refine AllReadyH.cons rfl (fun K hK => ?_) (AllReadyH.cons rfl (fun K hK => ?_) (AllReadyH.cons rfl (fun K hK => ?_) (AllReadyH.nil)))
    · go_simp
      first | refine hK.out _ _ SA.out (fun hHeld => ?_)
      clear hK K
      refine wpAnyH_ready (rs := [12, 17]) (by kernel_rfl) (by simp) ?_
      refine AllReadyH.cons rfl (fun K hK => ?_) (AllReadyH.cons rfl (fun K hK => ?_) (AllReadyH.nil))
      · go_simp
        first | refine hK.out _ _ SD.out (fun hHeld => ?_) | refine hK.out _ _ SA.out (fun hHeld => ?_)
        clear hK K
        refine wpAnyH_ready (rs := [17]) (by kernel_rfl) (by simp) ?_
        refine AllReadyH.cons rfl (fun K hK => ?_) (AllReadyH.nil)
        go_simp
        first | refine hK.out _ _ SD.out (fun hHeld => ?_) | refine hK.out _ _ SA.out (fun hHeld => ?_)
        clear hK K
        refine wpAnyH_ready (rs := [18]) (by kernel_rfl) (by simp) ?_
        refine AllReadyH.cons rfl (fun K hK => ?_) (AllReadyH.nil)
        go_simp
        go_at_call 48
        refine (BI.out _).mono ?_
        rintro ea wa ⟨rfl, hwa⟩
        have hwb := hwa.symm
        subst hwb
        go_wp2_with fail
        first | refine hK.out _ _ SA.out (fun hHeld => ?_)
        clear hK K
        refine wpAnyH_take (i := 19) (v := (.pointer (some ⟨L.r, r, none⟩))) rfl (by kernel_rfl) (by kernel_rfl) (by kernel_rfl) (fun _ _ _ h => h) (Or.inl ⟨by rfl, ?_⟩) hHeld ?_
        · (intro w hSw; obtain ⟨q1, q2, q3, q4⟩ := hSw; go_simp; try (intro hx; exfalso; omega))
        walk_nrm
        refine wpAnyH_ready (rs := [20]) (by kernel_rfl) (by simp) ?_
        refine AllReadyH.cons rfl (fun K hK => ?_) (AllReadyH.nil)
        go_simp
        first | refine hK.out _ _ SZ.out (fun hHeld => ?_)
        clear hK K
        refine wpAnyH_done (by kernel_rfl) ?_ _
        clear hHeld
        go_wp2
        go_ret
        exact ⟨rfl, ⟨_, _, _, Nat.le_refl _, K2.out⟩, KB2.out⟩
      · go_simp
        first | refine hK.out _ _ SD.out (fun hHeld => ?_) | refine hK.out _ _ SA.out (fun hHeld => ?_)
        clear hK K
        refine wpAnyH_ready (rs := [12]) (by kernel_rfl) (by simp) ?_
        refine AllReadyH.cons rfl (fun K hK => ?_) (AllReadyH.nil)
        go_simp
        first | refine hK.out _ _ SD.out (fun hHeld => ?_) | refine hK.out _ _ SA.out (fun hHeld => ?_)
        clear hK K
        refine wpAnyH_ready (rs := [18]) (by kernel_rfl) (by simp) ?_
        refine AllReadyH.cons rfl (fun K hK => ?_) (AllReadyH.nil)
        go_simp
        go_at_call 48
        refine (BI.out _).mono ?_
        rintro ea wa ⟨rfl, hwa⟩
        have hwb := hwa.symm
        subst hwb
        go_wp2_with fail
        first | refine hK.out _ _ SA.out (fun hHeld => ?_)
        clear hK K
        refine wpAnyH_take (i := 19) (v := (.pointer (some ⟨L.r, r, none⟩))) rfl (by kernel_rfl) (by kernel_rfl) (by kernel_rfl) (fun _ _ _ h => h) (Or.inl ⟨by rfl, ?_⟩) hHeld ?_
        · (intro w hSw; obtain ⟨q1, q2, q3, q4⟩ := hSw; go_simp; try (intro hx; exfalso; omega))
        walk_nrm
        refine wpAnyH_ready (rs := [20]) (by kernel_rfl) (by simp) ?_
        refine AllReadyH.cons rfl (fun K hK => ?_) (AllReadyH.nil)
        go_simp
        first | refine hK.out _ _ SZ.out (fun hHeld => ?_)
        clear hK K
        refine wpAnyH_done (by kernel_rfl) ?_ _
        clear hHeld
        go_wp2
        go_ret
        exact ⟨rfl, ⟨_, _, _, Nat.le_refl _, K2.out⟩, KB2.out⟩
    · go_simp
      first | refine hK.out _ _ SD.out (fun hHeld => ?_) | refine hK.out _ _ SA.out (fun hHeld => ?_)
      clear hK K
      refine wpAnyH_ready (rs := [7, 17]) (by kernel_rfl) (by simp) ?_
      refine AllReadyH.cons rfl (fun K hK => ?_) (AllReadyH.cons rfl (fun K hK => ?_) (AllReadyH.nil))
      · go_simp
        first | refine hK.out _ _ SA.out (fun hHeld => ?_)
        clear hK K
        refine wpAnyH_ready (rs := [17]) (by kernel_rfl) (by simp) ?_
        refine AllReadyH.cons rfl (fun K hK => ?_) (AllReadyH.nil)
        go_simp
        first | refine hK.out _ _ SD.out (fun hHeld => ?_) | refine hK.out _ _ SA.out (fun hHeld => ?_)
        clear hK K
        refine wpAnyH_ready (rs := [18]) (by kernel_rfl) (by simp) ?_
        refine AllReadyH.cons rfl (fun K hK => ?_) (AllReadyH.nil)
        go_simp
        go_at_call 48
        refine (BI.out _).mono ?_
        rintro ea wa ⟨rfl, hwa⟩
        have hwb := hwa.symm
        subst hwb
        go_wp2_with fail
        first | refine hK.out _ _ SA.out (fun hHeld => ?_)
        clear hK K
        refine wpAnyH_take (i := 19) (v := (.pointer (some ⟨L.r, r, none⟩))) rfl (by kernel_rfl) (by kernel_rfl) (by kernel_rfl) (fun _ _ _ h => h) (Or.inl ⟨by rfl, ?_⟩) hHeld ?_
        · (intro w hSw; obtain ⟨q1, q2, q3, q4⟩ := hSw; go_simp; try (intro hx; exfalso; omega))
        walk_nrm
        refine wpAnyH_ready (rs := [20]) (by kernel_rfl) (by simp) ?_
        refine AllReadyH.cons rfl (fun K hK => ?_) (AllReadyH.nil)
        go_simp
        first | refine hK.out _ _ SZ.out (fun hHeld => ?_)
        clear hK K
        refine wpAnyH_done (by kernel_rfl) ?_ _
        clear hHeld
        go_wp2
        go_ret
        exact ⟨rfl, ⟨_, _, _, Nat.le_refl _, K2.out⟩, KB2.out⟩
      · go_simp
        first | refine hK.out _ _ SD.out (fun hHeld => ?_) | refine hK.out _ _ SA.out (fun hHeld => ?_)
        clear hK K
        refine wpAnyH_ready (rs := [7]) (by kernel_rfl) (by simp) ?_
        refine AllReadyH.cons rfl (fun K hK => ?_) (AllReadyH.nil)
        go_simp
        first | refine hK.out _ _ SA.out (fun hHeld => ?_)
        clear hK K
        refine wpAnyH_ready (rs := [18]) (by kernel_rfl) (by simp) ?_
        refine AllReadyH.cons rfl (fun K hK => ?_) (AllReadyH.nil)
        go_simp
        go_at_call 48
        refine (BI.out _).mono ?_
        rintro ea wa ⟨rfl, hwa⟩
        have hwb := hwa.symm
        subst hwb
        go_wp2_with fail
        first | refine hK.out _ _ SA.out (fun hHeld => ?_)
        clear hK K
        refine wpAnyH_take (i := 19) (v := (.pointer (some ⟨L.r, r, none⟩))) rfl (by kernel_rfl) (by kernel_rfl) (by kernel_rfl) (fun _ _ _ h => h) (Or.inl ⟨by rfl, ?_⟩) hHeld ?_
        · (intro w hSw; obtain ⟨q1, q2, q3, q4⟩ := hSw; go_simp; try (intro hx; exfalso; omega))
        walk_nrm
        refine wpAnyH_ready (rs := [20]) (by kernel_rfl) (by simp) ?_
        refine AllReadyH.cons rfl (fun K hK => ?_) (AllReadyH.nil)
        go_simp
        first | refine hK.out _ _ SZ.out (fun hHeld => ?_)
        clear hK K
        refine wpAnyH_done (by kernel_rfl) ?_ _
        clear hHeld
        go_wp2
        go_ret
        exact ⟨rfl, ⟨_, _, _, Nat.le_refl _, K2.out⟩, KB2.out⟩
    · go_simp
      first | refine hK.out _ _ SD.out (fun hHeld => ?_) | refine hK.out _ _ SA.out (fun hHeld => ?_)
      clear hK K
      refine wpAnyH_ready (rs := [7, 12]) (by kernel_rfl) (by simp) ?_
      refine AllReadyH.cons rfl (fun K hK => ?_) (AllReadyH.cons rfl (fun K hK => ?_) (AllReadyH.nil))
      · go_simp
        first | refine hK.out _ _ SA.out (fun hHeld => ?_)
        clear hK K
        refine wpAnyH_ready (rs := [12]) (by kernel_rfl) (by simp) ?_
        refine AllReadyH.cons rfl (fun K hK => ?_) (AllReadyH.nil)
        go_simp
        first | refine hK.out _ _ SD.out (fun hHeld => ?_) | refine hK.out _ _ SA.out (fun hHeld => ?_)
        clear hK K
        refine wpAnyH_ready (rs := [18]) (by kernel_rfl) (by simp) ?_
        refine AllReadyH.cons rfl (fun K hK => ?_) (AllReadyH.nil)
        go_simp
        go_at_call 48
        refine (BI.out _).mono ?_
        rintro ea wa ⟨rfl, hwa⟩
        have hwb := hwa.symm
        subst hwb
        go_wp2_with fail
        first | refine hK.out _ _ SA.out (fun hHeld => ?_)
        clear hK K
        refine wpAnyH_take (i := 19) (v := (.pointer (some ⟨L.r, r, none⟩))) rfl (by kernel_rfl) (by kernel_rfl) (by kernel_rfl) (fun _ _ _ h => h) (Or.inl ⟨by rfl, ?_⟩) hHeld ?_
        · (intro w hSw; obtain ⟨q1, q2, q3, q4⟩ := hSw; go_simp; try (intro hx; exfalso; omega))
        walk_nrm
        refine wpAnyH_ready (rs := [20]) (by kernel_rfl) (by simp) ?_
        refine AllReadyH.cons rfl (fun K hK => ?_) (AllReadyH.nil)
        go_simp
        first | refine hK.out _ _ SZ.out (fun hHeld => ?_)
        clear hK K
        refine wpAnyH_done (by kernel_rfl) ?_ _
        clear hHeld
        go_wp2
        go_ret
        exact ⟨rfl, ⟨_, _, _, Nat.le_refl _, K2.out⟩, KB2.out⟩
      · go_simp
        first | refine hK.out _ _ SD.out (fun hHeld => ?_) | refine hK.out _ _ SA.out (fun hHeld => ?_)
        clear hK K
        refine wpAnyH_ready (rs := [7]) (by kernel_rfl) (by simp) ?_
        refine AllReadyH.cons rfl (fun K hK => ?_) (AllReadyH.nil)
        go_simp
        first | refine hK.out _ _ SA.out (fun hHeld => ?_)
        clear hK K
        refine wpAnyH_ready (rs := [18]) (by kernel_rfl) (by simp) ?_
        refine AllReadyH.cons rfl (fun K hK => ?_) (AllReadyH.nil)
        go_simp
        go_at_call 48
        refine (BI.out _).mono ?_
        rintro ea wa ⟨rfl, hwa⟩
        have hwb := hwa.symm
        subst hwb
        go_wp2_with fail
        first | refine hK.out _ _ SA.out (fun hHeld => ?_)
        clear hK K
        refine wpAnyH_take (i := 19) (v := (.pointer (some ⟨L.r, r, none⟩))) rfl (by kernel_rfl) (by kernel_rfl) (by kernel_rfl) (fun _ _ _ h => h) (Or.inl ⟨by rfl, ?_⟩) hHeld ?_
        · (intro w hSw; obtain ⟨q1, q2, q3, q4⟩ := hSw; go_simp; try (intro hx; exfalso; omega))
        walk_nrm
        refine wpAnyH_ready (rs := [20]) (by kernel_rfl) (by simp) ?_
        refine AllReadyH.cons rfl (fun K hK => ?_) (AllReadyH.nil)
        go_simp
        first | refine hK.out _ _ SZ.out (fun hHeld => ?_)
        clear hK K
        refine wpAnyH_done (by kernel_rfl) ?_ _
        clear hHeld
        go_wp2
        go_ret
        exact ⟨rfl, ⟨_, _, _, Nat.le_refl _, K2.out⟩, KB2.out⟩
  · go_simp
    first | refine hK.out _ _ SD.out (fun hHeld => ?_) | refine hK.out _ _ SA.out (fun hHeld => ?_)
    clear hK K
    refine wpAnyH_ready (rs := [3, 17]) (by kernel_rfl) (by simp) ?_
    refine AllReadyH.cons rfl (fun K hK => ?_) (AllReadyH.cons rfl (fun K hK => ?_) (AllReadyH.nil))
    · go_simp
      first | refine hK.out _ _ SA.out (fun hHeld => ?_)
      clear hK K
      refine wpAnyH_take (i := 6) (v := (.pointer (some ⟨W.heap.size, v, none⟩))) rfl (by kernel_rfl) (by kernel_rfl) (by kernel_rfl) (fun _ _ _ h => h) (Or.inl ⟨by rfl, ?_⟩) hHeld ?_
      · (intro w hSw; obtain ⟨q1, q2, q3, q4⟩ := hSw; go_simp; try (intro hx; exfalso; omega))
      walk_nrm
      refine wpAnyH_ready (rs := [7, 17]) (by kernel_rfl) (by simp) ?_
      refine AllReadyH.cons rfl (fun K hK => ?_) (AllReadyH.cons rfl (fun K hK => ?_) (AllReadyH.nil))
      · go_simp
        first | refine hK.out _ _ SA.out (fun hHeld => ?_)
        clear hK K
        refine wpAnyH_ready (rs := [17]) (by kernel_rfl) (by simp) ?_
        refine AllReadyH.cons rfl (fun K hK => ?_) (AllReadyH.nil)
        go_simp
        first | refine hK.out _ _ SD.out (fun hHeld => ?_) | refine hK.out _ _ SA.out (fun hHeld => ?_)
        clear hK K
        refine wpAnyH_ready (rs := [18]) (by kernel_rfl) (by simp) ?_
        refine AllReadyH.cons rfl (fun K hK => ?_) (AllReadyH.nil)
        go_simp
        go_at_call 48
        refine (BI.out _).mono ?_
        rintro ea wa ⟨rfl, hwa⟩
        have hwb := hwa.symm
        subst hwb
        go_wp2_with fail
        first | refine hK.out _ _ SA.out (fun hHeld => ?_)
        clear hK K
        refine wpAnyH_take (i := 19) (v := (.pointer (some ⟨L.r, r, none⟩))) rfl (by kernel_rfl) (by kernel_rfl) (by kernel_rfl) (fun _ _ _ h => h) (Or.inl ⟨by rfl, ?_⟩) hHeld ?_
        · (intro w hSw; obtain ⟨q1, q2, q3, q4⟩ := hSw; go_simp; try (intro hx; exfalso; omega))
        walk_nrm
        refine wpAnyH_ready (rs := [20]) (by kernel_rfl) (by simp) ?_
        refine AllReadyH.cons rfl (fun K hK => ?_) (AllReadyH.nil)
        go_simp
        first | refine hK.out _ _ SZ.out (fun hHeld => ?_)
        clear hK K
        refine wpAnyH_done (by kernel_rfl) ?_ _
        clear hHeld
        go_wp2
        go_ret
        exact ⟨rfl, ⟨_, _, _, Nat.le_refl _, K2.out⟩, KB2.out⟩
      · go_simp
        first | refine hK.out _ _ SD.out (fun hHeld => ?_) | refine hK.out _ _ SA.out (fun hHeld => ?_)
        clear hK K
        refine wpAnyH_ready (rs := [7]) (by kernel_rfl) (by simp) ?_
        refine AllReadyH.cons rfl (fun K hK => ?_) (AllReadyH.nil)
        go_simp
        first | refine hK.out _ _ SA.out (fun hHeld => ?_)
        clear hK K
        refine wpAnyH_ready (rs := [18]) (by kernel_rfl) (by simp) ?_
        refine AllReadyH.cons rfl (fun K hK => ?_) (AllReadyH.nil)
        go_simp
        go_at_call 48
        refine (BI.out _).mono ?_
        rintro ea wa ⟨rfl, hwa⟩
        have hwb := hwa.symm
        subst hwb
        go_wp2_with fail
        first | refine hK.out _ _ SA.out (fun hHeld => ?_)
        clear hK K
        refine wpAnyH_take (i := 19) (v := (.pointer (some ⟨L.r, r, none⟩))) rfl (by kernel_rfl) (by kernel_rfl) (by kernel_rfl) (fun _ _ _ h => h) (Or.inl ⟨by rfl, ?_⟩) hHeld ?_
        · (intro w hSw; obtain ⟨q1, q2, q3, q4⟩ := hSw; go_simp; try (intro hx; exfalso; omega))
        walk_nrm
        refine wpAnyH_ready (rs := [20]) (by kernel_rfl) (by simp) ?_
        refine AllReadyH.cons rfl (fun K hK => ?_) (AllReadyH.nil)
        go_simp
        first | refine hK.out _ _ SZ.out (fun hHeld => ?_)
        clear hK K
        refine wpAnyH_done (by kernel_rfl) ?_ _
        clear hHeld
        go_wp2
        go_ret
        exact ⟨rfl, ⟨_, _, _, Nat.le_refl _, K2.out⟩, KB2.out⟩
    · go_simp
      first | refine hK.out _ _ SD.out (fun hHeld => ?_) | refine hK.out _ _ SA.out (fun hHeld => ?_)
      clear hK K
      refine wpAnyH_ready (rs := [3]) (by kernel_rfl) (by simp) ?_
      refine AllReadyH.cons rfl (fun K hK => ?_) (AllReadyH.nil)
      go_simp
      first | refine hK.out _ _ SA.out (fun hHeld => ?_)
      clear hK K
      refine wpAnyH_take (i := 6) (v := (.pointer (some ⟨W.heap.size, v, none⟩))) rfl (by kernel_rfl) (by kernel_rfl) (by kernel_rfl) (fun _ _ _ h => h) (Or.inl ⟨by rfl, ?_⟩) hHeld ?_
      · (intro w hSw; obtain ⟨q1, q2, q3, q4⟩ := hSw; go_simp; try (intro hx; exfalso; omega))
      walk_nrm
      refine wpAnyH_ready (rs := [7]) (by kernel_rfl) (by simp) ?_
      refine AllReadyH.cons rfl (fun K hK => ?_) (AllReadyH.nil)
      go_simp
      first | refine hK.out _ _ SA.out (fun hHeld => ?_)
      clear hK K
      refine wpAnyH_ready (rs := [18]) (by kernel_rfl) (by simp) ?_
      refine AllReadyH.cons rfl (fun K hK => ?_) (AllReadyH.nil)
      go_simp
      go_at_call 48
      refine (BI.out _).mono ?_
      rintro ea wa ⟨rfl, hwa⟩
      have hwb := hwa.symm
      subst hwb
      go_wp2_with fail
      first | refine hK.out _ _ SA.out (fun hHeld => ?_)
      clear hK K
      refine wpAnyH_take (i := 19) (v := (.pointer (some ⟨L.r, r, none⟩))) rfl (by kernel_rfl) (by kernel_rfl) (by kernel_rfl) (fun _ _ _ h => h) (Or.inl ⟨by rfl, ?_⟩) hHeld ?_
      · (intro w hSw; obtain ⟨q1, q2, q3, q4⟩ := hSw; go_simp; try (intro hx; exfalso; omega))
      walk_nrm
      refine wpAnyH_ready (rs := [20]) (by kernel_rfl) (by simp) ?_
      refine AllReadyH.cons rfl (fun K hK => ?_) (AllReadyH.nil)
      go_simp
      first | refine hK.out _ _ SZ.out (fun hHeld => ?_)
      clear hK K
      refine wpAnyH_done (by kernel_rfl) ?_ _
      clear hHeld
      go_wp2
      go_ret
      exact ⟨rfl, ⟨_, _, _, Nat.le_refl _, K2.out⟩, KB2.out⟩
  · go_simp
    first | refine hK.out _ _ SD.out (fun hHeld => ?_) | refine hK.out _ _ SA.out (fun hHeld => ?_)
    clear hK K
    refine wpAnyH_ready (rs := [3, 12]) (by kernel_rfl) (by simp) ?_
    refine AllReadyH.cons rfl (fun K hK => ?_) (AllReadyH.cons rfl (fun K hK => ?_) (AllReadyH.nil))
    · go_simp
      first | refine hK.out _ _ SA.out (fun hHeld => ?_)
      clear hK K
      refine wpAnyH_take (i := 6) (v := (.pointer (some ⟨W.heap.size, v, none⟩))) rfl (by kernel_rfl) (by kernel_rfl) (by kernel_rfl) (fun _ _ _ h => h) (Or.inl ⟨by rfl, ?_⟩) hHeld ?_
      · (intro w hSw; obtain ⟨q1, q2, q3, q4⟩ := hSw; go_simp; try (intro hx; exfalso; omega))
      walk_nrm
      refine wpAnyH_ready (rs := [7, 12]) (by kernel_rfl) (by simp) ?_
      refine AllReadyH.cons rfl (fun K hK => ?_) (AllReadyH.cons rfl (fun K hK => ?_) (AllReadyH.nil))
      · go_simp
        first | refine hK.out _ _ SA.out (fun hHeld => ?_)
        clear hK K
        refine wpAnyH_ready (rs := [12]) (by kernel_rfl) (by simp) ?_
        refine AllReadyH.cons rfl (fun K hK => ?_) (AllReadyH.nil)
        go_simp
        first | refine hK.out _ _ SD.out (fun hHeld => ?_) | refine hK.out _ _ SA.out (fun hHeld => ?_)
        clear hK K
        refine wpAnyH_ready (rs := [18]) (by kernel_rfl) (by simp) ?_
        refine AllReadyH.cons rfl (fun K hK => ?_) (AllReadyH.nil)
        go_simp
        go_at_call 48
        refine (BI.out _).mono ?_
        rintro ea wa ⟨rfl, hwa⟩
        have hwb := hwa.symm
        subst hwb
        go_wp2_with fail
        first | refine hK.out _ _ SA.out (fun hHeld => ?_)
        clear hK K
        refine wpAnyH_take (i := 19) (v := (.pointer (some ⟨L.r, r, none⟩))) rfl (by kernel_rfl) (by kernel_rfl) (by kernel_rfl) (fun _ _ _ h => h) (Or.inl ⟨by rfl, ?_⟩) hHeld ?_
        · (intro w hSw; obtain ⟨q1, q2, q3, q4⟩ := hSw; go_simp; try (intro hx; exfalso; omega))
        walk_nrm
        refine wpAnyH_ready (rs := [20]) (by kernel_rfl) (by simp) ?_
        refine AllReadyH.cons rfl (fun K hK => ?_) (AllReadyH.nil)
        go_simp
        first | refine hK.out _ _ SZ.out (fun hHeld => ?_)
        clear hK K
        refine wpAnyH_done (by kernel_rfl) ?_ _
        clear hHeld
        go_wp2
        go_ret
        exact ⟨rfl, ⟨_, _, _, Nat.le_refl _, K2.out⟩, KB2.out⟩
      · go_simp
        first | refine hK.out _ _ SD.out (fun hHeld => ?_) | refine hK.out _ _ SA.out (fun hHeld => ?_)
        clear hK K
        refine wpAnyH_ready (rs := [7]) (by kernel_rfl) (by simp) ?_
        refine AllReadyH.cons rfl (fun K hK => ?_) (AllReadyH.nil)
        go_simp
        first | refine hK.out _ _ SA.out (fun hHeld => ?_)
        clear hK K
        refine wpAnyH_ready (rs := [18]) (by kernel_rfl) (by simp) ?_
        refine AllReadyH.cons rfl (fun K hK => ?_) (AllReadyH.nil)
        go_simp
        go_at_call 48
        refine (BI.out _).mono ?_
        rintro ea wa ⟨rfl, hwa⟩
        have hwb := hwa.symm
        subst hwb
        go_wp2_with fail
        first | refine hK.out _ _ SA.out (fun hHeld => ?_)
        clear hK K
        refine wpAnyH_take (i := 19) (v := (.pointer (some ⟨L.r, r, none⟩))) rfl (by kernel_rfl) (by kernel_rfl) (by kernel_rfl) (fun _ _ _ h => h) (Or.inl ⟨by rfl, ?_⟩) hHeld ?_
        · (intro w hSw; obtain ⟨q1, q2, q3, q4⟩ := hSw; go_simp; try (intro hx; exfalso; omega))
        walk_nrm
        refine wpAnyH_ready (rs := [20]) (by kernel_rfl) (by simp) ?_
        refine AllReadyH.cons rfl (fun K hK => ?_) (AllReadyH.nil)
        go_simp
        first | refine hK.out _ _ SZ.out (fun hHeld => ?_)
        clear hK K
        refine wpAnyH_done (by kernel_rfl) ?_ _
        clear hHeld
        go_wp2
        go_ret
        exact ⟨rfl, ⟨_, _, _, Nat.le_refl _, K2.out⟩, KB2.out⟩
    · go_simp
      first | refine hK.out _ _ SD.out (fun hHeld => ?_) | refine hK.out _ _ SA.out (fun hHeld => ?_)
      clear hK K
      refine wpAnyH_ready (rs := [3]) (by kernel_rfl) (by simp) ?_
      refine AllReadyH.cons rfl (fun K hK => ?_) (AllReadyH.nil)
      go_simp
      first | refine hK.out _ _ SA.out (fun hHeld => ?_)
      clear hK K
      refine wpAnyH_take (i := 6) (v := (.pointer (some ⟨W.heap.size, v, none⟩))) rfl (by kernel_rfl) (by kernel_rfl) (by kernel_rfl) (fun _ _ _ h => h) (Or.inl ⟨by rfl, ?_⟩) hHeld ?_
      · (intro w hSw; obtain ⟨q1, q2, q3, q4⟩ := hSw; go_simp; try (intro hx; exfalso; omega))
      walk_nrm
      refine wpAnyH_ready (rs := [7]) (by kernel_rfl) (by simp) ?_
      refine AllReadyH.cons rfl (fun K hK => ?_) (AllReadyH.nil)
      go_simp
      first | refine hK.out _ _ SA.out (fun hHeld => ?_)
      clear hK K
      refine wpAnyH_ready (rs := [18]) (by kernel_rfl) (by simp) ?_
      refine AllReadyH.cons rfl (fun K hK => ?_) (AllReadyH.nil)
      go_simp
      go_at_call 48
      refine (BI.out _).mono ?_
      rintro ea wa ⟨rfl, hwa⟩
      have hwb := hwa.symm
      subst hwb
      go_wp2_with fail
      first | refine hK.out _ _ SA.out (fun hHeld => ?_)
      clear hK K
      refine wpAnyH_take (i := 19) (v := (.pointer (some ⟨L.r, r, none⟩))) rfl (by kernel_rfl) (by kernel_rfl) (by kernel_rfl) (fun _ _ _ h => h) (Or.inl ⟨by rfl, ?_⟩) hHeld ?_
      · (intro w hSw; obtain ⟨q1, q2, q3, q4⟩ := hSw; go_simp; try (intro hx; exfalso; omega))
      walk_nrm
      refine wpAnyH_ready (rs := [20]) (by kernel_rfl) (by simp) ?_
      refine AllReadyH.cons rfl (fun K hK => ?_) (AllReadyH.nil)
      go_simp
      first | refine hK.out _ _ SZ.out (fun hHeld => ?_)
      clear hK K
      refine wpAnyH_done (by kernel_rfl) ?_ _
      clear hHeld
      go_wp2
      go_ret
      exact ⟨rfl, ⟨_, _, _, Nat.le_refl _, K2.out⟩, KB2.out⟩
end Go.Proofs.YtpkfbabgcinhhaaDoor
