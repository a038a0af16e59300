/- The contract of spec.l14Word: Out (written by wip/mkmcw.py). -/
import Derived.Test.YtpkfbabgcinhhaaDoorCkG
import Derived.Test.YtpkfbabgcinhhaaDoorCkH
import Derived.Conc.WalkWords
namespace Go.Proofs.YtpkfbabgcinhhaaDoor
open Go.ChangeShapes Go.WideShapes Go.ChangeAt Go.RowKit
def SW7 (wh r lr : Nat) (z : Int) (W : World) : Prop := W.cell? ⟨wh, 1, none⟩ = some (.int .i64 (r : Int)) ∧ W.cell? ⟨lr, r, none⟩ = some (.int .i64 z)
theorem out_keep {L : Lay} {D : Nat} {ui : Option Addr} {ci : Nat} {vo : Value} {w w' : World} {s : Mch} {g : List Int} {wh r : Nat} {z : Int} (SA : SW7 wh r L.r z w) (H : MAt L D ui ci vo w s g) (g6 : w.grownBy w' vo.ownBlock) (nw : wh < w.heap.size ∧ vo.ownBlock ≠ some wh) : SW7 wh r L.r z w' :=
  ⟨(World.cell?_of_block (a := ⟨wh, 1, none⟩) (g6.block wh nw.1 (fun e => nw.2 e.symm))).trans SA.1, (World.cell?_of_block (a := ⟨L.r, r, none⟩) (g6.block L.r H.regs.lt (fun e => (H.oo _ e.symm).1 rfl))).trans SA.2⟩
theorem out_set {wh r lr lb : Nat} {z : Int} {w : World} (h : SW7 wh r lr z w) (h1 : wh ≠ lb) (h2 : lr ≠ lb) (l1 : wh < w.heap.size) (l2 : lr < w.heap.size) (v : Value) : SW7 wh r lr z (w.setCell ⟨lb, 7, none⟩ v) :=
  ⟨(((But.refl lb w).set 7 v).cell l1 h1).trans h.1, (((But.refl lb w).set 7 v).cell l2 h2).trans h.2⟩
theorem out_below {L : Lay} {D : Nat} {ui : Option Addr} {ci : Nat} {vo : Value} {w0 w w' : World} {s : Mch} {g : List Int} (b : Below w0.heap.size w0 w) (H : MAt L D ui ci vo w s g) (g6 : w.grownBy w' vo.ownBlock) (hD : D ≤ w0.heap.size) (v : Value) : Below D w0 (w'.setCell ⟨L.b, 7, none⟩ v) :=
  ((b.mono hD).trans (grown_below g6 (fun c e => (H.out.low c e).1) H.low)).trans (((But.refl L.b w').set 7 v).below H.lowB (Nat.le_trans H.low g6.size))
set_option maxHeartbeats 8000000 in
set_option maxRecDepth 100000 in
theorem word_7 (L : Lay) (D : Nat) (ui : Option Addr) (ci : Nat) (vo : Value) (w : World) (s : Mch) (g : List Int) (h : MAt L D ui ci vo w s g) (hg : g.length = 16) (r a b : Nat) (n k : Int) (hr : r < 16) (ha : a < 16) (hb : b < 16) (hk : 0 ≤ k ∧ k ≤ 6000) (hout : s.out.length ≤ 1000000) :
    Calls Tryd.prog 34 #[.pointer (some ⟨L.b, 0, none⟩), .slice (some ⟨L.r, 0, none⟩) 16 L.cr, .agg #[.int .i64 7, .int .i64 (r : Int), .int .i64 (a : Int), .int .i64 (b : Int), .int .i64 n], .int .i64 k] w fun en w' => WordRes L D ci w (wordM ⟨7, r, a, b, n⟩ k s g) en w' := by
  have hm := maxLen_lt
  have al := (Below.refl w.heap.size w).alloc (Nat.le_refl _) (.cells #[.int .i64 7, .int .i64 (r : Int), .int .i64 (a : Int), .int .i64 (b : Int), .int .i64 n] 73)
  have H := hideP (h.stays al)
  have X : Hid ((w.alloc (.cells #[.int .i64 7, .int .i64 (r : Int), .int .i64 (a : Int), .int .i64 (b : Int), .int .i64 n] 73)).heap[w.heap.size]? = some (.cells #[.int .i64 7, .int .i64 (r : Int), .int .i64 (a : Int), .int .i64 (b : Int), .int .i64 n] 73 (0, 0))) := by show (w.heap.push _)[w.heap.size]? = _; exact Array.getElem?_push_size
  have HAL := hideP al
  have hDw := h.low
  obtain ⟨W, hW⟩ : ∃ W, w.alloc (.cells #[.int .i64 7, .int .i64 (r : Int), .int .i64 (a : Int), .int .i64 (b : Int), .int .i64 n] 73) = W := ⟨_, rfl⟩
  rw [hW] at H X HAL
  clear al h
  have x0 := (cells_of X.out).1 0
  have x1 := (cells_of X.out).1 1
  have x2 := (cells_of X.out).1 2
  have x3 := (cells_of X.out).1 3
  have x4 := (cells_of X.out).1 4
  simp at x0 x1 x2 x3 x4
  have hr' : r < g.length := by omega
  have ha' : a < g.length := by omega
  have hb' : b < g.length := by omega
  have lr := H.out.regs.lt
  have lb : L.b < W.heap.size := (Array.getElem?_eq_some_iff.1 H.out.box).1
  obtain ⟨cr, fr⟩ := H.out.regs.at r hr'
  obtain ⟨ca, fa⟩ := H.out.regs.at a ha'
  obtain ⟨cb, fb⟩ := H.out.regs.at b hb'
  have E : wordM ⟨7, r, a, b, n⟩ k s g = ({ s with out := s.out ++ [g[r]] }, g, k + 1) := by simp [wordM, regG_at hr']
  rw [E]
  clear E
  have e16 : (g.length : Int) = 16 := by omega
  have hr16 : (r : Int) < 16 := by omega
  have lwx : w.heap.size < W.heap.size := (Array.getElem?_eq_some_iff.1 X.out).1
  obtain ⟨z, hz⟩ : ∃ z, g[r] = z := ⟨_, rfl⟩
  rw [hz] at cr ⊢
  clear hz
  have al2 := (Below.refl W.heap.size W).drew.alloc (Nat.le_refl _) (.cells #[.int .i64 z] 3)
  have hN : (W.drew.alloc (.cells #[.int .i64 z] 3)).heap[W.heap.size]? = some (.cells #[.int .i64 z] 3 (0, 0)) := by show (W.drew.heap.push _)[W.drew.heap.size]? = _; exact Array.getElem?_push_size
  have H2 := H.out.stays al2
  have bx7 := (cells_of H.out.box).1 7
  simp at bx7
  have SD : Hid (SW7 w.heap.size r L.r z W.drew) := ⟨x1, cr⟩
  have SA : Hid (SW7 w.heap.size r L.r z (W.drew.alloc (.cells #[.int .i64 z] 3))) := ⟨(al2.cell (p := ⟨w.heap.size, 1, none⟩) lwx).trans x1, (al2.cell (p := ⟨L.r, r, none⟩) lr).trans cr⟩
  have HALA := hideP (HAL.out.trans (al2.mono HAL.out.size))
  have lwA : w.heap.size < (W.drew.alloc (.cells #[.int .i64 z] 3)).heap.size := Nat.lt_of_lt_of_le lwx al2.size
  have XA := (al2.block _ lwx).trans X.out
  obtain ⟨WA, hWA⟩ : ∃ Y, W.drew.alloc (.cells #[.int .i64 z] 3) = Y := ⟨_, rfl⟩
  rw [hWA] at H2 SA HALA hN lwA XA
  have cN := ((cells_of hN).1 0).trans rfl
  have nwb2 : w.heap.size ≠ L.b := fun e => typ_ne2 H.out.box X.out (by decide) e.symm
  have nrb2 : L.r ≠ L.b := H.out.regs.ne H.out.box (by decide)
  have nwO : w.heap.size < WA.heap.size ∧ vo.ownBlock ≠ some w.heap.size := ⟨lwA, fun e => by obtain ⟨cur, h2⟩ := H2.out.block e; exact typ_ne2 h2 XA (by decide) rfl⟩
  have bx7A := (cells_of H2.box).1 7
  simp at bx7A
  have lrA := H2.regs.lt
  have ho : s.out.length + 1 ≤ 8000000 := by omega
  have hDA : D ≤ WA.heap.size := H2.low
  have lbn : L.b < W.heap.size + 1 := by omega
  clear al2 hN XA
  go_enter Tryd.func34, Tryd.ntmps34
  go_wp2_with fail
  refine wp_region_held_drew (S := SW7 w.heap.size r L.r z) (by kernel_rfl) SD.out (fun hHeld => ?_)
  refine wpAnyH_take (i := 0) (v := (.pointer (some ⟨L.b, 0, none⟩))) rfl (by kernel_rfl) (by kernel_rfl) (by kernel_rfl) (fun _ _ _ h => h) (Or.inl ⟨by rfl, ?_⟩) hHeld ?_
  · (intro w hSw; obtain ⟨q1, q2⟩ := hSw; go_simp; try (intro hx; exfalso; omega))
  walk_nrm
  refine wpAnyH_take (i := 1) (v := (.pointer (some ⟨L.b, 0, none⟩))) rfl (by kernel_rfl) (by kernel_rfl) (by kernel_rfl) (fun _ _ _ h => h) (Or.inl ⟨by rfl, ?_⟩) hHeld ?_
  · (intro w hSw; obtain ⟨q1, q2⟩ := hSw; go_simp; try (intro hx; exfalso; omega))
  walk_nrm
  refine wpAnyH_take (i := 2) (v := (.pointer (some ⟨L.b, 0, none⟩))) rfl (by kernel_rfl) (by kernel_rfl) (by kernel_rfl) (fun _ _ _ h => h) (Or.inl ⟨by rfl, ?_⟩) hHeld ?_
  · (intro w hSw; obtain ⟨q1, q2⟩ := hSw; go_simp; try (intro hx; exfalso; omega))
  walk_nrm
  refine wpAnyH_take (i := 3) (v := (.pointer (some ⟨L.b, 7, none⟩))) rfl (by kernel_rfl) (by kernel_rfl) (by kernel_rfl) (fun _ _ _ h => h) (Or.inl ⟨by rfl, ?_⟩) hHeld ?_
  · (intro w hSw; obtain ⟨q1, q2⟩ := hSw; go_simp; try (intro hx; exfalso; omega))
  walk_nrm
  refine wpAnyH_take (i := 5) (v := (.slice (some ⟨L.r, 0, none⟩) 16 L.cr)) rfl (by kernel_rfl) (by kernel_rfl) (by kernel_rfl) (fun _ _ _ h => h) (Or.inl ⟨by rfl, ?_⟩) hHeld ?_
  · (intro w hSw; obtain ⟨q1, q2⟩ := hSw; go_simp; try (intro hx; exfalso; omega))
  walk_nrm
  refine wpAnyH_take (i := 6) (v := (.pointer (some ⟨w.heap.size, 1, none⟩))) rfl (by kernel_rfl) (by kernel_rfl) (by kernel_rfl) (fun _ _ _ h => h) (Or.inl ⟨by rfl, ?_⟩) hHeld ?_
  · (intro w hSw; obtain ⟨q1, q2⟩ := hSw; go_simp; try (intro hx; exfalso; omega))
  walk_nrm
  refine wpAnyH_take (i := 7) (v := (.int .i64 (r : Int))) rfl (by kernel_rfl) (by kernel_rfl) (by kernel_rfl) (fun _ _ _ h => h) (Or.inl ⟨by rfl, ?_⟩) hHeld ?_
  · (intro w hSw; obtain ⟨q1, q2⟩ := hSw; go_simp; try (intro hx; exfalso; omega))
  walk_nrm
  refine wpAnyH_take (i := 8) (v := (.pointer (some ⟨L.r, r, none⟩))) rfl (by kernel_rfl) (by kernel_rfl) (by kernel_rfl) (fun _ _ _ h => h) (Or.inl ⟨by rfl, ?_⟩) hHeld ?_
  · (intro w hSw; obtain ⟨q1, q2⟩ := hSw; go_simp; try (intro hx; exfalso; omega))
  walk_nrm
  refine wpAnyH_take (i := 9) (v := (.int .i64 z)) rfl (by kernel_rfl) (by kernel_rfl) (by kernel_rfl) (fun _ _ _ h => h) (Or.inl ⟨by rfl, ?_⟩) hHeld ?_
  · (intro w hSw; obtain ⟨q1, q2⟩ := hSw; go_simp; try (intro hx; exfalso; omega))
  walk_nrm
  refine wpAnyH_ready (rs := [4, 10]) (by kernel_rfl) (by simp) ?_
  refine AllReadyH.cons rfl (fun K hK => ?_) (AllReadyH.cons rfl (fun K hK => ?_) (AllReadyH.nil))
  · go_simp
    first | refine hK.out _ _ SD.out (fun hHeld => ?_) | refine hK.out _ _ SA.out (fun hHeld => ?_)
    clear hK K
    refine wpAnyH_ready (rs := [10]) (by kernel_rfl) (by simp) ?_
    refine AllReadyH.cons rfl (fun K hK => ?_) (AllReadyH.nil)
    go_simp
    first | refine hK.out _ _ SA.out (fun hHeld => ?_)
    clear hK K
    refine wpAnyH_ready (rs := [11]) (by kernel_rfl) (by simp) ?_
    refine AllReadyH.cons rfl (fun K hK => ?_) (AllReadyH.nil)
    refine step_appL _ rfl _ _ rfl D _ s.out z W.heap.size 0 1 rfl rfl H2.out cN ho hDA ?_
    intro v6 w6 o6 g6 l6
    obtain ⟨u6, n6, c6, rfl⟩ := o6.shape
    obtain ⟨K1, f7, f7z⟩ := H2.setOut g6 o6 l6
    have K2 := hideP K1
    have S6 := hideP (out_keep (SA := SA.out) (H := H2) (g6 := g6) (nw := nwO))
    have SZ := hideP (out_set S6.out nwb2 nrb2 (Nat.lt_of_lt_of_le lwA g6.size) (Nat.lt_of_lt_of_le lrA g6.size) (.slice u6 n6 c6))
    have KB2 := hideP (out_below HALA.out H2 g6 hDw (.slice u6 n6 c6))
    clear K1 o6 l6
    go_wp2_with fail
    first | refine hK.out _ _ S6.out (fun hHeld => ?_)
    clear hK K
    refine wpAnyH_take (i := 12) (v := (.pointer (some ⟨L.b, 0, none⟩))) rfl (by kernel_rfl) (by kernel_rfl) (by kernel_rfl) (fun _ _ _ h => h) (Or.inl ⟨by rfl, ?_⟩) hHeld ?_
    · (intro w hSw; obtain ⟨q1, q2⟩ := hSw; go_simp; try (intro hx; exfalso; omega))
    walk_nrm
    refine wpAnyH_take (i := 13) (v := (.pointer (some ⟨L.b, 7, none⟩))) rfl (by kernel_rfl) (by kernel_rfl) (by kernel_rfl) (fun _ _ _ h => h) (Or.inl ⟨by rfl, ?_⟩) hHeld ?_
    · (intro w hSw; obtain ⟨q1, q2⟩ := hSw; go_simp; try (intro hx; exfalso; omega))
    walk_nrm
    refine wpAnyH_ready (rs := [14]) (by kernel_rfl) (by simp) ?_
    refine AllReadyH.cons rfl (fun K hK => ?_) (AllReadyH.nil)
    go_simp
    first | refine hK.out _ _ SZ.out (fun hHeld => ?_)
    clear hK K
    refine wpAnyH_done (by kernel_rfl) ?_ _
    clear hHeld
    go_wp2
    go_ret
    exact ⟨rfl, ⟨_, _, _, Nat.le_refl _, K2.out⟩, KB2.out⟩
  · go_simp
    first | refine hK.out _ _ SA.out (fun hHeld => ?_)
    clear hK K
    refine wpAnyH_ready (rs := [4]) (by kernel_rfl) (by simp) ?_
    refine AllReadyH.cons rfl (fun K hK => ?_) (AllReadyH.nil)
    go_simp
    first | refine hK.out _ _ SD.out (fun hHeld => ?_) | refine hK.out _ _ SA.out (fun hHeld => ?_)
    clear hK K
    refine wpAnyH_ready (rs := [11]) (by kernel_rfl) (by simp) ?_
    refine AllReadyH.cons rfl (fun K hK => ?_) (AllReadyH.nil)
    refine step_appL _ rfl _ _ rfl D _ s.out z W.heap.size 0 1 rfl rfl H2.out cN ho hDA ?_
    intro v6 w6 o6 g6 l6
    obtain ⟨u6, n6, c6, rfl⟩ := o6.shape
    obtain ⟨K1, f7, f7z⟩ := H2.setOut g6 o6 l6
    have K2 := hideP K1
    have S6 := hideP (out_keep (SA := SA.out) (H := H2) (g6 := g6) (nw := nwO))
    have SZ := hideP (out_set S6.out nwb2 nrb2 (Nat.lt_of_lt_of_le lwA g6.size) (Nat.lt_of_lt_of_le lrA g6.size) (.slice u6 n6 c6))
    have KB2 := hideP (out_below HALA.out H2 g6 hDw (.slice u6 n6 c6))
    clear K1 o6 l6
    go_wp2_with fail
    first | refine hK.out _ _ S6.out (fun hHeld => ?_)
    clear hK K
    refine wpAnyH_take (i := 12) (v := (.pointer (some ⟨L.b, 0, none⟩))) rfl (by kernel_rfl) (by kernel_rfl) (by kernel_rfl) (fun _ _ _ h => h) (Or.inl ⟨by rfl, ?_⟩) hHeld ?_
    · (intro w hSw; obtain ⟨q1, q2⟩ := hSw; go_simp; try (intro hx; exfalso; omega))
    walk_nrm
    refine wpAnyH_take (i := 13) (v := (.pointer (some ⟨L.b, 7, none⟩))) rfl (by kernel_rfl) (by kernel_rfl) (by kernel_rfl) (fun _ _ _ h => h) (Or.inl ⟨by rfl, ?_⟩) hHeld ?_
    · (intro w hSw; obtain ⟨q1, q2⟩ := hSw; go_simp; try (intro hx; exfalso; omega))
    walk_nrm
    refine wpAnyH_ready (rs := [14]) (by kernel_rfl) (by simp) ?_
    refine AllReadyH.cons rfl (fun K hK => ?_) (AllReadyH.nil)
    go_simp
    first | refine hK.out _ _ SZ.out (fun hHeld => ?_)
    clear hK K
    refine wpAnyH_done (by kernel_rfl) ?_ _
    clear hHeld
    go_wp2
    go_ret
    exact ⟨rfl, ⟨_, _, _, Nat.le_refl _, K2.out⟩, KB2.out⟩
end Go.Proofs.YtpkfbabgcinhhaaDoor
