/- The contracts of the specification's l06Place and l06Step (written by wip/mksymt.py). -/
import Derived.Test.YtgiboadcfnfooabSymP
import Derived.Deep.CutRange
import Derived.Deep.RegionHeld3
namespace Go.Proofs.Ytgiboadcfnfooab
open Go.ChangeShapes Go.WideShapes Go.ChangeAt Go.RowKit
def insW (x : Ins) : Array Value := #[.int .i64 x.op, .int .i64 x.d, .int .i64 x.a, .int .i64 x.b, .int .i64 x.c, .int .i64 x.n, .string x.t]
def plW (p : Pla) : Array Value := #[.int .i64 p.r, .int .i64 p.i, .int .i64 p.j, .int .i64 p.off]
theorem Led.get_atS {l : Led} {n : Nat} (h : n < l.slots.length) : l.get (n : Int) = l.slots[n] := by
  unfold Led.get; rw [show ((n : Int).toNat) = n by omega, getElem!_pos l.slots n h]
theorem vOk_natS {V : Nat} {n : Int} (h : vOk V n = true) : ∃ k : Nat, n = (k : Int) ∧ k < V := by
  have h' : 0 ≤ n ∧ n < V := by simpa [vOk] using h
  exact ⟨n.toNat, by omega, by omega⟩
set_option maxRecDepth 100000 in
set_option maxHeartbeats 2000000 in
theorem l06Place_no (x : Ins) (hop : ¬ (x.op = 3 ∨ x.op = 4)) (w : World) (v : Value) :
    Calls Try.prog 54 #[.agg (insW x), v] w fun e w' => e = .returned (.agg #[.int .i64 (-1), .int .i64 0, .int .i64 0, .int .i64 0]) ∧ Below w.heap.size w w' := by
  obtain ⟨op, d, a, b, c, n, t⟩ := x
  simp only [insW] at *
  have h3 : (op != 3) = true := by simp; omega
  have h4 : (op != 4) = true := by simp; omega
  clear hop
  go_enter Try.func54, Try.ntmps54
  go_wp2
  (try simp only [Exit.inBlock, Exit.then])
  refine bodyPost_ret (v := .agg #[.int .i64 (-1), .int .i64 0, .int .i64 0, .int .i64 0]) (by simp [results, Try.results54, go_sem]) rfl ⟨rfl, below2 w _ _⟩
theorem l06Place_any (x : Ins) (l : Led) (R : Int) (w : World) (B g m cap : Nat) (h : OwnE SyE w B (.slice (some ⟨g, 0, none⟩) m cap) l.slots) (hx : insOk R (l.slots.length : Nat) x = true) :
    Calls Try.prog 54 #[.agg (insW x), .slice (some ⟨g, 0, none⟩) m cap] w fun e w' => e = .returned (.agg (plW (placeP l x))) ∧ Below w.heap.size w w' := by
  have hm : m = l.slots.length := by obtain ⟨_, _, _, hv, _⟩ := h.parts SyOk; cases hv; rfl
  by_cases hop : x.op = 3 ∨ x.op = 4
  · obtain ⟨hb, ha⟩ : vOk (l.slots.length : Nat) x.b = true ∧ (x.a = -1 ∨ vOk (l.slots.length : Nat) x.a = true) := by
      rcases insOk_slots hx with ⟨e, _⟩ | ⟨e, _⟩ | ⟨e, _⟩ | ⟨_, _, hb, ha, _⟩ | ⟨_, hb, ha, _⟩ | ⟨e, _⟩ | e
      all_goals first | exact ⟨hb, ha⟩ | omega
    obtain ⟨op, d, a, b, c, n, t⟩ := x
    simp only at hop hb ha
    obtain ⟨nb, rfl, hnb⟩ := vOk_natS hb
    obtain ⟨⟨bb, ob⟩, eb⟩ : ∃ s, l.slots[nb] = s := ⟨_, rfl⟩
    have E : placeP l ⟨op, d, a, (nb : Int), c, n, t⟩ = ⟨n, min (l.oget a).base bb, max (l.oget a).base bb, wrap64 ((l.oget a).off + ob)⟩ := by
      unfold placeP; rw [if_pos hop]; simp only [Led.get_atS hnb, eb]
    rw [E]
    simp only [insW, plW]
    by_cases hn : a = -1
    · subst hn
      have e0 : l.oget (-1) = ⟨-1, 0⟩ := if_pos rfl
      rw [e0]
      exact l06Place_none op d c n nb t l.slots hop w B g m cap h hm hnb bb ob eb
    · obtain ⟨na, rfl, hna⟩ := vOk_natS (ha.resolve_left hn)
      obtain ⟨⟨ba, oa⟩, ea⟩ : ∃ s, l.slots[na] = s := ⟨_, rfl⟩
      have e0 : l.oget (na : Int) = ⟨ba, oa⟩ := by unfold Led.oget; rw [if_neg hn, Led.get_atS hna, ea]
      rw [e0]
      exact l06Place_some op d c n nb t l.slots hop w B g m cap h hm hnb bb ob eb na hna ba oa ea
  · have E : placeP l x = ⟨-1, 0, 0, 0⟩ := if_neg hop
    rw [E]
    exact l06Place_no x hop w _
/-- A slot is told anew, then memory grows. -/
theorem sy_end {w W : World} {B g m cap : Nat} {l : List Sym} (h : OwnE SyE w B (.slice (some ⟨g, 0, none⟩) m cap) l) (j : Nat) (hj : j < l.length) (s : Sym)
    (bel : Below ((w.setCell ⟨g, j * 2, none⟩ (.int .i64 s.base)).setCell ⟨g, j * 2 + 1, none⟩ (.int .i64 s.off)).heap.size ((w.setCell ⟨g, j * 2, none⟩ (.int .i64 s.base)).setCell ⟨g, j * 2 + 1, none⟩ (.int .i64 s.off)) W) :
    But g w W ∧ OwnE SyE W B (.slice (some ⟨g, 0, none⟩) m cap) (l.set j s) :=
  ⟨But.on (((But.refl g w).set _ _).set _ _) bel, (sy_set h j hj s).stays bel⟩
theorem but_end {w W : World} {B b g m cap : Nat} {l : List Sym} (h : OwnE SyE w B (.slice (some ⟨g, 0, none⟩) m cap) l) (j : Nat) (hj : j < l.length) (s : Sym)
    (hb : But b w W) (hw : w.heap.size ≤ b) : But g w ((W.setCell ⟨g, j * 2, none⟩ (.int .i64 s.base)).setCell ⟨g, j * 2 + 1, none⟩ (.int .i64 s.off)) ∧ OwnE SyE ((W.setCell ⟨g, j * 2, none⟩ (.int .i64 s.base)).setCell ⟨g, j * 2 + 1, none⟩ (.int .i64 s.off)) B (.slice (some ⟨g, 0, none⟩) m cap) (l.set j s) := by
  have hbel : Below w.heap.size w W := hb.below hw (Nat.le_refl _)
  exact ⟨((But.on (But.refl g w) hbel).set _ _).set _ _, sy_set (h.stays hbel) j hj s⟩
set_option maxRecDepth 100000 in
set_option maxHeartbeats 4000000 in
theorem l06Step_const (l : List Sym) (f : Nat) (nd : Nat) (a b c n : Int) (t : ByteArray) (w : World) (B g m cap : Nat) (h : OwnE SyE w B (.slice (some ⟨g, 0, none⟩) m cap) l) (hm : m = l.length) (hnd : nd < l.length) :
    Calls Try.prog 46 #[.agg #[.int .i64 0, .int .i64 (nd : Int), .int .i64 a, .int .i64 b, .int .i64 c, .int .i64 n, .string t], .slice (some ⟨g, 0, none⟩) m cap, .int .i64 (f : Int)] w fun e w' => e = .returned (.int .i64 f) ∧ But g w w' ∧ OwnE SyE w' B (.slice (some ⟨g, 0, none⟩) m cap) (l.set nd ⟨-1, n⟩) := by
  have H := hideP h
  have hx : m ≤ maxLen := by obtain ⟨_, _, _, hv, _, _, h1, h2, _⟩ := h.parts SyOk; cases hv; omega
  have hmx := maxLen_lt
  obtain ⟨c0, c1, f0, f1, hg⟩ := sy_at h nd hnd
  have hmd := hm ▸ hnd
  have hg1 : g < w.heap.size + 1 := by omega
  have hg2 : g < w.heap.size + 1 + 1 := by omega
  clear h
  go_enter Try.func46, Try.ntmps46
  go_wp2
  go_ret
  exact ⟨rfl, sy_end H.out nd hnd ⟨-1, n⟩ (below2 _ _ _)⟩
set_option maxRecDepth 100000 in
set_option maxHeartbeats 4000000 in
theorem l06Step_move (l : List Sym) (f : Nat) (nd na : Nat) (b c n : Int) (t : ByteArray) (w : World) (B g m cap : Nat) (h : OwnE SyE w B (.slice (some ⟨g, 0, none⟩) m cap) l) (hm : m = l.length) (hnd : nd < l.length) (hna : na < l.length) :
    Calls Try.prog 46 #[.agg #[.int .i64 1, .int .i64 (nd : Int), .int .i64 (na : Int), .int .i64 b, .int .i64 c, .int .i64 n, .string t], .slice (some ⟨g, 0, none⟩) m cap, .int .i64 (f : Int)] w fun e w' => e = .returned (.int .i64 f) ∧ But g w w' ∧ OwnE SyE w' B (.slice (some ⟨g, 0, none⟩) m cap) (l.set nd l[na]) := by
  have H := hideP h
  have hx : m ≤ maxLen := by obtain ⟨_, _, _, hv, _, _, h1, h2, _⟩ := h.parts SyOk; cases hv; omega
  have hmx := maxLen_lt
  obtain ⟨c0, c1, f0, f1, hg⟩ := sy_at h nd hnd
  have hmd := hm ▸ hnd
  have hg1 : g < w.heap.size + 1 := by omega
  have hg2 : g < w.heap.size + 1 + 1 := by omega
  obtain ⟨k0, k1, _, _, _⟩ := sy_at h na hna
  have hma := hm ▸ hna
  obtain ⟨s, hs⟩ : ∃ s, l[na] = s := ⟨_, rfl⟩
  rw [hs] at k0 k1 ⊢
  clear h hs
  go_enter Try.func46, Try.ntmps46
  go_wp2
  go_ret
  exact ⟨rfl, sy_end H.out nd hnd s (below2 _ _ _)⟩
set_option maxRecDepth 100000 in
set_option maxHeartbeats 4000000 in
theorem l06Step_load (l : List Sym) (f : Nat) (nd : Nat) (a b c n : Int) (t : ByteArray) (w : World) (B g m cap : Nat) (h : OwnE SyE w B (.slice (some ⟨g, 0, none⟩) m cap) l) (hm : m = l.length) (hnd : nd < l.length) (hf : f ≤ 1000000) :
    Calls Try.prog 46 #[.agg #[.int .i64 3, .int .i64 (nd : Int), .int .i64 a, .int .i64 b, .int .i64 c, .int .i64 n, .string t], .slice (some ⟨g, 0, none⟩) m cap, .int .i64 (f : Int)] w fun e w' => e = .returned (.int .i64 ((f + 1 : Nat) : Int)) ∧ But g w w' ∧ OwnE SyE w' B (.slice (some ⟨g, 0, none⟩) m cap) (l.set nd ⟨(f : Int), 0⟩) := by
  have H := hideP h
  have hx : m ≤ maxLen := by obtain ⟨_, _, _, hv, _, _, h1, h2, _⟩ := h.parts SyOk; cases hv; omega
  have hmx := maxLen_lt
  obtain ⟨c0, c1, f0, f1, hg⟩ := sy_at h nd hnd
  have hmd := hm ▸ hnd
  have hg1 : g < w.heap.size + 1 := by omega
  have hg2 : g < w.heap.size + 1 + 1 := by omega
  clear h
  go_enter Try.func46, Try.ntmps46
  go_wp2
  go_ret
  exact ⟨ret_int (by omega), sy_end H.out nd hnd ⟨(f : Int), 0⟩ (below2 _ _ _)⟩
set_option maxRecDepth 100000 in
set_option maxHeartbeats 4000000 in
theorem l06Step_get (l : List Sym) (f : Nat) (nd : Nat) (a b c n : Int) (t : ByteArray) (w : World) (B g m cap : Nat) (h : OwnE SyE w B (.slice (some ⟨g, 0, none⟩) m cap) l) (hm : m = l.length) (hnd : nd < l.length) (hf : f ≤ 1000000) :
    Calls Try.prog 46 #[.agg #[.int .i64 5, .int .i64 (nd : Int), .int .i64 a, .int .i64 b, .int .i64 c, .int .i64 n, .string t], .slice (some ⟨g, 0, none⟩) m cap, .int .i64 (f : Int)] w fun e w' => e = .returned (.int .i64 ((f + 1 : Nat) : Int)) ∧ But g w w' ∧ OwnE SyE w' B (.slice (some ⟨g, 0, none⟩) m cap) (l.set nd ⟨(f : Int), 0⟩) := by
  have H := hideP h
  have hx : m ≤ maxLen := by obtain ⟨_, _, _, hv, _, _, h1, h2, _⟩ := h.parts SyOk; cases hv; omega
  have hmx := maxLen_lt
  obtain ⟨c0, c1, f0, f1, hg⟩ := sy_at h nd hnd
  have hmd := hm ▸ hnd
  have hg1 : g < w.heap.size + 1 := by omega
  have hg2 : g < w.heap.size + 1 + 1 := by omega
  clear h
  go_enter Try.func46, Try.ntmps46
  go_wp2
  go_ret
  exact ⟨ret_int (by omega), sy_end H.out nd hnd ⟨(f : Int), 0⟩ (below2 _ _ _)⟩
set_option maxRecDepth 100000 in
set_option maxHeartbeats 4000000 in
theorem l06Step_none (l : List Sym) (f : Nat) (op d a b c n : Int) (t : ByteArray) (w : World) (B g m cap : Nat) (h : OwnE SyE w B (.slice (some ⟨g, 0, none⟩) m cap) l) (hm : m = l.length) (hop : op = 4 ∨ op = 6) :
    Calls Try.prog 46 #[.agg #[.int .i64 op, .int .i64 d, .int .i64 a, .int .i64 b, .int .i64 c, .int .i64 n, .string t], .slice (some ⟨g, 0, none⟩) m cap, .int .i64 (f : Int)] w fun e w' => e = .returned (.int .i64 f) ∧ But g w w' ∧ OwnE SyE w' B (.slice (some ⟨g, 0, none⟩) m cap) l := by
  have H := hideP h
  have hx : m ≤ maxLen := by obtain ⟨_, _, _, hv, _, _, h1, h2, _⟩ := h.parts SyOk; cases hv; omega
  have hmx := maxLen_lt
  clear h
  rcases hop with rfl | rfl
  · go_enter Try.func46, Try.ntmps46
    go_wp2
    go_ret
    exact ⟨rfl, But.on (But.refl g w) (below2 w _ _), H.out.stays (below2 w _ _)⟩
  · go_enter Try.func46, Try.ntmps46
    go_wp2
    go_ret
    exact ⟨rfl, But.on (But.refl g w) (below2 w _ _), H.out.stays (below2 w _ _)⟩
theorem set2_heap {w : World} {g : Nat} {T : TypeId} {c0 c1 v0 v1 : Value} (h : w.heap[g]? = some (.cells #[c0, c1] T (0, 0))) : ((w.setCell ⟨g, 0, none⟩ v0).setCell ⟨g, 1, none⟩ v1).heap[g]? = some (.cells #[v0, v1] T (0, 0)) := by
  have h0 := heap_setCell_same w g 0 _ T v0 h
  have h1 := heap_setCell_same _ g 1 _ T v1 h0
  rw [h1]; rfl
theorem But.afterS {b : Nat} {w w1 w2 : World} (h : But b w w1) (k : But b w1 w2) : But b w w2 :=
  ⟨k.os.trans h.os, k.tape.trans h.tape, k.output.trans h.output, Nat.le_trans h.size k.size, fun i hi hne => (k.block i (Nat.lt_of_lt_of_le hi h.size) hne).trans (h.block i hi hne)⟩
set_option maxRecDepth 100000 in
set_option maxHeartbeats 4000000 in
theorem l06Step_bin (l : List Sym) (f : Nat) (nd na nb : Nat) (c n : Int) (t : ByteArray) (w : World) (B g m cap : Nat) (h : OwnE SyE w B (.slice (some ⟨g, 0, none⟩) m cap) l) (hm : m = l.length) (hnd : nd < l.length) (hna : na < l.length) (hnb : nb < l.length) (hf : f ≤ 1000000) :
    Calls Try.prog 46 #[.agg #[.int .i64 2, .int .i64 (nd : Int), .int .i64 (na : Int), .int .i64 (nb : Int), .int .i64 c, .int .i64 n, .string t], .slice (some ⟨g, 0, none⟩) m cap, .int .i64 (f : Int)] w fun e w' => e = .returned (.int .i64 (match (symBin t.toList l[na] l[nb]) with | some _ => (f : Int) | none => ((f + 1 : Nat) : Int))) ∧ But g w w' ∧ OwnE SyE w' B (.slice (some ⟨g, 0, none⟩) m cap) (l.set nd ((symBin t.toList l[na] l[nb]).getD ⟨(f : Int), 0⟩)) := by
  have H := hideP h
  have hx : m ≤ maxLen := by obtain ⟨_, _, _, hv, _, _, h1, h2, _⟩ := h.parts SyOk; cases hv; omega
  have hmx := maxLen_lt
  obtain ⟨c0, c1, f0, f1, hg⟩ := sy_at h nd hnd
  have hmd := hm ▸ hnd
  have hg1 : g < w.heap.size + 1 := by omega
  have hg2 : g < w.heap.size + 1 + 1 := by omega
  obtain ⟨k0, k1, _, _, _⟩ := sy_at h na hna
  obtain ⟨j0, j1, _, _, _⟩ := sy_at h nb hnb
  have hma := hm ▸ hna
  have hmb := hm ▸ hnb
  obtain ⟨⟨ba, oa⟩, ea⟩ : ∃ s, l[na] = s := ⟨_, rfl⟩
  obtain ⟨⟨bb, ob⟩, eb⟩ : ∃ s, l[nb] = s := ⟨_, rfl⟩
  rw [ea] at k0 k1
  rw [eb] at j0 j1
  rw [ea, eb]
  obtain ⟨r, hr⟩ : ∃ r, symBin t.toList ⟨ba, oa⟩ ⟨bb, ob⟩ = r := ⟨_, rfl⟩
  have BN : Hid (∀ W, Calls Try.prog 59 #[.string t, .agg #[.int .i64 ba, .int .i64 oa], .agg #[.int .i64 bb, .int .i64 ob]] W fun e w' => e = .returned (.tuple #[.agg #[.int .i64 (r.getD ⟨0, 0⟩).base, .int .i64 (r.getD ⟨0, 0⟩).off], .bool r.isSome]) ∧ Below W.heap.size W w') := fun W => by
    have := l06Bin_any t ba oa bb ob W
    rw [hr] at this; exact this
  rw [hr]
  clear hr ea eb
  obtain ⟨⟨rb, ro⟩, hrr⟩ : ∃ s, r.getD ⟨0, 0⟩ = s := ⟨_, rfl⟩
  rw [hrr] at BN
  have HRR := hideP hrr
  clear hrr
  have SK : Hid (∀ W', But (w.heap.size + 1) ((w.alloc (.cells #[.int .i64 2, .int .i64 (nd : Int), .int .i64 (na : Int), .int .i64 (nb : Int), .int .i64 c, .int .i64 n, .string t] 66)).alloc (.cells #[.int .i64 0, .int .i64 0] 51)) W' → W'.cell? ⟨w.heap.size, 1, none⟩ = some (.int .i64 (nd : Int)) ∧ W'.cell? ⟨w.heap.size, 2, none⟩ = some (.int .i64 (na : Int)) ∧ W'.cell? ⟨w.heap.size, 3, none⟩ = some (.int .i64 (nb : Int)) ∧ W'.cell? ⟨w.heap.size, 6, none⟩ = some (.string t) ∧ W'.cell? ⟨g, na * 2, none⟩ = some (.int .i64 ba) ∧ W'.cell? ⟨g, na * 2 + 1, none⟩ = some (.int .i64 oa) ∧ W'.cell? ⟨g, nb * 2, none⟩ = some (.int .i64 bb) ∧ W'.cell? ⟨g, nb * 2 + 1, none⟩ = some (.int .i64 ob)) := fun W' hb => by
    have q := (cells_of (heap_alloc2_old w (.cells #[.int .i64 2, .int .i64 (nd : Int), .int .i64 (na : Int), .int .i64 (nb : Int), .int .i64 c, .int .i64 n, .string t] 66) (.cells #[.int .i64 0, .int .i64 0] 51))).1
    have hs : w.heap.size < ((w.alloc (.cells #[.int .i64 2, .int .i64 (nd : Int), .int .i64 (na : Int), .int .i64 (nb : Int), .int .i64 c, .int .i64 n, .string t] 66)).alloc (.cells #[.int .i64 0, .int .i64 0] 51)).heap.size := by simp; omega
    have hgs : g < ((w.alloc (.cells #[.int .i64 2, .int .i64 (nd : Int), .int .i64 (na : Int), .int .i64 (nb : Int), .int .i64 c, .int .i64 n, .string t] 66)).alloc (.cells #[.int .i64 0, .int .i64 0] 51)).heap.size := by simp; omega
    have b2 := below2 w (.cells #[.int .i64 2, .int .i64 (nd : Int), .int .i64 (na : Int), .int .i64 (nb : Int), .int .i64 c, .int .i64 n, .string t] 66) (.cells #[.int .i64 0, .int .i64 0] 51)
    exact ⟨(hb.cell hs (by omega)).trans (q 1), (hb.cell hs (by omega)).trans (q 2), (hb.cell hs (by omega)).trans (q 3), (hb.cell hs (by omega)).trans (q 6), (hb.cell hgs (by omega)).trans ((b2.cell (p := ⟨g, na * 2, none⟩) hg).trans k0), (hb.cell hgs (by omega)).trans ((b2.cell (p := ⟨g, na * 2 + 1, none⟩) hg).trans k1), (hb.cell hgs (by omega)).trans ((b2.cell (p := ⟨g, nb * 2, none⟩) hg).trans j0), (hb.cell hgs (by omega)).trans ((b2.cell (p := ⟨g, nb * 2 + 1, none⟩) hg).trans j1)⟩
  have HD := hideP (heap_alloc2_new w (.cells #[.int .i64 2, .int .i64 (nd : Int), .int .i64 (na : Int), .int .i64 (nb : Int), .int .i64 c, .int .i64 n, .string t] 66) (.cells #[.int .i64 0, .int .i64 0] 51))
  have B2 := hideP (below2 w (.cells #[.int .i64 2, .int .i64 (nd : Int), .int .i64 (na : Int), .int .i64 (nb : Int), .int .i64 c, .int .i64 n, .string t] 66) (.cells #[.int .i64 0, .int .i64 0] 51))
  clear h k0 k1 j0 j1 c0 c1 f0 f1
  subst hm
  go_enter Try.func46, Try.ntmps46
  go_upto_region 9 with fail
  obtain ⟨W0, hW0⟩ : ∃ W0, ((w.alloc (.cells #[.int .i64 2, .int .i64 (nd : Int), .int .i64 (na : Int), .int .i64 (nb : Int), .int .i64 c, .int .i64 n, .string t] 66)).alloc (.cells #[.int .i64 0, .int .i64 0] 51)) = W0 := ⟨_, rfl⟩
  rw [hW0] at SK HD B2 ⊢
  clear hW0
  go_region_held3 (fun W' => W'.cell? ⟨w.heap.size, 1, none⟩ = some (.int .i64 (nd : Int)) ∧ W'.cell? ⟨w.heap.size, 2, none⟩ = some (.int .i64 (na : Int)) ∧ W'.cell? ⟨w.heap.size, 3, none⟩ = some (.int .i64 (nb : Int)) ∧ W'.cell? ⟨w.heap.size, 6, none⟩ = some (.string t) ∧ W'.cell? ⟨g, na * 2, none⟩ = some (.int .i64 ba) ∧ W'.cell? ⟨g, na * 2 + 1, none⟩ = some (.int .i64 oa) ∧ W'.cell? ⟨g, nb * 2, none⟩ = some (.int .i64 bb) ∧ W'.cell? ⟨g, nb * 2 + 1, none⟩ = some (.int .i64 ob)) (first | exact SK.out _ (But.on (But.refl _ _) (Below.refl _ _).drew) | exact SK.out _ BU.out | exact SK.out _ (BU.out.set _ _) | exact SK.out _ ((BU.out.set _ _).set _ _)) (first
      | (go_at_call 59; refine (BN.out _).mono ?_; rintro e1 w1 ⟨rfl, bel1⟩; have BU := hideP ((But.on (But.refl (w.heap.size + 1) W0) (Below.refl _ _).drew).on bel1); have D1 := hideP ((bel1.block (w.heap.size + 1) (Array.getElem?_eq_some_iff.1 HD.out).1).trans HD.out); have d0 := (cells_of D1.out).1 0; have d1 := (cells_of D1.out).1 1; have d2 := (cells_of D1.out).2 0; have d3 := (cells_of D1.out).2 1; simp at d0 d1; clear bel1))
  all_goals
    have HB := hideP ((BU.out.set 0 (.int .i64 rb)).set 1 (.int .i64 ro))
    have HX := hideP (set2_heap (v0 := .int .i64 rb) (v1 := .int .i64 ro) D1.out)
    clear d0 d1 d2 d3 D1 BU
    obtain ⟨wc, hwc⟩ : ∃ wc, (w1.setCell ⟨w.heap.size + 1, 0, none⟩ (.int .i64 rb)).setCell ⟨w.heap.size + 1, 1, none⟩ (.int .i64 ro) = wc := ⟨_, rfl⟩
    rw [hwc] at HB HX ⊢
    clear hwc
    obtain ⟨q1, _, _, _, _⟩ := SK.out _ HB.out
    have x0 := (cells_of HX.out).1 0
    have x1 := (cells_of HX.out).1 1
    have x2 := (cells_of HX.out).2 0
    have x3 := (cells_of HX.out).2 1
    simp at x0 x1
    have BW : Hid (But (w.heap.size + 1) w wc) := by
      refine ⟨HB.out.os.trans B2.out.os, HB.out.tape.trans B2.out.tape, HB.out.output.trans B2.out.output, Nat.le_trans B2.out.size HB.out.size, fun k hk hne => (HB.out.block k (Nat.lt_of_lt_of_le hk B2.out.size) hne).trans (B2.out.block k hk)⟩
    have OC := hideP (H.out.stays (BW.out.below (Nat.le_succ _) (Nat.le_refl _)))
    obtain ⟨c0, c1, f0, f1, hgc⟩ := sy_at OC.out nd hnd
    clear SK HD B2 HB BN OC
    cases r with
    | some s =>
      obtain rfl : s = ⟨rb, ro⟩ := HRR.out
      go_wp2
      go_ret
      exact ⟨rfl, but_end H.out nd hnd ⟨rb, ro⟩ BW.out (Nat.le_succ _)⟩
    | none =>
      go_wp2
      go_ret
      refine ⟨ret_int (by omega), ?_⟩
      exact but_end H.out nd hnd ⟨(f : Int), 0⟩ ((BW.out.set _ _).set _ _) (Nat.le_succ _)
end Go.Proofs.Ytgiboadcfnfooab
