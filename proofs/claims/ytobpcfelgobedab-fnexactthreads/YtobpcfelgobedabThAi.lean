/- Rows of truths in a block of their own. -/
import Derived.Test.YtobpcfelgobedabSl
import Derived.Test.YtobpcfelgobedabThPl
import Derived.Deep.LoopGhost
namespace Go.Proofs.Ytobpcfelgobedab
open Go.ChangeShapes Go.WideShapes Go.ChangeAt Go.RowKit
/-- Block g is a row of truths, the first n as f says. -/
def TruIs (w : World) (g n : Nat) (f : Nat → Bool) : Prop := ∃ cur : Array Value, w.heap[g]? = some (.cells cur 4 (0, 0)) ∧ n ≤ cur.size ∧ ∀ i, i < n → cur[i]? = some (.bool (f i))
section
variable {w w' : World} {g n : Nat} {f f' : Nat → Bool}
theorem TruIs.lt (h : TruIs w g n f) : g < w.heap.size := let ⟨_, h1, _⟩ := h; (Array.getElem?_eq_some_iff.1 h1).1
theorem TruIs.keep (h : TruIs w g n f) (hk : w'.heap[g]? = w.heap[g]?) : TruIs w' g n f := let ⟨c, h1, h2⟩ := h; ⟨c, hk.trans h1, h2⟩
theorem TruIs.stays (h : TruIs w g n f) (b : Below w.heap.size w w') : TruIs w' g n f := h.keep (b.block _ h.lt)
theorem TruIs.congr (h : TruIs w g n f) (e : ∀ i, i < n → f i = f' i) : TruIs w g n f' := let ⟨c, h1, h2, h3⟩ := h; ⟨c, h1, h2, fun i hi => by rw [← e i hi]; exact h3 i hi⟩
theorem TruIs.at (h : TruIs w g n f) {i : Nat} (hi : i < n) : w.cell? ⟨g, i, none⟩ = some (.bool (f i)) ∧ w.frozen? ⟨g, i, none⟩ = false := by
  obtain ⟨cur, hh, _, hc⟩ := h
  exact ⟨by simp [World.cell?, hh, hc i hi], by simp [World.frozen?, hh]⟩
theorem TruIs.set (h : TruIs w g n f) {i : Nat} (hi : i < n) {b : Bool} (e : ∀ j, j < n → f' j = if j = i then b else f j) : TruIs (w.setCell ⟨g, i, none⟩ (.bool b)) g n f' := by
  obtain ⟨cur, hh, hs, hc⟩ := h
  refine ⟨_, heap_setCell_same w g i cur _ _ hh, by simpa using hs, fun j hj => ?_⟩
  rw [Array.getElem?_setIfInBounds, e j hj]
  by_cases he : i = j
  · subst he; rw [if_pos rfl, if_pos (by omega), if_pos rfl]
  · rw [if_neg he, hc j hj, if_neg (fun e => he e.symm)]
end
theorem infoTr : (Try.prog.info? 4).map (fun i => (i.zero, i.size, i.bytes)) = some (some (.bool false), 1, 1) := by kernel_rfl
theorem make_tru (V : Nat) (hV : V ≤ 1000) (W : World) : (Instr.makeSlice 54 (.int .i64 (V : Int)) (.int .i64 (V : Int))).run Try.prog W = .ok (.slice (some ⟨W.heap.size, 0, none⟩) V V) (W.alloc (.cells (madeCells #[.bool false] V) 4)) := by
  have := make_n (P := Try.prog) Try.underlying54 infoTr V (by omega) (by omega) W
  rw [Nat.mul_one] at this
  exact this
theorem made_tru (w : World) (n : Nat) : TruIs (w.alloc (.cells (madeCells #[.bool false] n) 4)) w.heap.size n (fun _ => false) :=
  ⟨_, by show (w.heap.push _)[w.heap.size]? = _; exact Array.getElem?_push_size, by rw [size_madeCells]; exact Nat.le_refl _, fun s hs => by simp [madeCells, hs, Nat.mod_one]⟩
end Go.Proofs.Ytobpcfelgobedab

/- The contract of spec.l16Aim. -/
namespace Go.Proofs.Ytobpcfelgobedab
open Go.ChangeShapes Go.WideShapes Go.ChangeAt Go.RowKit
set_option maxHeartbeats 8000000 in
set_option maxRecDepth 100000 in
theorem l16Aim_any (g : Gr) (i : Nat) (w : World) (B : Nat) (gv : Array Value) (h : GrIs w B gv g) (hg : grOk g = true) (hi : i < g.blocks.length) :
    Calls Try.prog 15 #[.agg gv, .int .i64 (i : Int)] w fun e w' => e = .returned (.int .i64 (aimT g.blocks (i : Int))) ∧ Below w.heap.size w w' := by
  have hbl := grOk_blocks hg
  have HT := hideP (fun b (hb : b ∈ g.blocks) (hj : b.jump = 0) => jump_to hg hb (Or.inl hj))
  obtain ⟨sizes, params, vars, slots, blocks⟩ := g
  obtain ⟨us, cs, ub, cb, rfl, _, _, hb⟩ := h
  simp only at *
  have hm := maxLen_lt
  have HB := hideP hb
  have hmk := make_tru blocks.length (by omega)
  have A0 := hideP (AmI.start hi)
  obtain ⟨R, hR⟩ : ∃ R, aimT blocks (i : Int) = R := ⟨_, rfl⟩
  rw [hR] at A0 ⊢
  obtain ⟨w1, hw1⟩ : ∃ w1, w.alloc (.cells #[.slice us sizes.length cs, .int .i64 params, .int .i64 vars, .int .i64 slots, .slice ub blocks.length cb] 29) = w1 := ⟨_, rfl⟩
  have hz1 : w1.heap.size = w.heap.size + 1 := by rw [← hw1]; simp
  have X1 : Hid (w1.heap[w.heap.size]? = some (.cells #[.slice us sizes.length cs, .int .i64 params, .int .i64 vars, .int .i64 slots, .slice ub blocks.length cb] 29)) := by show _ = _; rw [← hw1]; show (w.heap.push _)[w.heap.size]? = _; exact Array.getElem?_push_size
  have B1 : Hid (Below w.heap.size w w1) := by show Below _ _ _; rw [← hw1]; exact (Below.refl _ _).alloc (Nat.le_refl _) _
  have al := (Below.refl w1.heap.size w1).alloc (Nat.le_refl _) (.cells (madeCells #[.bool false] blocks.length) 4)
  have X2 := hideP ((al.block _ (Array.getElem?_eq_some_iff.1 X1.out).1).trans X1.out)
  have B2 := hideP (below_trans B1.out al)
  have T0 := hideP (made_tru w1 blocks.length)
  have HZ1 := hideP hz1
  have g4 := (cells_of X1.out).1 4
  simp at g4
  clear hb hR al hz1
  go_enter Try.func15, Try.ntmps15
  go_wp2
  clear hmk g4 hw1 X1 B1
  go_loopg [1] blocks.length (fun gk a wr => ∃ (S : List Int) (k : Nat), a = .int .i64 k ∧ Hid (AmI blocks R S k gk) ∧ Hid (TruIs wr w1.heap.size blocks.length (fun q => decide ((q : Int) ∈ S))) ∧ Hid (But w1.heap.size (w1.alloc (.cells (madeCells #[.bool false] blocks.length) 4)) wr))
  case atStart => exact ⟨[], i, rfl, A0.out, T0.out.congr (fun q _ => by simp), But.refl _ _⟩
  case round =>
    obtain ⟨S, k, rfl, hI, hS, hB⟩ := hrel
    clear A0 T0
    obtain ⟨f', rfl⟩ := hI.out.few
    have hkn := hI.out.lt
    have X5 := hideP ((hB.out.block _ (Array.getElem?_eq_some_iff.1 X2.out).1 (by have := HZ1.out; omega)).trans X2.out)
    have BE : Hid (Below w.heap.size w wr) := B2.out.trans (hB.out.below (by have := HZ1.out; omega) B2.out.size)
    have g4 := (cells_of X5.out).1 4
    simp at g4
    obtain ⟨b0, o0, code, jump, a, t0, els, ux, kx, rfl, _, hbb, hx, q0, q1, q2, q3, q4, hbX⟩ := Blk_get HB.out k hkn
    have ht0 : Hid (jump = 0 → InR blocks.length t0) := fun h => by
      have := HT.out blocks[k] (List.getElem_mem hkn)
      rw [hx] at this
      exact this h
    have OFF : Hid (¬ onB ⟨code, jump, a, t0, els⟩ (S ++ [(k : Int)]) → R = (k : Int)) := fun h => hI.out.off (by rw [hx]; exact h)
    have ON : Hid (∀ k' : Nat, onB ⟨code, jump, a, t0, els⟩ (S ++ [(k : Int)]) → t0 = (k' : Int) → k' < blocks.length → AmI blocks R (S ++ [(k : Int)]) k' f') := fun k' h h1 h2 => hI.out.on (by rw [hx]; exact h) (by rw [hx]; exact h1) h2
    have z0 := (BE.out.cell (p := ⟨b0, _, none⟩) hbb).trans q0
    have z1 := (BE.out.cell (p := ⟨b0, _, none⟩) hbb).trans q1
    have z3 := (BE.out.cell (p := ⟨b0, _, none⟩) hbb).trans q3
    obtain ⟨nc, hnc⟩ : ∃ nc : Nat, code.length = nc := ⟨_, rfl⟩
    rw [hnc] at z0
    have HNC := hideP hnc
    have k0 : (0 : Int) ≤ (k : Int) := by omega
    have k1 : (k : Int) < (blocks.length : Int) := by omega
    clear hnc hx hbX q0 q1 q2 q3 q4 hI
    by_cases hc : nc = 0
    case neg =>
      have E := hideP (OFF.out (fun h => hc (HNC.out.symm.trans h.1)))
      have hp : ((nc : Int) == 0) = false := by simpa using hc
      clear OFF ON ht0
      go_wp2
      go_ret
      exact ⟨by rw [E.out]; rfl, BE.out⟩
    case pos =>
      subst hc
      by_cases hj : jump = 0
      case neg =>
        have E := hideP (OFF.out (fun h => hj h.2.1))
        have hjb : (jump == 0) = false := by simpa using hj
        clear OFF ON ht0
        go_wp2
        go_ret
        exact ⟨by rw [E.out]; rfl, BE.out⟩
      case pos =>
        have hr := ht0.out hj
        obtain ⟨k', rfl⟩ : ∃ k' : Nat, t0 = (k' : Int) := ⟨t0.toNat, by have := hr.1; omega⟩
        have hk' : k' < blocks.length := by have := hr.2; omega
        subst hj
        obtain ⟨t1, _⟩ := hS.out.at hk'
        have m0 : (0 : Int) ≤ (k' : Int) := by omega
        have m1 : (k' : Int) < (blocks.length : Int) := by omega
        by_cases hmem : (k' : Int) ∈ S
        · have E := hideP (OFF.out (fun h => h.2.2 (List.mem_append_left _ hmem)))
          rw [decide_eq_true hmem] at t1
          clear OFF ON ht0 hmem
          go_wp2
          go_ret
          exact ⟨by rw [E.out]; rfl, BE.out⟩
        · rw [decide_eq_false hmem] at t1
          obtain ⟨t2, tf2⟩ := hS.out.at hkn
          have S1 : Hid (TruIs (wr.setCell ⟨w1.heap.size, k, none⟩ (.bool true)) w1.heap.size blocks.length (fun q => decide ((q : Int) ∈ S ++ [(k : Int)]))) := hS.out.set hkn (fun q _ => by
            simp only [List.mem_append, List.mem_singleton]
            by_cases hq : q = k
            · subst hq; simp
            · have : ¬ (q : Int) = (k : Int) := by omega
              simp [hq, this])
          have hB2 := hideP (hB.out.set k (.bool true))
          have BE2 : Hid (Below w.heap.size w (wr.setCell ⟨w1.heap.size, k, none⟩ (.bool true))) := B2.out.trans (hB2.out.below (by have := HZ1.out; omega) B2.out.size)
          have X6 := hideP ((hB2.out.block _ (Array.getElem?_eq_some_iff.1 X2.out).1 (by have := HZ1.out; omega)).trans X2.out)
          have y0 := (But.cell ((But.refl w1.heap.size wr).set k (.bool true)) (c := b0) (i := o0 + k * 5 + 3) (by have := BE.out.size; omega) (by have := HZ1.out; omega)).trans z3
          have s5 := (S1.out.at hk').1
          have x4 := (cells_of X6.out).1 4
          simp at x4
          by_cases hkk : k' = k
          · subst hkk
            have E := hideP (OFF.out (fun h => h.2.2 (List.mem_append_right _ (by simp))))
            rw [decide_eq_true (show ((k' : Nat) : Int) ∈ S ++ [(k' : Int)] from List.mem_append_right _ (by simp))] at s5
            clear OFF ON ht0 hmem hS hB
            go_wp2
            go_ret
            exact ⟨by rw [E.out]; rfl, BE2.out⟩
          · have hnm : ¬ (k' : Int) ∈ S ++ [(k : Int)] := fun h => by
              rcases List.mem_append.1 h with h | h
              · exact hmem h
              · exact hkk (by have := List.mem_singleton.1 h; omega)
            rw [decide_eq_false hnm] at s5
            have A6 := hideP (ON.out k' ⟨HNC.out, rfl, hnm⟩ rfl hk')
            clear OFF ON ht0 hmem hS hB hnm
            go_wp2
            go_roundg f'
            case rel => exact ⟨S ++ [(k : Int)], k', rfl, A6.out, S1.out, hB2.out⟩
            case measure => omega
end Go.Proofs.Ytobpcfelgobedab
