/- The contract of impl.graphCopy. -/
import Derived.Test.YtobpcfelgobedabGrCp0
import Derived.Test.YtobpcfelgobedabMksE
import Derived.Laws.Rows
import Derived.Deep.RegionHeld3
namespace Go.Proofs.Ytobpcfelgobedab
open Go.ChangeShapes Go.WideShapes Go.ChangeAt Go.RowKit
theorem blk_newG (w : World) (o : Obj) : (w.alloc o).heap[w.heap.size]? = some o := by show (w.heap.push o)[w.heap.size]? = _; exact Array.getElem?_push_size
theorem RowOf.mono {w : World} {B B' : Nat} {T : TypeId} {sz : Nat} {v : Value} {n : Nat} {vs : Nat → Array Value} (h : RowOf w B T sz v n vs) (hB : B' ≤ B) : RowOf w B' T sz v n vs := by
  obtain ⟨a, c, hv, h0 | ⟨g, cur, ha, hB', hr⟩⟩ := h
  · exact ⟨a, c, hv, Or.inl h0⟩
  · exact ⟨a, c, hv, Or.inr ⟨g, cur, ha, Nat.le_trans hB hB', hr⟩⟩
/-- Its parts are no greater than a law's are. -/
def Fits (x : Gr) : Prop := x.sizes.length ≤ 1048576 ∧ x.blocks.length ≤ 1048576 ∧ ∀ i (_ : i < x.blocks.length), (x.blocks[i]).code.length ≤ 1048576 ∧ ∀ y ∈ (x.blocks[i]).code, y.t.size ≤ 1048576
theorem fits_of {x : Gr} (hn : x.sz ≤ 1048576) : Fits x := by
  refine ⟨by simp only [Gr.sz, slSz] at hn; omega, by simp only [Gr.sz, slSz] at hn; omega, fun i hi => ?_⟩
  have h1 := slSum_mem Blk.sz (List.getElem_mem hi)
  simp only [Gr.sz, slSz] at hn
  have h2 : (x.blocks[i]).sz ≤ 1048576 := by omega
  simp only [Blk.sz, slSz] at h2
  refine ⟨by omega, fun y hy => ?_⟩
  have h3 := slSum_mem Ins.sz hy
  simp only [Ins.sz] at h3 h2
  omega
set_option maxRecDepth 100000 in
set_option maxHeartbeats 4000000 in
theorem graphCopy_any (x : Gr) (w : World) (B : Nat) (v : Array Value) (h : GrIs w B v x) (hn : Fits x) :
    Calls Try.prog 18 #[.agg v] w fun en w' => ∃ v' S b cs, en = .returned (.agg v') ∧ GrIs w' w.heap.size v' x ∧ GOwn w' v' S b 0 cs ∧ (∀ c ∈ grL S b 0 cs, w.heap.size ≤ c.1 ∧ c.1 < w'.heap.size) ∧ S.n = x.sizes.length ∧ cs.length = x.blocks.length ∧ (∀ i (h : i < cs.length), cs[i].n = (x.blocks[i]!).code.length) ∧ Below w.heap.size w w' := by
  have CL := hideP hn.2.2
  obtain ⟨sizes, p, q, r, blocks⟩ := x
  obtain ⟨us, cs, ub, cb, rfl, hwf, hs, hb⟩ := h
  have hl1 : sizes.length ≤ 1048576 := hn.1
  have hl2 : blocks.length ≤ 1048576 := hn.2.1
  obtain ⟨hbm, vs, hbr, hbx⟩ := id hb
  have hsm := hs.1
  have SR := hideP (ints_row hs)
  have BR := hideP hbr
  have BX := hideP hbx
  simp only at *
  have HWF := hideP hwf
  have al := below2 w (.cells #[.slice us sizes.length cs, .int .i64 p, .int .i64 q, .int .i64 r, .slice ub blocks.length cb] 29) (.cells #[.slice none 0 0, .int .i64 0, .int .i64 0, .int .i64 0, .slice none 0 0] 29)
  have tw := fun w1 => two (w := w) (w1 := w1) (o1 := .cells #[.slice us sizes.length cs, .int .i64 p, .int .i64 q, .int .i64 r, .slice ub blocks.length cb] 29) (o2 := .cells #[.slice none 0 0, .int .i64 0, .int .i64 0, .int .i64 0, .slice none 0 0] 29)
  have AL := hideP al
  have TW := hideP tw
  have hz : ((w.alloc (.cells #[.slice us sizes.length cs, .int .i64 p, .int .i64 q, .int .i64 r, .slice ub blocks.length cb] 29)).alloc (.cells #[.slice none 0 0, .int .i64 0, .int .i64 0, .int .i64 0, .slice none 0 0] 29)).heap.size = w.heap.size + 2 := by simp
  have HZ := hideP hz
  clear hs hb hbr hbx hn hwf al tw hz
  go_enter Try.func18, Try.ntmps18
  go_wp2_with fail
  refine (cloneI sizes.length _ B us cs _ (SR.out.below AL.out) (fun i _ u hu => by simp at hu; subst hu; rfl) (by omega)).mono ?_
  rintro e1 w1 ⟨v1, rfl, o1, bel1⟩
  have T1 := TW.out w1 bel1
  rw [HZ.out] at o1
  have B1 := hideP (below_trans AL.out bel1)
  obtain ⟨sa, kS, rfl, ho1⟩ := id o1
  obtain ⟨P1, R1, L1, _⟩ := T1
  have S1 : Hid (sizes.length = 0 ∨ ∃ gs cur, sa = some ⟨gs, 0, none⟩ ∧ w.heap.size + 2 ≤ gs ∧ gs < w1.heap.size ∧ w1.heap[gs]? = some (.cells cur 3 (0, 0)) ∧ sizes.length ≤ cur.size ∧ ∀ i, i < sizes.length → cur[i]? = some (.int .i64 (sizes[i]!))) := by
    rcases ho1 with h0 | ⟨gs, cur, h1, h2, h3, h4, h5⟩
    · exact Or.inl h0
    · exact Or.inr ⟨gs, cur, h1, h2, hltH h3, h3, by omega, fun i hi => by have := h5 i hi 0 (by omega); simpa using this⟩
  have c0 := (cells_of P1).1 0
  have c4 := (cells_of P1).1 4
  have cf := (cells_of P1).2 0
  simp at c0 c4
  have W1P : (w1.setCell ⟨w.heap.size, 0, none⟩ (.slice sa sizes.length kS)).heap[w.heap.size]? = some (.cells #[.slice sa sizes.length kS, .int .i64 p, .int .i64 q, .int .i64 r, .slice ub blocks.length cb] 29 (0, 0)) := heap_setCell_same w1 _ _ _ _ _ P1
  have W1R := (Below.heap_setCell w1 ⟨w.heap.size, 0, none⟩ (.slice sa sizes.length kS) (w.heap.size + 1) (by simp)).trans R1
  have W1O := hideP (fun k (hk : w.heap.size < k) => Below.heap_setCell w1 ⟨w.heap.size, 0, none⟩ (.slice sa sizes.length kS) k (by simp only; omega))
  have W1B := hideP (B1.out.setCell (p := ⟨w.heap.size, 0, none⟩) (Nat.le_refl _) (.slice sa sizes.length kS))
  have W1Z := size_set w1 ⟨w.heap.size, 0, none⟩ (.slice sa sizes.length kS)
  have H1P := hideP W1P
  have H1R := hideP W1R
  have H1Z := hideP W1Z
  clear o1 ho1 bel1 P1 R1 TW AL HZ B1 W1P W1R W1Z
  go_wp2_with fail
  obtain ⟨W1, hW1⟩ : ∃ W1, w1.setCell ⟨w.heap.size, 0, none⟩ (.slice sa sizes.length kS) = W1 := ⟨_, rfl⟩
  rw [hW1] at H1P H1R H1Z W1O W1B ⊢
  clear hW1 c0 c4 cf
  refine (cloneB blocks.length _ B ub cb _ (BR.out.below W1B.out) (fun i hi => blkv_one (BX.out i hi)) (by omega)).mono ?_
  rintro e2 w2 ⟨v2, rfl, o2, bel2⟩
  obtain ⟨ab, kB, rfl, ho2⟩ := id o2
  have P2 := (bel2.block _ (hltH H1P.out)).trans H1P.out
  have R2 := (bel2.block _ (hltH H1R.out)).trans H1R.out
  have hZ := H1Z.out
  have hB2 := bel2.size
  have W2P : (w2.setCell ⟨w.heap.size, 4, none⟩ (.slice ab blocks.length kB)).heap[w.heap.size]? = some (.cells #[.slice sa sizes.length kS, .int .i64 p, .int .i64 q, .int .i64 r, .slice ab blocks.length kB] 29 (0, 0)) := heap_setCell_same w2 _ _ _ _ _ P2
  have W2O : ∀ k, w.heap.size < k → (w2.setCell ⟨w.heap.size, 4, none⟩ (.slice ab blocks.length kB)).heap[k]? = w2.heap[k]? := fun k hk => Below.heap_setCell w2 ⟨w.heap.size, 4, none⟩ (.slice ab blocks.length kB) k (by simp only; omega)
  have W2R := (W2O (w.heap.size + 1) (by omega)).trans R2
  have W2B := hideP ((below_trans W1B.out bel2).setCell (p := ⟨w.heap.size, 4, none⟩) (Nat.le_refl _) (.slice ab blocks.length kB))
  have W2Z := size_set w2 ⟨w.heap.size, 4, none⟩ (.slice ab blocks.length kB)
  obtain ⟨g, hg⟩ : ∃ g, (ab.map (·.block)).getD 0 = g := ⟨_, rfl⟩
  have G0 : Hid (GC w.heap.size w1.heap.size g sizes p q r blocks vs sa kS ab kB [] (w2.setCell ⟨w.heap.size, 4, none⟩ (.slice ab blocks.length kB))) := {
    low := L1
    big := by rw [W2Z]; omega
    box := W2P
    res := W2R
    szs := by
      rcases S1.out with h0 | ⟨gs, cur, h1, h2, h3, h4, h5⟩
      · exact Or.inl h0
      · refine Or.inr ⟨gs, cur, h1, h2, h3, ?_, h5⟩
        rw [W2O gs (by omega), bel2.block gs (by omega), W1O.out gs (by omega)]; exact h4
    few := Nat.zero_le _
    glow := fun h0 => by
      rcases ho2 with h1 | ⟨g', cur, h1, h2, h3, h4, h5⟩
      · omega
      · rw [h1] at hg ⊢; simp at hg; subst hg; exact ⟨by omega, rfl⟩
    blk := fun h0 => by
      rcases ho2 with h1 | ⟨g', cur, h1, h2, h3, h4, h5⟩
      · omega
      · rw [h1] at hg; simp at hg; subst hg
        exact ⟨cur, (W2O _ (by omega)).trans h3, h4, fun i hi r _ hr => h5 i hi r hr, fun i _ hi => h5 i hi 0 (by omega), fun i hi => absurd hi (Nat.not_lt_zero _)⟩
    num := fun i hi => absurd hi (Nat.not_lt_zero _)
    code := fun i hi => absurd hi (Nat.not_lt_zero _)
    dis := fun i k hi => absurd hi (Nat.not_lt_zero _) }
  have c4 := (cells_of P2).1 4
  have cf := (cells_of P2).2 4
  simp at c4
  clear hg ho2 o2 bel2 P2 R2 W2P W2O W2R W2Z H1P H1R W1B W1O H1Z S1 SR hZ hB2
  go_upto_region 3 with fail
  obtain ⟨W2, hW2⟩ : ∃ W2, w2.setCell ⟨w.heap.size, 4, none⟩ (.slice ab blocks.length kB) = W2 := ⟨_, rfl⟩
  rw [hW2] at G0 W2B ⊢
  clear hW2 c4 cf
  have c4 := (cells_of G0.out.box).1 4
  simp at c4
  go_wp2
  clear c4
  go_loopg [16] blocks.length (fun gk ix wr => ∃ rows : List CRow, gk + rows.length = blocks.length ∧ ix = .int .i64 rows.length ∧ Hid (GC w.heap.size w1.heap.size g sizes p q r blocks vs sa kS ab kB rows wr) ∧ Hid (Below w.heap.size w wr))
  case atStart => exact ⟨[], rfl, rfl, G0.out, W2B.out⟩
  case round =>
    obtain ⟨rows, hgk, rfl, hG, hB⟩ := hrel
    clear G0 W2B
    by_cases hlt : rows.length < blocks.length
    · obtain ⟨hgM, hab⟩ := hG.out.glow (by omega)
      obtain ⟨cur, k1, k2, k3, k4, _⟩ := hG.out.blk (by omega)
      have k3' := k3 rows.length hlt
      have k4' := k4 rows.length (Nat.le_refl _) hlt
      obtain ⟨uc, cc, hv, _, hcode⟩ := BX.out rows.length hlt
      have cle := CL.out rows.length hlt
      have hbe := getElem!_pos blocks rows.length hlt
      obtain ⟨⟨code, jump, a, t0, els⟩, hX⟩ : ∃ x, blocks[rows.length] = x := ⟨_, rfl⟩
      rw [hX] at hv hcode cle hbe
      simp only at hv hcode cle
      rw [hv] at k3' k4'
      subst hab
      have q0 : wr.cell? ⟨g, rows.length * 5, none⟩ = some (.slice uc code.length cc) := by simp only [World.cell?, k1]; exact k4'
      have q1 : wr.cell? ⟨g, rows.length * 5 + 1, none⟩ = some (.int .i64 jump) := by simp only [World.cell?, k1]; exact k3' 1 (by omega) (by omega)
      have q2 : wr.cell? ⟨g, rows.length * 5 + 2, none⟩ = some (.int .i64 a) := by simp only [World.cell?, k1]; exact k3' 2 (by omega) (by omega)
      have q3 : wr.cell? ⟨g, rows.length * 5 + 3, none⟩ = some (.int .i64 t0) := by simp only [World.cell?, k1]; exact k3' 3 (by omega) (by omega)
      have q4 : wr.cell? ⟨g, rows.length * 5 + 4, none⟩ = some (.int .i64 els) := by simp only [World.cell?, k1]; exact k3' 4 (by omega) (by omega)
      have hX4 := hG.out.box
      have hgl := hltH k1
      have al := (Below.refl wr.heap.size wr).alloc (Nat.le_refl _) (.cells #[.slice uc code.length cc, .int .i64 jump, .int .i64 a, .int .i64 t0, .int .i64 els] 40)
      have AL := hideP al
      have SK : Hid (∀ W', Below (wr.alloc (.cells #[.slice uc code.length cc, .int .i64 jump, .int .i64 a, .int .i64 t0, .int .i64 els] 40)).heap.size (wr.alloc (.cells #[.slice uc code.length cc, .int .i64 jump, .int .i64 a, .int .i64 t0, .int .i64 els] 40)) W' → W'.cell? ⟨w.heap.size, 4, none⟩ = some (.slice (some ⟨g, 0, none⟩) blocks.length kB) ∧ W'.cell? ⟨wr.heap.size, 0, none⟩ = some (.slice uc code.length cc) ∧ W'.cell? ⟨g, rows.length * 5, none⟩ = some (.slice uc code.length cc) ∧ W'.frozen? ⟨g, rows.length * 5, none⟩ = false) := fun W' bel => by
        have hb := below_trans al bel
        have n1 := (bel.block _ (by simp)).trans (blk_newG wr (.cells #[.slice uc code.length cc, .int .i64 jump, .int .i64 a, .int .i64 t0, .int .i64 els] 40))
        exact ⟨(cells_of ((hb.block _ (hltH hX4)).trans hX4)).1 4, (cells_of n1).1 0, (hb.cell (p := ⟨g, _, none⟩) hgl).trans q0, (cells_of ((hb.block _ hgl).trans k1)).2 _⟩
      have CC : Hid (∀ W', Below wr.heap.size wr W' → Calls Try.prog 35 #[.slice uc code.length cc] W' fun en w' => ∃ a' c', en = .returned (.slice a' code.length c') ∧ RowOf w' wr.heap.size 62 7 (.slice a' code.length c') code.length (fun i => insA (code[i]!)) ∧ Below W'.heap.size W' w') := fun W' bel => by
        refine (codeCopy_any code W' B uc cc (hcode.stays InsKeeps (below_trans hB.out bel)) cle.1 cle.2).mono ?_
        rintro en w' ⟨v', rfl, ho, hb⟩
        obtain ⟨a', c', rfl, _⟩ := id ho
        exact ⟨a', c', rfl, ho.mono bel.size, hb⟩
      have HBE := hideP hbe
      clear k1 k2 k3 k4 k3' k4' hv hcode cle hbe hX hX4 al
      go_upto_region 6 with fail
      have SK2 : Hid (∀ W' v, Below (wr.alloc (.cells #[.slice uc code.length cc, .int .i64 jump, .int .i64 a, .int .i64 t0, .int .i64 els] 40)).heap.size (wr.alloc (.cells #[.slice uc code.length cc, .int .i64 jump, .int .i64 a, .int .i64 t0, .int .i64 els] 40)) W' → (W'.setCell ⟨g, rows.length * 5, none⟩ v).cell? ⟨w.heap.size, 4, none⟩ = some (.slice (some ⟨g, 0, none⟩) blocks.length kB) ∧ (W'.setCell ⟨g, rows.length * 5, none⟩ v).cell? ⟨wr.heap.size, 0, none⟩ = some (.slice uc code.length cc)) := fun W' v bel => by
        obtain ⟨s1, s2, _⟩ := SK.out W' bel
        exact ⟨(World.cell?_of_block (a := ⟨w.heap.size, 4, none⟩) (Below.heap_setCell W' ⟨g, rows.length * 5, none⟩ v w.heap.size (by simp only; omega))).trans s1, (World.cell?_of_block (a := ⟨wr.heap.size, 0, none⟩) (Below.heap_setCell W' ⟨g, rows.length * 5, none⟩ v wr.heap.size (by simp only; omega))).trans s2⟩
      have SK1 : Hid (∀ W', Below (wr.alloc (.cells #[.slice uc code.length cc, .int .i64 jump, .int .i64 a, .int .i64 t0, .int .i64 els] 40)).heap.size (wr.alloc (.cells #[.slice uc code.length cc, .int .i64 jump, .int .i64 a, .int .i64 t0, .int .i64 els] 40)) W' → W'.cell? ⟨w.heap.size, 4, none⟩ = some (.slice (some ⟨g, 0, none⟩) blocks.length kB) ∧ W'.cell? ⟨wr.heap.size, 0, none⟩ = some (.slice uc code.length cc)) := fun W' bel => ⟨(SK.out W' bel).1, (SK.out W' bel).2.1⟩
      go_region_held3 (fun W' => W'.cell? ⟨w.heap.size, 4, none⟩ = some (.slice (some ⟨g, 0, none⟩) blocks.length kB) ∧ W'.cell? ⟨wr.heap.size, 0, none⟩ = some (.slice uc code.length cc)) (first | exact SK1.out _ (Below.refl _ _).drew | exact SK1.out _ FR.out | exact SK2.out _ _ FR.out) (first
        | (go_at_call 35; refine (CC.out _ AL.out.drew).mono ?_; rintro yy wy ⟨a', c', rfl, on, fn⟩; have ON := hideP on; have FR : Hid (Below (wr.alloc (.cells #[.slice uc code.length cc, .int .i64 jump, .int .i64 a, .int .i64 t0, .int .i64 els] 40)).heap.size (wr.alloc (.cells #[.slice uc code.length cc, .int .i64 jump, .int .i64 a, .int .i64 t0, .int .i64 els] 40)) wy) := (Below.refl _ _).drew.trans (fn.mono (Nat.le_refl _)); obtain ⟨_, _, f1, f2⟩ := SK.out _ FR.out; clear on fn))
      clear SK1 SK2
      have B3 := below_trans AL.out FR.out
      obtain ⟨c, g3⟩ := hG.out.step B3 rfl hlt (L := code) (by rw [HBE.out]) ON.out
      have G3 := hideP g3
      have B4 := hideP ((below_trans hB.out B3).setCell (p := ⟨g, rows.length * 5, none⟩) (by simp only; omega) (.slice a' code.length c'))
      clear g3 B3 SK CC AL FR ON hG hB q0 q1 q2 q3 q4
      go_wp2
      go_roundg (blocks.length - (rows.length + 1))
      case rel => exact ⟨rows ++ [c], by simp; omega, by simp only [List.length_append, List.length_singleton]; go_num, G3.out, B4.out⟩
      case measure => omega
    · have hE : rows.length = blocks.length := by omega
      have c0 := (cells_of hG.out.box).1 0
      have c1 := (cells_of hG.out.box).1 1
      have c2 := (cells_of hG.out.box).1 2
      have c3 := (cells_of hG.out.box).1 3
      have c4 := (cells_of hG.out.box).1 4
      have r0 := (cells_of hG.out.res).1 0
      have r1 := (cells_of hG.out.res).1 1
      have r2 := (cells_of hG.out.res).1 2
      have r3 := (cells_of hG.out.res).1 3
      have r4 := (cells_of hG.out.res).1 4
      have rf := (cells_of hG.out.res).2
      simp at c0 c1 c2 c3 c4 r0 r1 r2 r3 r4
      have z := hG.out.res
      have z0 := heap_setCell_same wr _ 0 _ _ (.slice sa sizes.length kS) z
      have z1 := heap_setCell_same _ _ 1 _ _ (.int .i64 p) z0
      have z2 := heap_setCell_same _ _ 2 _ _ (.int .i64 q) z1
      have z3 := heap_setCell_same _ _ 3 _ _ (.int .i64 r) z2
      have z4 : (((((wr.setCell ⟨w.heap.size + 1, 0, none⟩ (.slice sa sizes.length kS)).setCell ⟨w.heap.size + 1, 1, none⟩ (.int .i64 p)).setCell ⟨w.heap.size + 1, 2, none⟩ (.int .i64 q)).setCell ⟨w.heap.size + 1, 3, none⟩ (.int .i64 r)).setCell ⟨w.heap.size + 1, 4, none⟩ (.slice ab blocks.length kB)).heap[w.heap.size + 1]? = some (.cells #[.slice sa sizes.length kS, .int .i64 p, .int .i64 q, .int .i64 r, .slice ab blocks.length kB] 29 (0, 0)) := heap_setCell_same _ _ 4 _ _ (.slice ab blocks.length kB) z3
      have ZF := hideP z4
      have BU := hideP (((((But.refl (w.heap.size + 1) wr).set 0 (.slice sa sizes.length kS)).set 1 (.int .i64 p)).set 2 (.int .i64 q)).set 3 (.int .i64 r) |>.set 4 (.slice ab blocks.length kB))
      clear z z0 z1 z2 z3 z4
      rw [hE]
      go_wp2
      refine bodyPost_ret (results_cell_row rfl _ _ (w.heap.size + 1) 29 #[.slice sa sizes.length kS, .int .i64 p, .int .i64 q, .int .i64 r, .slice ab blocks.length kB] (0, 0) _ rfl ZF.out Try.underlying29 rfl (by kernel_rfl)) rfl ?_
      obtain ⟨S, hS, ow, lo⟩ := hG.out.own hE
      have hlow := hG.out.low
      have hbig := hG.out.big
      refine ⟨_, S, g, rows, rfl, GrKeeps.mono (GrKeeps.but (hG.out.is hE HWF.out hsm hbm BX.out) (by omega) BU.out) (by omega), ow.above (B := w.heap.size + 2) (fun c hc => (lo c hc).1) (fun k hk hkl => BU.out.block k hkl (by omega)), fun c hc => ?_, hS, hE, fun i hi => (hG.out.num i hi).2, hB.out.trans (BU.out.below (by omega) (by omega))⟩
      have := lo c hc
      have := BU.out.size
      omega
end Go.Proofs.Ytobpcfelgobedab
