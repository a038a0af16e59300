/- The program's ledger: the contract of place (written by wip/mkplace.py). -/
import Derived.Test.YtgiboadcfnfooabLedS
import Derived.Deep.CutRange
import Derived.Laws.Rows
namespace Go.Proofs.Ytgiboadcfnfooab
open Go.ChangeShapes Go.WideShapes Go.ChangeAt Go.RowKit
theorem meth_f (v : Value) (w : World) : (method 240 89 v "loop.example/g00385/impl.parts").run Try.prog w = .ok (96, v) w := by kernel_rfl
theorem meth_d (v : Value) (w : World) : (method 240 104 v "loop.example/g00385/impl.parts").run Try.prog w = .ok (97, v) w := by kernel_rfl
attribute [local go_sem] meth_f meth_d
theorem pl_eq {n i j o i' j' o' : Int} (h1 : i = i') (h2 : j = j') (h3 : o = o') : Ending.returned (.agg #[.int .i64 n, .int .i64 i, .int .i64 j, .int .i64 o]) = .returned (.agg #[.int .i64 n, .int .i64 i', .int .i64 j', .int .i64 o']) := by rw [h1, h2, h3]
theorem keepB {W W' : World} {b : Nat} {o : Obj} (h : W.heap[b]? = some o) (bel : Below W.heap.size W W') : W'.heap[b]? = some o := (bel.block b (Array.getElem?_eq_some_iff.1 h).1).trans h
theorem set4_heap {w : World} {g : Nat} {T : TypeId} {c0 c1 c2 c3 v0 v1 v2 v3 : Value} (h : w.heap[g]? = some (.cells #[c0, c1, c2, c3] T (0, 0))) : ((((w.setCell ⟨g, 0, none⟩ v0).setCell ⟨g, 1, none⟩ v1).setCell ⟨g, 2, none⟩ v2).setCell ⟨g, 3, none⟩ v3).heap[g]? = some (.cells #[v0, v1, v2, v3] T (0, 0)) := by
  have h0 := heap_setCell_same w g 0 _ T v0 h
  have h1 := heap_setCell_same _ g 1 _ T v1 h0
  have h2 := heap_setCell_same _ g 2 _ T v2 h1
  have h3 := heap_setCell_same _ g 3 _ T v3 h2
  rw [h3]; rfl
set_option maxRecDepth 100000 in
set_option maxHeartbeats 4000000 in
theorem place_nf (w : World) (L S : Nat) (l : Led) (op d c n : Int) (nb : Nat) (t : ByteArray) (bb ob : Int) (hop : op = 3 ∨ op = 4) (h : LedIs w L S l) (hnb : nb < l.slots.length) (eb : l.slots[nb] = ⟨bb, ob⟩) (kb : bb = -1) :
    Calls Try.prog 55 #[.pointer (some ⟨L, 0, none⟩), .agg #[.int .i64 op, .int .i64 d, .int .i64 (-1), .int .i64 (nb : Int), .int .i64 c, .int .i64 n, .string t]] w
      fun e w' => e = .returned (.agg #[.int .i64 n, .int .i64 (min (-1) bb), .int .i64 (max (-1) bb), .int .i64 (wrap64 (0 + ob))]) ∧ Below w.heap.size w w' := by
  have HH := hideP h
  have TO : Hid (∀ W, Calls Try.prog 56 #[.agg #[.int .i64 op, .int .i64 d, .int .i64 (-1), .int .i64 (nb : Int), .int .i64 c, .int .i64 n, .string t]] W fun e w' => e = .returned (.bool true) ∧ Below W.heap.size W w') := fun W => by
    have := touches_any ⟨op, d, (-1), (nb : Int), c, n, t⟩ W
    simpa [insV, hop] using this
  have BW := hideP (below2 w (.cells #[.int .i64 op, .int .i64 d, .int .i64 (-1), .int .i64 (nb : Int), .int .i64 c, .int .i64 n, .string t] 66) (.cells #[.int .i64 0, .int .i64 0, .int .i64 0, .int .i64 0] 71))
  have Q0 := hideP (two (Below.refl ((w.alloc (.cells #[.int .i64 op, .int .i64 d, .int .i64 (-1), .int .i64 (nb : Int), .int .i64 c, .int .i64 n, .string t] 66)).alloc (.cells #[.int .i64 0, .int .i64 0, .int .i64 0, .int .i64 0] 71)).heap.size _)).1
  have Q1 := hideP (two (Below.refl ((w.alloc (.cells #[.int .i64 op, .int .i64 d, .int .i64 (-1), .int .i64 (nb : Int), .int .i64 c, .int .i64 n, .string t] 66)).alloc (.cells #[.int .i64 0, .int .i64 0, .int .i64 0, .int .i64 0] 71)).heap.size _)).2.1
  clear h hop
  go_enter Try.func55, Try.ntmps55
  go_wp2_with fail
  refine (TO.out _).mono ?_
  rintro e1 w1 ⟨rfl, bel1⟩
  replace HH := hideP (HH.out.stays (below_trans BW.out bel1))
  replace BW := hideP (below_trans BW.out bel1)
  replace Q0 := hideP (keepB Q0.out bel1)
  replace Q1 := hideP (keepB Q1.out bel1)
  clear bel1
  have q0 := (cells_of Q0.out).1
  have hd := HH.out.head.1
  have cbb := HH.out.2.2.at nb hnb
  rw [eb] at cbb
  subst kb
  rw [symV_fig] at cbb
  have l0 : w.heap.size < w1.heap.size := (Array.getElem?_eq_some_iff.1 Q0.out).1
  have SK : Hid (∀ W', Below w1.heap.size w1 W' → W'.cell? ⟨w.heap.size, 3, none⟩ = some (.int .i64 (nb : Int)) ∧ W'.cell? ⟨L, 0, none⟩ = some (.slice (some ⟨S, 0, none⟩) l.slots.length l.slots.length) ∧ W'.cell? ⟨S, nb, none⟩ = some (.iface 89 (.int .i64 ob))) := fun W' h => ⟨(h.cell (p := ⟨w.heap.size, 3, none⟩) l0).trans (q0 3), (h.cell (p := ⟨L, 0, none⟩) HH.out.lt.1).trans hd, (h.cell (p := ⟨S, nb, none⟩) HH.out.lt.2).trans cbb⟩
  clear q0 hd cbb l0
  go_upto_region 3 with fail
  go_cut [5, 6] from 5 to 24 (fun s5 s6 wx => s5 = .int .i64 (-1) ∧ s6 = .int .i64 ob ∧ Hid (Below w1.heap.size w1 wx))
  case first =>
    go_region_held3 (fun W' => W'.cell? ⟨w.heap.size, 3, none⟩ = some (.int .i64 (nb : Int)) ∧ W'.cell? ⟨L, 0, none⟩ = some (.slice (some ⟨S, 0, none⟩) l.slots.length l.slots.length) ∧ W'.cell? ⟨S, nb, none⟩ = some (.iface 89 (.int .i64 ob))) (first | exact SK.out _ (Below.refl _ _).drew | exact SK.out _ HBa.out) (first
      | (go_at_call 96; refine (figParts_any ob _).mono ?_; rintro ea wa ⟨rfl, bela⟩; have HBa := hideP ((Below.refl w1.heap.size w1).drew.trans (bela.mono (Nat.le_refl _))); clear bela))
    all_goals (go_wp2_with fail; go_meet; exact ⟨rfl, rfl, HBa⟩)
  case rest =>
  obtain ⟨rfl, rfl, hc⟩ := hcut
  replace HH := hideP (HH.out.stays hc.out)
  replace BW := hideP (below_trans BW.out hc.out)
  replace Q0 := hideP (keepB Q0.out hc.out)
  replace Q1 := hideP (keepB Q1.out hc.out)
  clear hc SK
  have q0 := (cells_of Q0.out).1
  have q2 := q0 2
  have q5 := q0 5
  have q1 := cells_of Q1.out
  have g0 := q1.1 0
  have g1 := q1.1 1
  have g2 := q1.1 2
  have g3 := q1.1 3
  have f0 := q1.2 0
  have f1 := q1.2 1
  have f2 := q1.2 2
  have f3 := q1.2 3
  simp at q2 q5 g0 g1 g2 g3
  clear q0 q1
  have hres : Try.f55.results = #[.cell 4 71] := by kernel_rfl
  go_wp2
  all_goals first | omega | skip
  all_goals
    refine bodyPost_ret (results_cell_row hres _ _ (w.heap.size + 1) 71 _ (0, 0) _ rfl (set4_heap Q1.out) Try.underlying71 rfl (by kernel_rfl)) rfl ?_
    refine ⟨?_, (((BW.out.setCell (Nat.le_succ _) _).setCell (Nat.le_succ _) _).setCell (Nat.le_succ _) _).setCell (Nat.le_succ _) _⟩
    exact pl_eq (by omega) (by omega) (by first | rfl | simp [Int.add_comm])
set_option maxRecDepth 100000 in
set_option maxHeartbeats 4000000 in
theorem place_nd (w : World) (L S : Nat) (l : Led) (op d c n : Int) (nb : Nat) (t : ByteArray) (bb ob : Int) (hop : op = 3 ∨ op = 4) (h : LedIs w L S l) (hnb : nb < l.slots.length) (eb : l.slots[nb] = ⟨bb, ob⟩) (kb : bb ≠ -1) :
    Calls Try.prog 55 #[.pointer (some ⟨L, 0, none⟩), .agg #[.int .i64 op, .int .i64 d, .int .i64 (-1), .int .i64 (nb : Int), .int .i64 c, .int .i64 n, .string t]] w
      fun e w' => e = .returned (.agg #[.int .i64 n, .int .i64 (min (-1) bb), .int .i64 (max (-1) bb), .int .i64 (wrap64 (0 + ob))]) ∧ Below w.heap.size w w' := by
  have HH := hideP h
  have TO : Hid (∀ W, Calls Try.prog 56 #[.agg #[.int .i64 op, .int .i64 d, .int .i64 (-1), .int .i64 (nb : Int), .int .i64 c, .int .i64 n, .string t]] W fun e w' => e = .returned (.bool true) ∧ Below W.heap.size W w') := fun W => by
    have := touches_any ⟨op, d, (-1), (nb : Int), c, n, t⟩ W
    simpa [insV, hop] using this
  have BW := hideP (below2 w (.cells #[.int .i64 op, .int .i64 d, .int .i64 (-1), .int .i64 (nb : Int), .int .i64 c, .int .i64 n, .string t] 66) (.cells #[.int .i64 0, .int .i64 0, .int .i64 0, .int .i64 0] 71))
  have Q0 := hideP (two (Below.refl ((w.alloc (.cells #[.int .i64 op, .int .i64 d, .int .i64 (-1), .int .i64 (nb : Int), .int .i64 c, .int .i64 n, .string t] 66)).alloc (.cells #[.int .i64 0, .int .i64 0, .int .i64 0, .int .i64 0] 71)).heap.size _)).1
  have Q1 := hideP (two (Below.refl ((w.alloc (.cells #[.int .i64 op, .int .i64 d, .int .i64 (-1), .int .i64 (nb : Int), .int .i64 c, .int .i64 n, .string t] 66)).alloc (.cells #[.int .i64 0, .int .i64 0, .int .i64 0, .int .i64 0] 71)).heap.size _)).2.1
  clear h hop
  go_enter Try.func55, Try.ntmps55
  go_wp2_with fail
  refine (TO.out _).mono ?_
  rintro e1 w1 ⟨rfl, bel1⟩
  replace HH := hideP (HH.out.stays (below_trans BW.out bel1))
  replace BW := hideP (below_trans BW.out bel1)
  replace Q0 := hideP (keepB Q0.out bel1)
  replace Q1 := hideP (keepB Q1.out bel1)
  clear bel1
  have q0 := (cells_of Q0.out).1
  have hd := HH.out.head.1
  have cbb := HH.out.2.2.at nb hnb
  rw [eb] at cbb
  rw [symV_dist kb] at cbb
  have l0 : w.heap.size < w1.heap.size := (Array.getElem?_eq_some_iff.1 Q0.out).1
  have SK : Hid (∀ W', Below w1.heap.size w1 W' → W'.cell? ⟨w.heap.size, 3, none⟩ = some (.int .i64 (nb : Int)) ∧ W'.cell? ⟨L, 0, none⟩ = some (.slice (some ⟨S, 0, none⟩) l.slots.length l.slots.length) ∧ W'.cell? ⟨S, nb, none⟩ = some (.iface 104 (.agg #[.int .i64 bb, .int .i64 ob]))) := fun W' h => ⟨(h.cell (p := ⟨w.heap.size, 3, none⟩) l0).trans (q0 3), (h.cell (p := ⟨L, 0, none⟩) HH.out.lt.1).trans hd, (h.cell (p := ⟨S, nb, none⟩) HH.out.lt.2).trans cbb⟩
  clear q0 hd cbb l0
  go_upto_region 3 with fail
  go_cut [5, 6] from 5 to 24 (fun s5 s6 wx => s5 = .int .i64 bb ∧ s6 = .int .i64 ob ∧ Hid (Below w1.heap.size w1 wx))
  case first =>
    go_region_held3 (fun W' => W'.cell? ⟨w.heap.size, 3, none⟩ = some (.int .i64 (nb : Int)) ∧ W'.cell? ⟨L, 0, none⟩ = some (.slice (some ⟨S, 0, none⟩) l.slots.length l.slots.length) ∧ W'.cell? ⟨S, nb, none⟩ = some (.iface 104 (.agg #[.int .i64 bb, .int .i64 ob]))) (first | exact SK.out _ (Below.refl _ _).drew | exact SK.out _ HBa.out) (first
      | (go_at_call 97; refine (distParts_any bb ob _).mono ?_; rintro ea wa ⟨rfl, bela⟩; have HBa := hideP ((Below.refl w1.heap.size w1).drew.trans (bela.mono (Nat.le_refl _))); clear bela))
    all_goals (go_wp2_with fail; go_meet; exact ⟨rfl, rfl, HBa⟩)
  case rest =>
  obtain ⟨rfl, rfl, hc⟩ := hcut
  replace HH := hideP (HH.out.stays hc.out)
  replace BW := hideP (below_trans BW.out hc.out)
  replace Q0 := hideP (keepB Q0.out hc.out)
  replace Q1 := hideP (keepB Q1.out hc.out)
  clear hc SK
  have q0 := (cells_of Q0.out).1
  have q2 := q0 2
  have q5 := q0 5
  have q1 := cells_of Q1.out
  have g0 := q1.1 0
  have g1 := q1.1 1
  have g2 := q1.1 2
  have g3 := q1.1 3
  have f0 := q1.2 0
  have f1 := q1.2 1
  have f2 := q1.2 2
  have f3 := q1.2 3
  simp at q2 q5 g0 g1 g2 g3
  clear q0 q1
  have hres : Try.f55.results = #[.cell 4 71] := by kernel_rfl
  go_wp2
  all_goals first | omega | skip
  all_goals
    refine bodyPost_ret (results_cell_row hres _ _ (w.heap.size + 1) 71 _ (0, 0) _ rfl (set4_heap Q1.out) Try.underlying71 rfl (by kernel_rfl)) rfl ?_
    refine ⟨?_, (((BW.out.setCell (Nat.le_succ _) _).setCell (Nat.le_succ _) _).setCell (Nat.le_succ _) _).setCell (Nat.le_succ _) _⟩
    exact pl_eq (by omega) (by omega) (by first | rfl | simp [Int.add_comm])
set_option maxRecDepth 100000 in
set_option maxHeartbeats 4000000 in
theorem place_ff (w : World) (L S : Nat) (l : Led) (op d c n : Int) (nb : Nat) (t : ByteArray) (bb ob : Int) (hop : op = 3 ∨ op = 4) (h : LedIs w L S l) (hnb : nb < l.slots.length) (eb : l.slots[nb] = ⟨bb, ob⟩) (kb : bb = -1) (na : Nat) (ba oa : Int) (hna : na < l.slots.length) (ea : l.slots[na] = ⟨ba, oa⟩) (ka : ba = -1) :
    Calls Try.prog 55 #[.pointer (some ⟨L, 0, none⟩), .agg #[.int .i64 op, .int .i64 d, .int .i64 (na : Int), .int .i64 (nb : Int), .int .i64 c, .int .i64 n, .string t]] w
      fun e w' => e = .returned (.agg #[.int .i64 n, .int .i64 (min ba bb), .int .i64 (max ba bb), .int .i64 (wrap64 (oa + ob))]) ∧ Below w.heap.size w w' := by
  have HH := hideP h
  have TO : Hid (∀ W, Calls Try.prog 56 #[.agg #[.int .i64 op, .int .i64 d, .int .i64 (na : Int), .int .i64 (nb : Int), .int .i64 c, .int .i64 n, .string t]] W fun e w' => e = .returned (.bool true) ∧ Below W.heap.size W w') := fun W => by
    have := touches_any ⟨op, d, (na : Int), (nb : Int), c, n, t⟩ W
    simpa [insV, hop] using this
  have BW := hideP (below2 w (.cells #[.int .i64 op, .int .i64 d, .int .i64 (na : Int), .int .i64 (nb : Int), .int .i64 c, .int .i64 n, .string t] 66) (.cells #[.int .i64 0, .int .i64 0, .int .i64 0, .int .i64 0] 71))
  have Q0 := hideP (two (Below.refl ((w.alloc (.cells #[.int .i64 op, .int .i64 d, .int .i64 (na : Int), .int .i64 (nb : Int), .int .i64 c, .int .i64 n, .string t] 66)).alloc (.cells #[.int .i64 0, .int .i64 0, .int .i64 0, .int .i64 0] 71)).heap.size _)).1
  have Q1 := hideP (two (Below.refl ((w.alloc (.cells #[.int .i64 op, .int .i64 d, .int .i64 (na : Int), .int .i64 (nb : Int), .int .i64 c, .int .i64 n, .string t] 66)).alloc (.cells #[.int .i64 0, .int .i64 0, .int .i64 0, .int .i64 0] 71)).heap.size _)).2.1
  clear h hop
  go_enter Try.func55, Try.ntmps55
  go_wp2_with fail
  refine (TO.out _).mono ?_
  rintro e1 w1 ⟨rfl, bel1⟩
  replace HH := hideP (HH.out.stays (below_trans BW.out bel1))
  replace BW := hideP (below_trans BW.out bel1)
  replace Q0 := hideP (keepB Q0.out bel1)
  replace Q1 := hideP (keepB Q1.out bel1)
  clear bel1
  have q0 := (cells_of Q0.out).1
  have hd := HH.out.head.1
  have cbb := HH.out.2.2.at nb hnb
  rw [eb] at cbb
  subst kb
  rw [symV_fig] at cbb
  have l0 : w.heap.size < w1.heap.size := (Array.getElem?_eq_some_iff.1 Q0.out).1
  have SK : Hid (∀ W', Below w1.heap.size w1 W' → W'.cell? ⟨w.heap.size, 3, none⟩ = some (.int .i64 (nb : Int)) ∧ W'.cell? ⟨L, 0, none⟩ = some (.slice (some ⟨S, 0, none⟩) l.slots.length l.slots.length) ∧ W'.cell? ⟨S, nb, none⟩ = some (.iface 89 (.int .i64 ob))) := fun W' h => ⟨(h.cell (p := ⟨w.heap.size, 3, none⟩) l0).trans (q0 3), (h.cell (p := ⟨L, 0, none⟩) HH.out.lt.1).trans hd, (h.cell (p := ⟨S, nb, none⟩) HH.out.lt.2).trans cbb⟩
  clear q0 hd cbb l0
  go_upto_region 3 with fail
  go_cut [5, 6] from 5 to 24 (fun s5 s6 wx => s5 = .int .i64 (-1) ∧ s6 = .int .i64 ob ∧ Hid (Below w1.heap.size w1 wx))
  case first =>
    go_region_held3 (fun W' => W'.cell? ⟨w.heap.size, 3, none⟩ = some (.int .i64 (nb : Int)) ∧ W'.cell? ⟨L, 0, none⟩ = some (.slice (some ⟨S, 0, none⟩) l.slots.length l.slots.length) ∧ W'.cell? ⟨S, nb, none⟩ = some (.iface 89 (.int .i64 ob))) (first | exact SK.out _ (Below.refl _ _).drew | exact SK.out _ HBa.out) (first
      | (go_at_call 96; refine (figParts_any ob _).mono ?_; rintro ea wa ⟨rfl, bela⟩; have HBa := hideP ((Below.refl w1.heap.size w1).drew.trans (bela.mono (Nat.le_refl _))); clear bela))
    all_goals (go_wp2_with fail; go_meet; exact ⟨rfl, rfl, HBa⟩)
  case rest =>
  obtain ⟨rfl, rfl, hc⟩ := hcut
  replace HH := hideP (HH.out.stays hc.out)
  replace BW := hideP (below_trans BW.out hc.out)
  replace Q0 := hideP (keepB Q0.out hc.out)
  replace Q1 := hideP (keepB Q1.out hc.out)
  clear hc SK
  have q0 := (cells_of Q0.out).1
  have q2 := q0 2
  simp at q2
  have hd := HH.out.head.1
  have caa := HH.out.2.2.at na hna
  rw [ea] at caa
  subst ka
  rw [symV_fig] at caa
  have l0 : w.heap.size < wc.heap.size := (Array.getElem?_eq_some_iff.1 Q0.out).1
  have SK : Hid (∀ W', Below wc.heap.size wc W' → W'.cell? ⟨w.heap.size, 2, none⟩ = some (.int .i64 (na : Int)) ∧ W'.cell? ⟨L, 0, none⟩ = some (.slice (some ⟨S, 0, none⟩) l.slots.length l.slots.length) ∧ W'.cell? ⟨S, na, none⟩ = some (.iface 89 (.int .i64 oa))) := fun W' h => ⟨(h.cell (p := ⟨w.heap.size, 2, none⟩) l0).trans (q0 2), (h.cell (p := ⟨L, 0, none⟩) HH.out.lt.1).trans hd, (h.cell (p := ⟨S, na, none⟩) HH.out.lt.2).trans caa⟩
  clear q0 hd caa l0
  obtain ⟨wd, hwd⟩ : ∃ wd, wc = wd := ⟨_, rfl⟩
  subst hwd
  go_upto_region 6 with fail
  clear q2
  go_cut [5, 6, 7, 8] from 5 to 39 (fun s5 s6 s7 s8 wx => s5 = .int .i64 (-1) ∧ s6 = .int .i64 ob ∧ s7 = .int .i64 (-1) ∧ s8 = .int .i64 oa ∧ Hid (Below wc.heap.size wc wx))
  case first =>
    go_region_held3 (fun W' => W'.cell? ⟨w.heap.size, 2, none⟩ = some (.int .i64 (na : Int)) ∧ W'.cell? ⟨L, 0, none⟩ = some (.slice (some ⟨S, 0, none⟩) l.slots.length l.slots.length) ∧ W'.cell? ⟨S, na, none⟩ = some (.iface 89 (.int .i64 oa))) (first | exact SK.out _ (Below.refl _ _).drew | exact SK.out _ HBa.out) (first
      | (go_at_call 96; refine (figParts_any oa _).mono ?_; rintro ea wa ⟨rfl, bela⟩; have HBa := hideP ((Below.refl wc.heap.size wc).drew.trans (bela.mono (Nat.le_refl _))); clear bela))
    all_goals (go_wp2_with fail; go_meet; exact ⟨rfl, rfl, rfl, rfl, HBa⟩)
  case rest =>
  obtain ⟨rfl, rfl, rfl, rfl, hc⟩ := hcut
  replace HH := hideP (HH.out.stays hc.out)
  replace BW := hideP (below_trans BW.out hc.out)
  replace Q0 := hideP (keepB Q0.out hc.out)
  replace Q1 := hideP (keepB Q1.out hc.out)
  clear hc SK
  have q0 := (cells_of Q0.out).1
  have q2 := q0 2
  have q5 := q0 5
  have q1 := cells_of Q1.out
  have g0 := q1.1 0
  have g1 := q1.1 1
  have g2 := q1.1 2
  have g3 := q1.1 3
  have f0 := q1.2 0
  have f1 := q1.2 1
  have f2 := q1.2 2
  have f3 := q1.2 3
  simp at q2 q5 g0 g1 g2 g3
  clear q0 q1
  have hres : Try.f55.results = #[.cell 4 71] := by kernel_rfl
  go_wp2
  all_goals first | omega | skip
  all_goals
    refine bodyPost_ret (results_cell_row hres _ _ (w.heap.size + 1) 71 _ (0, 0) _ rfl (set4_heap Q1.out) Try.underlying71 rfl (by kernel_rfl)) rfl ?_
    refine ⟨?_, (((BW.out.setCell (Nat.le_succ _) _).setCell (Nat.le_succ _) _).setCell (Nat.le_succ _) _).setCell (Nat.le_succ _) _⟩
    exact pl_eq (by omega) (by omega) (by first | rfl | simp [Int.add_comm])
set_option maxRecDepth 100000 in
set_option maxHeartbeats 4000000 in
theorem place_fd (w : World) (L S : Nat) (l : Led) (op d c n : Int) (nb : Nat) (t : ByteArray) (bb ob : Int) (hop : op = 3 ∨ op = 4) (h : LedIs w L S l) (hnb : nb < l.slots.length) (eb : l.slots[nb] = ⟨bb, ob⟩) (kb : bb ≠ -1) (na : Nat) (ba oa : Int) (hna : na < l.slots.length) (ea : l.slots[na] = ⟨ba, oa⟩) (ka : ba = -1) :
    Calls Try.prog 55 #[.pointer (some ⟨L, 0, none⟩), .agg #[.int .i64 op, .int .i64 d, .int .i64 (na : Int), .int .i64 (nb : Int), .int .i64 c, .int .i64 n, .string t]] w
      fun e w' => e = .returned (.agg #[.int .i64 n, .int .i64 (min ba bb), .int .i64 (max ba bb), .int .i64 (wrap64 (oa + ob))]) ∧ Below w.heap.size w w' := by
  have HH := hideP h
  have TO : Hid (∀ W, Calls Try.prog 56 #[.agg #[.int .i64 op, .int .i64 d, .int .i64 (na : Int), .int .i64 (nb : Int), .int .i64 c, .int .i64 n, .string t]] W fun e w' => e = .returned (.bool true) ∧ Below W.heap.size W w') := fun W => by
    have := touches_any ⟨op, d, (na : Int), (nb : Int), c, n, t⟩ W
    simpa [insV, hop] using this
  have BW := hideP (below2 w (.cells #[.int .i64 op, .int .i64 d, .int .i64 (na : Int), .int .i64 (nb : Int), .int .i64 c, .int .i64 n, .string t] 66) (.cells #[.int .i64 0, .int .i64 0, .int .i64 0, .int .i64 0] 71))
  have Q0 := hideP (two (Below.refl ((w.alloc (.cells #[.int .i64 op, .int .i64 d, .int .i64 (na : Int), .int .i64 (nb : Int), .int .i64 c, .int .i64 n, .string t] 66)).alloc (.cells #[.int .i64 0, .int .i64 0, .int .i64 0, .int .i64 0] 71)).heap.size _)).1
  have Q1 := hideP (two (Below.refl ((w.alloc (.cells #[.int .i64 op, .int .i64 d, .int .i64 (na : Int), .int .i64 (nb : Int), .int .i64 c, .int .i64 n, .string t] 66)).alloc (.cells #[.int .i64 0, .int .i64 0, .int .i64 0, .int .i64 0] 71)).heap.size _)).2.1
  clear h hop
  go_enter Try.func55, Try.ntmps55
  go_wp2_with fail
  refine (TO.out _).mono ?_
  rintro e1 w1 ⟨rfl, bel1⟩
  replace HH := hideP (HH.out.stays (below_trans BW.out bel1))
  replace BW := hideP (below_trans BW.out bel1)
  replace Q0 := hideP (keepB Q0.out bel1)
  replace Q1 := hideP (keepB Q1.out bel1)
  clear bel1
  have q0 := (cells_of Q0.out).1
  have hd := HH.out.head.1
  have cbb := HH.out.2.2.at nb hnb
  rw [eb] at cbb
  rw [symV_dist kb] at cbb
  have l0 : w.heap.size < w1.heap.size := (Array.getElem?_eq_some_iff.1 Q0.out).1
  have SK : Hid (∀ W', Below w1.heap.size w1 W' → W'.cell? ⟨w.heap.size, 3, none⟩ = some (.int .i64 (nb : Int)) ∧ W'.cell? ⟨L, 0, none⟩ = some (.slice (some ⟨S, 0, none⟩) l.slots.length l.slots.length) ∧ W'.cell? ⟨S, nb, none⟩ = some (.iface 104 (.agg #[.int .i64 bb, .int .i64 ob]))) := fun W' h => ⟨(h.cell (p := ⟨w.heap.size, 3, none⟩) l0).trans (q0 3), (h.cell (p := ⟨L, 0, none⟩) HH.out.lt.1).trans hd, (h.cell (p := ⟨S, nb, none⟩) HH.out.lt.2).trans cbb⟩
  clear q0 hd cbb l0
  go_upto_region 3 with fail
  go_cut [5, 6] from 5 to 24 (fun s5 s6 wx => s5 = .int .i64 bb ∧ s6 = .int .i64 ob ∧ Hid (Below w1.heap.size w1 wx))
  case first =>
    go_region_held3 (fun W' => W'.cell? ⟨w.heap.size, 3, none⟩ = some (.int .i64 (nb : Int)) ∧ W'.cell? ⟨L, 0, none⟩ = some (.slice (some ⟨S, 0, none⟩) l.slots.length l.slots.length) ∧ W'.cell? ⟨S, nb, none⟩ = some (.iface 104 (.agg #[.int .i64 bb, .int .i64 ob]))) (first | exact SK.out _ (Below.refl _ _).drew | exact SK.out _ HBa.out) (first
      | (go_at_call 97; refine (distParts_any bb ob _).mono ?_; rintro ea wa ⟨rfl, bela⟩; have HBa := hideP ((Below.refl w1.heap.size w1).drew.trans (bela.mono (Nat.le_refl _))); clear bela))
    all_goals (go_wp2_with fail; go_meet; exact ⟨rfl, rfl, HBa⟩)
  case rest =>
  obtain ⟨rfl, rfl, hc⟩ := hcut
  replace HH := hideP (HH.out.stays hc.out)
  replace BW := hideP (below_trans BW.out hc.out)
  replace Q0 := hideP (keepB Q0.out hc.out)
  replace Q1 := hideP (keepB Q1.out hc.out)
  clear hc SK
  have q0 := (cells_of Q0.out).1
  have q2 := q0 2
  simp at q2
  have hd := HH.out.head.1
  have caa := HH.out.2.2.at na hna
  rw [ea] at caa
  subst ka
  rw [symV_fig] at caa
  have l0 : w.heap.size < wc.heap.size := (Array.getElem?_eq_some_iff.1 Q0.out).1
  have SK : Hid (∀ W', Below wc.heap.size wc W' → W'.cell? ⟨w.heap.size, 2, none⟩ = some (.int .i64 (na : Int)) ∧ W'.cell? ⟨L, 0, none⟩ = some (.slice (some ⟨S, 0, none⟩) l.slots.length l.slots.length) ∧ W'.cell? ⟨S, na, none⟩ = some (.iface 89 (.int .i64 oa))) := fun W' h => ⟨(h.cell (p := ⟨w.heap.size, 2, none⟩) l0).trans (q0 2), (h.cell (p := ⟨L, 0, none⟩) HH.out.lt.1).trans hd, (h.cell (p := ⟨S, na, none⟩) HH.out.lt.2).trans caa⟩
  clear q0 hd caa l0
  obtain ⟨wd, hwd⟩ : ∃ wd, wc = wd := ⟨_, rfl⟩
  subst hwd
  go_upto_region 6 with fail
  clear q2
  go_cut [5, 6, 7, 8] from 5 to 39 (fun s5 s6 s7 s8 wx => s5 = .int .i64 bb ∧ s6 = .int .i64 ob ∧ s7 = .int .i64 (-1) ∧ s8 = .int .i64 oa ∧ Hid (Below wc.heap.size wc wx))
  case first =>
    go_region_held3 (fun W' => W'.cell? ⟨w.heap.size, 2, none⟩ = some (.int .i64 (na : Int)) ∧ W'.cell? ⟨L, 0, none⟩ = some (.slice (some ⟨S, 0, none⟩) l.slots.length l.slots.length) ∧ W'.cell? ⟨S, na, none⟩ = some (.iface 89 (.int .i64 oa))) (first | exact SK.out _ (Below.refl _ _).drew | exact SK.out _ HBa.out) (first
      | (go_at_call 96; refine (figParts_any oa _).mono ?_; rintro ea wa ⟨rfl, bela⟩; have HBa := hideP ((Below.refl wc.heap.size wc).drew.trans (bela.mono (Nat.le_refl _))); clear bela))
    all_goals (go_wp2_with fail; go_meet; exact ⟨rfl, rfl, rfl, rfl, HBa⟩)
  case rest =>
  obtain ⟨rfl, rfl, rfl, rfl, hc⟩ := hcut
  replace HH := hideP (HH.out.stays hc.out)
  replace BW := hideP (below_trans BW.out hc.out)
  replace Q0 := hideP (keepB Q0.out hc.out)
  replace Q1 := hideP (keepB Q1.out hc.out)
  clear hc SK
  have q0 := (cells_of Q0.out).1
  have q2 := q0 2
  have q5 := q0 5
  have q1 := cells_of Q1.out
  have g0 := q1.1 0
  have g1 := q1.1 1
  have g2 := q1.1 2
  have g3 := q1.1 3
  have f0 := q1.2 0
  have f1 := q1.2 1
  have f2 := q1.2 2
  have f3 := q1.2 3
  simp at q2 q5 g0 g1 g2 g3
  clear q0 q1
  have hres : Try.f55.results = #[.cell 4 71] := by kernel_rfl
  go_wp2
  all_goals first | omega | skip
  all_goals
    refine bodyPost_ret (results_cell_row hres _ _ (w.heap.size + 1) 71 _ (0, 0) _ rfl (set4_heap Q1.out) Try.underlying71 rfl (by kernel_rfl)) rfl ?_
    refine ⟨?_, (((BW.out.setCell (Nat.le_succ _) _).setCell (Nat.le_succ _) _).setCell (Nat.le_succ _) _).setCell (Nat.le_succ _) _⟩
    exact pl_eq (by omega) (by omega) (by first | rfl | simp [Int.add_comm])
set_option maxRecDepth 100000 in
set_option maxHeartbeats 4000000 in
theorem place_df (w : World) (L S : Nat) (l : Led) (op d c n : Int) (nb : Nat) (t : ByteArray) (bb ob : Int) (hop : op = 3 ∨ op = 4) (h : LedIs w L S l) (hnb : nb < l.slots.length) (eb : l.slots[nb] = ⟨bb, ob⟩) (kb : bb = -1) (na : Nat) (ba oa : Int) (hna : na < l.slots.length) (ea : l.slots[na] = ⟨ba, oa⟩) (ka : ba ≠ -1) :
    Calls Try.prog 55 #[.pointer (some ⟨L, 0, none⟩), .agg #[.int .i64 op, .int .i64 d, .int .i64 (na : Int), .int .i64 (nb : Int), .int .i64 c, .int .i64 n, .string t]] w
      fun e w' => e = .returned (.agg #[.int .i64 n, .int .i64 (min ba bb), .int .i64 (max ba bb), .int .i64 (wrap64 (oa + ob))]) ∧ Below w.heap.size w w' := by
  have HH := hideP h
  have TO : Hid (∀ W, Calls Try.prog 56 #[.agg #[.int .i64 op, .int .i64 d, .int .i64 (na : Int), .int .i64 (nb : Int), .int .i64 c, .int .i64 n, .string t]] W fun e w' => e = .returned (.bool true) ∧ Below W.heap.size W w') := fun W => by
    have := touches_any ⟨op, d, (na : Int), (nb : Int), c, n, t⟩ W
    simpa [insV, hop] using this
  have BW := hideP (below2 w (.cells #[.int .i64 op, .int .i64 d, .int .i64 (na : Int), .int .i64 (nb : Int), .int .i64 c, .int .i64 n, .string t] 66) (.cells #[.int .i64 0, .int .i64 0, .int .i64 0, .int .i64 0] 71))
  have Q0 := hideP (two (Below.refl ((w.alloc (.cells #[.int .i64 op, .int .i64 d, .int .i64 (na : Int), .int .i64 (nb : Int), .int .i64 c, .int .i64 n, .string t] 66)).alloc (.cells #[.int .i64 0, .int .i64 0, .int .i64 0, .int .i64 0] 71)).heap.size _)).1
  have Q1 := hideP (two (Below.refl ((w.alloc (.cells #[.int .i64 op, .int .i64 d, .int .i64 (na : Int), .int .i64 (nb : Int), .int .i64 c, .int .i64 n, .string t] 66)).alloc (.cells #[.int .i64 0, .int .i64 0, .int .i64 0, .int .i64 0] 71)).heap.size _)).2.1
  clear h hop
  go_enter Try.func55, Try.ntmps55
  go_wp2_with fail
  refine (TO.out _).mono ?_
  rintro e1 w1 ⟨rfl, bel1⟩
  replace HH := hideP (HH.out.stays (below_trans BW.out bel1))
  replace BW := hideP (below_trans BW.out bel1)
  replace Q0 := hideP (keepB Q0.out bel1)
  replace Q1 := hideP (keepB Q1.out bel1)
  clear bel1
  have q0 := (cells_of Q0.out).1
  have hd := HH.out.head.1
  have cbb := HH.out.2.2.at nb hnb
  rw [eb] at cbb
  subst kb
  rw [symV_fig] at cbb
  have l0 : w.heap.size < w1.heap.size := (Array.getElem?_eq_some_iff.1 Q0.out).1
  have SK : Hid (∀ W', Below w1.heap.size w1 W' → W'.cell? ⟨w.heap.size, 3, none⟩ = some (.int .i64 (nb : Int)) ∧ W'.cell? ⟨L, 0, none⟩ = some (.slice (some ⟨S, 0, none⟩) l.slots.length l.slots.length) ∧ W'.cell? ⟨S, nb, none⟩ = some (.iface 89 (.int .i64 ob))) := fun W' h => ⟨(h.cell (p := ⟨w.heap.size, 3, none⟩) l0).trans (q0 3), (h.cell (p := ⟨L, 0, none⟩) HH.out.lt.1).trans hd, (h.cell (p := ⟨S, nb, none⟩) HH.out.lt.2).trans cbb⟩
  clear q0 hd cbb l0
  go_upto_region 3 with fail
  go_cut [5, 6] from 5 to 24 (fun s5 s6 wx => s5 = .int .i64 (-1) ∧ s6 = .int .i64 ob ∧ Hid (Below w1.heap.size w1 wx))
  case first =>
    go_region_held3 (fun W' => W'.cell? ⟨w.heap.size, 3, none⟩ = some (.int .i64 (nb : Int)) ∧ W'.cell? ⟨L, 0, none⟩ = some (.slice (some ⟨S, 0, none⟩) l.slots.length l.slots.length) ∧ W'.cell? ⟨S, nb, none⟩ = some (.iface 89 (.int .i64 ob))) (first | exact SK.out _ (Below.refl _ _).drew | exact SK.out _ HBa.out) (first
      | (go_at_call 96; refine (figParts_any ob _).mono ?_; rintro ea wa ⟨rfl, bela⟩; have HBa := hideP ((Below.refl w1.heap.size w1).drew.trans (bela.mono (Nat.le_refl _))); clear bela))
    all_goals (go_wp2_with fail; go_meet; exact ⟨rfl, rfl, HBa⟩)
  case rest =>
  obtain ⟨rfl, rfl, hc⟩ := hcut
  replace HH := hideP (HH.out.stays hc.out)
  replace BW := hideP (below_trans BW.out hc.out)
  replace Q0 := hideP (keepB Q0.out hc.out)
  replace Q1 := hideP (keepB Q1.out hc.out)
  clear hc SK
  have q0 := (cells_of Q0.out).1
  have q2 := q0 2
  simp at q2
  have hd := HH.out.head.1
  have caa := HH.out.2.2.at na hna
  rw [ea] at caa
  rw [symV_dist ka] at caa
  have l0 : w.heap.size < wc.heap.size := (Array.getElem?_eq_some_iff.1 Q0.out).1
  have SK : Hid (∀ W', Below wc.heap.size wc W' → W'.cell? ⟨w.heap.size, 2, none⟩ = some (.int .i64 (na : Int)) ∧ W'.cell? ⟨L, 0, none⟩ = some (.slice (some ⟨S, 0, none⟩) l.slots.length l.slots.length) ∧ W'.cell? ⟨S, na, none⟩ = some (.iface 104 (.agg #[.int .i64 ba, .int .i64 oa]))) := fun W' h => ⟨(h.cell (p := ⟨w.heap.size, 2, none⟩) l0).trans (q0 2), (h.cell (p := ⟨L, 0, none⟩) HH.out.lt.1).trans hd, (h.cell (p := ⟨S, na, none⟩) HH.out.lt.2).trans caa⟩
  clear q0 hd caa l0
  obtain ⟨wd, hwd⟩ : ∃ wd, wc = wd := ⟨_, rfl⟩
  subst hwd
  go_upto_region 6 with fail
  clear q2
  go_cut [5, 6, 7, 8] from 5 to 39 (fun s5 s6 s7 s8 wx => s5 = .int .i64 (-1) ∧ s6 = .int .i64 ob ∧ s7 = .int .i64 ba ∧ s8 = .int .i64 oa ∧ Hid (Below wc.heap.size wc wx))
  case first =>
    go_region_held3 (fun W' => W'.cell? ⟨w.heap.size, 2, none⟩ = some (.int .i64 (na : Int)) ∧ W'.cell? ⟨L, 0, none⟩ = some (.slice (some ⟨S, 0, none⟩) l.slots.length l.slots.length) ∧ W'.cell? ⟨S, na, none⟩ = some (.iface 104 (.agg #[.int .i64 ba, .int .i64 oa]))) (first | exact SK.out _ (Below.refl _ _).drew | exact SK.out _ HBa.out) (first
      | (go_at_call 97; refine (distParts_any ba oa _).mono ?_; rintro ea wa ⟨rfl, bela⟩; have HBa := hideP ((Below.refl wc.heap.size wc).drew.trans (bela.mono (Nat.le_refl _))); clear bela))
    all_goals (go_wp2_with fail; go_meet; exact ⟨rfl, rfl, rfl, rfl, HBa⟩)
  case rest =>
  obtain ⟨rfl, rfl, rfl, rfl, hc⟩ := hcut
  replace HH := hideP (HH.out.stays hc.out)
  replace BW := hideP (below_trans BW.out hc.out)
  replace Q0 := hideP (keepB Q0.out hc.out)
  replace Q1 := hideP (keepB Q1.out hc.out)
  clear hc SK
  have q0 := (cells_of Q0.out).1
  have q2 := q0 2
  have q5 := q0 5
  have q1 := cells_of Q1.out
  have g0 := q1.1 0
  have g1 := q1.1 1
  have g2 := q1.1 2
  have g3 := q1.1 3
  have f0 := q1.2 0
  have f1 := q1.2 1
  have f2 := q1.2 2
  have f3 := q1.2 3
  simp at q2 q5 g0 g1 g2 g3
  clear q0 q1
  have hres : Try.f55.results = #[.cell 4 71] := by kernel_rfl
  go_wp2
  all_goals first | omega | skip
  all_goals
    refine bodyPost_ret (results_cell_row hres _ _ (w.heap.size + 1) 71 _ (0, 0) _ rfl (set4_heap Q1.out) Try.underlying71 rfl (by kernel_rfl)) rfl ?_
    refine ⟨?_, (((BW.out.setCell (Nat.le_succ _) _).setCell (Nat.le_succ _) _).setCell (Nat.le_succ _) _).setCell (Nat.le_succ _) _⟩
    exact pl_eq (by omega) (by omega) (by first | rfl | simp [Int.add_comm])
set_option maxRecDepth 100000 in
set_option maxHeartbeats 4000000 in
theorem place_dd (w : World) (L S : Nat) (l : Led) (op d c n : Int) (nb : Nat) (t : ByteArray) (bb ob : Int) (hop : op = 3 ∨ op = 4) (h : LedIs w L S l) (hnb : nb < l.slots.length) (eb : l.slots[nb] = ⟨bb, ob⟩) (kb : bb ≠ -1) (na : Nat) (ba oa : Int) (hna : na < l.slots.length) (ea : l.slots[na] = ⟨ba, oa⟩) (ka : ba ≠ -1) :
    Calls Try.prog 55 #[.pointer (some ⟨L, 0, none⟩), .agg #[.int .i64 op, .int .i64 d, .int .i64 (na : Int), .int .i64 (nb : Int), .int .i64 c, .int .i64 n, .string t]] w
      fun e w' => e = .returned (.agg #[.int .i64 n, .int .i64 (min ba bb), .int .i64 (max ba bb), .int .i64 (wrap64 (oa + ob))]) ∧ Below w.heap.size w w' := by
  have HH := hideP h
  have TO : Hid (∀ W, Calls Try.prog 56 #[.agg #[.int .i64 op, .int .i64 d, .int .i64 (na : Int), .int .i64 (nb : Int), .int .i64 c, .int .i64 n, .string t]] W fun e w' => e = .returned (.bool true) ∧ Below W.heap.size W w') := fun W => by
    have := touches_any ⟨op, d, (na : Int), (nb : Int), c, n, t⟩ W
    simpa [insV, hop] using this
  have BW := hideP (below2 w (.cells #[.int .i64 op, .int .i64 d, .int .i64 (na : Int), .int .i64 (nb : Int), .int .i64 c, .int .i64 n, .string t] 66) (.cells #[.int .i64 0, .int .i64 0, .int .i64 0, .int .i64 0] 71))
  have Q0 := hideP (two (Below.refl ((w.alloc (.cells #[.int .i64 op, .int .i64 d, .int .i64 (na : Int), .int .i64 (nb : Int), .int .i64 c, .int .i64 n, .string t] 66)).alloc (.cells #[.int .i64 0, .int .i64 0, .int .i64 0, .int .i64 0] 71)).heap.size _)).1
  have Q1 := hideP (two (Below.refl ((w.alloc (.cells #[.int .i64 op, .int .i64 d, .int .i64 (na : Int), .int .i64 (nb : Int), .int .i64 c, .int .i64 n, .string t] 66)).alloc (.cells #[.int .i64 0, .int .i64 0, .int .i64 0, .int .i64 0] 71)).heap.size _)).2.1
  clear h hop
  go_enter Try.func55, Try.ntmps55
  go_wp2_with fail
  refine (TO.out _).mono ?_
  rintro e1 w1 ⟨rfl, bel1⟩
  replace HH := hideP (HH.out.stays (below_trans BW.out bel1))
  replace BW := hideP (below_trans BW.out bel1)
  replace Q0 := hideP (keepB Q0.out bel1)
  replace Q1 := hideP (keepB Q1.out bel1)
  clear bel1
  have q0 := (cells_of Q0.out).1
  have hd := HH.out.head.1
  have cbb := HH.out.2.2.at nb hnb
  rw [eb] at cbb
  rw [symV_dist kb] at cbb
  have l0 : w.heap.size < w1.heap.size := (Array.getElem?_eq_some_iff.1 Q0.out).1
  have SK : Hid (∀ W', Below w1.heap.size w1 W' → W'.cell? ⟨w.heap.size, 3, none⟩ = some (.int .i64 (nb : Int)) ∧ W'.cell? ⟨L, 0, none⟩ = some (.slice (some ⟨S, 0, none⟩) l.slots.length l.slots.length) ∧ W'.cell? ⟨S, nb, none⟩ = some (.iface 104 (.agg #[.int .i64 bb, .int .i64 ob]))) := fun W' h => ⟨(h.cell (p := ⟨w.heap.size, 3, none⟩) l0).trans (q0 3), (h.cell (p := ⟨L, 0, none⟩) HH.out.lt.1).trans hd, (h.cell (p := ⟨S, nb, none⟩) HH.out.lt.2).trans cbb⟩
  clear q0 hd cbb l0
  go_upto_region 3 with fail
  go_cut [5, 6] from 5 to 24 (fun s5 s6 wx => s5 = .int .i64 bb ∧ s6 = .int .i64 ob ∧ Hid (Below w1.heap.size w1 wx))
  case first =>
    go_region_held3 (fun W' => W'.cell? ⟨w.heap.size, 3, none⟩ = some (.int .i64 (nb : Int)) ∧ W'.cell? ⟨L, 0, none⟩ = some (.slice (some ⟨S, 0, none⟩) l.slots.length l.slots.length) ∧ W'.cell? ⟨S, nb, none⟩ = some (.iface 104 (.agg #[.int .i64 bb, .int .i64 ob]))) (first | exact SK.out _ (Below.refl _ _).drew | exact SK.out _ HBa.out) (first
      | (go_at_call 97; refine (distParts_any bb ob _).mono ?_; rintro ea wa ⟨rfl, bela⟩; have HBa := hideP ((Below.refl w1.heap.size w1).drew.trans (bela.mono (Nat.le_refl _))); clear bela))
    all_goals (go_wp2_with fail; go_meet; exact ⟨rfl, rfl, HBa⟩)
  case rest =>
  obtain ⟨rfl, rfl, hc⟩ := hcut
  replace HH := hideP (HH.out.stays hc.out)
  replace BW := hideP (below_trans BW.out hc.out)
  replace Q0 := hideP (keepB Q0.out hc.out)
  replace Q1 := hideP (keepB Q1.out hc.out)
  clear hc SK
  have q0 := (cells_of Q0.out).1
  have q2 := q0 2
  simp at q2
  have hd := HH.out.head.1
  have caa := HH.out.2.2.at na hna
  rw [ea] at caa
  rw [symV_dist ka] at caa
  have l0 : w.heap.size < wc.heap.size := (Array.getElem?_eq_some_iff.1 Q0.out).1
  have SK : Hid (∀ W', Below wc.heap.size wc W' → W'.cell? ⟨w.heap.size, 2, none⟩ = some (.int .i64 (na : Int)) ∧ W'.cell? ⟨L, 0, none⟩ = some (.slice (some ⟨S, 0, none⟩) l.slots.length l.slots.length) ∧ W'.cell? ⟨S, na, none⟩ = some (.iface 104 (.agg #[.int .i64 ba, .int .i64 oa]))) := fun W' h => ⟨(h.cell (p := ⟨w.heap.size, 2, none⟩) l0).trans (q0 2), (h.cell (p := ⟨L, 0, none⟩) HH.out.lt.1).trans hd, (h.cell (p := ⟨S, na, none⟩) HH.out.lt.2).trans caa⟩
  clear q0 hd caa l0
  obtain ⟨wd, hwd⟩ : ∃ wd, wc = wd := ⟨_, rfl⟩
  subst hwd
  go_upto_region 6 with fail
  clear q2
  go_cut [5, 6, 7, 8] from 5 to 39 (fun s5 s6 s7 s8 wx => s5 = .int .i64 bb ∧ s6 = .int .i64 ob ∧ s7 = .int .i64 ba ∧ s8 = .int .i64 oa ∧ Hid (Below wc.heap.size wc wx))
  case first =>
    go_region_held3 (fun W' => W'.cell? ⟨w.heap.size, 2, none⟩ = some (.int .i64 (na : Int)) ∧ W'.cell? ⟨L, 0, none⟩ = some (.slice (some ⟨S, 0, none⟩) l.slots.length l.slots.length) ∧ W'.cell? ⟨S, na, none⟩ = some (.iface 104 (.agg #[.int .i64 ba, .int .i64 oa]))) (first | exact SK.out _ (Below.refl _ _).drew | exact SK.out _ HBa.out) (first
      | (go_at_call 97; refine (distParts_any ba oa _).mono ?_; rintro ea wa ⟨rfl, bela⟩; have HBa := hideP ((Below.refl wc.heap.size wc).drew.trans (bela.mono (Nat.le_refl _))); clear bela))
    all_goals (go_wp2_with fail; go_meet; exact ⟨rfl, rfl, rfl, rfl, HBa⟩)
  case rest =>
  obtain ⟨rfl, rfl, rfl, rfl, hc⟩ := hcut
  replace HH := hideP (HH.out.stays hc.out)
  replace BW := hideP (below_trans BW.out hc.out)
  replace Q0 := hideP (keepB Q0.out hc.out)
  replace Q1 := hideP (keepB Q1.out hc.out)
  clear hc SK
  have q0 := (cells_of Q0.out).1
  have q2 := q0 2
  have q5 := q0 5
  have q1 := cells_of Q1.out
  have g0 := q1.1 0
  have g1 := q1.1 1
  have g2 := q1.1 2
  have g3 := q1.1 3
  have f0 := q1.2 0
  have f1 := q1.2 1
  have f2 := q1.2 2
  have f3 := q1.2 3
  simp at q2 q5 g0 g1 g2 g3
  clear q0 q1
  have hres : Try.f55.results = #[.cell 4 71] := by kernel_rfl
  go_wp2
  all_goals first | omega | skip
  all_goals
    refine bodyPost_ret (results_cell_row hres _ _ (w.heap.size + 1) 71 _ (0, 0) _ rfl (set4_heap Q1.out) Try.underlying71 rfl (by kernel_rfl)) rfl ?_
    refine ⟨?_, (((BW.out.setCell (Nat.le_succ _) _).setCell (Nat.le_succ _) _).setCell (Nat.le_succ _) _).setCell (Nat.le_succ _) _⟩
    exact pl_eq (by omega) (by omega) (by first | rfl | simp [Int.add_comm])
end Go.Proofs.Ytgiboadcfnfooab
