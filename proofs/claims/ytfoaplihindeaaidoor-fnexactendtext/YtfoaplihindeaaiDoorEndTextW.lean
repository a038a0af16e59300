/- The walk of the law FnExactEndText; out of an argument's reading: the end, its numbers within 64 bits. -/
import Derived.Test.YtfoaplihindeaaiDoorEndTextI
import Derived.Deep.CutRange
namespace Go.Proofs.YtfoaplihindeaaiDoor
open Go.ChangeShapes Go.WideShapes Go.ChangeAt Go.RowKit
theorem in64_of {n : Int} (h : (Lit.int .i64 n).wf = true) : In64 n := by
  have e1 : IntKind.i64.min = -9223372036854775808 := rfl
  have e2 : IntKind.i64.max = 9223372036854775807 := rfl
  simp only [Lit.wf, e1, e2] at h
  simpa [In64] using h
section
variable {H : Type} {enc : TypeId × Value → H} {P : Program} {W : World} {sp : Nat → Bool} {held : Bool}
theorem open_nums64 {tI tZ : TypeId} {fuel : Nat} {cs : List Value} {x : DataW H × List MemPlace} (hz : P.underlying tZ = some (.slice tI)) (hi : P.underlying tI = some (.int .i64)) (hc : P.cellsOf tI = 1) (h : DataW.trod enc P W 0 sp held fuel tZ cs = some x) :
    ∃ a cap zs, cs = [.slice a zs.length cap] ∧ IntsIs W 0 a zs ∧ ∀ z ∈ zs, In64 z := by
  obtain ⟨a, len, cap, vs, e4, hl, hrow, hel⟩ := row_of hz hc (by omega) h
  obtain ⟨Z, hZ⟩ := Deep.choose_lt (α := Int) (n := len) (p := fun i z => vs i = #[.int .i64 z] ∧ In64 z) (fun i hi' => by
    obtain ⟨n', y, hn, hy⟩ := hel i hi'
    obtain ⟨z, hz', _, hw⟩ := DataW.trod_int hi hy
    exact ⟨z, Array.ext' hz', in64_of hw⟩)
  refine ⟨a, cap, (List.range len).map Z, by simpa using e4, ⟨by simpa using hl, ?_⟩, fun z hz => ?_⟩
  · rcases hrow with h0 | ⟨b, o, ha, hB, hb, hcell⟩
    · exact Or.inl (by simpa using h0)
    · refine Or.inr ⟨b, o, ha, hB, hb, fun i hi' => ?_⟩
      have hi2 : i < len := by simpa using hi'
      have := (hcell i hi2).2 0 (by omega)
      rw [(hZ i hi2).1] at this
      simpa using this
  · obtain ⟨i, hi', rfl⟩ := List.mem_map.1 hz
    exact (hZ i (List.mem_range.1 hi')).2
theorem open_end64 {tI tZ tE : TypeId} (T : EnTy P tI tZ tE) {fuel : Nat} {cs : List Value} {x : DataW H × List MemPlace} (h : DataW.trod enc P W 0 sp held fuel tE cs = some x) : ∃ e, EnIs W 0 cs.toArray e ∧ In64 e.code ∧ In64 e.val ∧ ∀ z ∈ e.out, In64 z := by
  obtain ⟨fs, hfs, hmap⟩ := T.e
  obtain ⟨xs, n, rfl, _, hlen, hxl, hfld⟩ := DataW.trod_struct hfs h
  rw [T.ce] at hlen
  have hsize : fs.size = 3 := by have := congrArg List.length hmap; simpa using this
  have fld : ∀ i t o, ([(tI, 0), (tI, 1), (tZ, 2)] : List (TypeId × Nat))[i]? = some (t, o) → P.cellsOf t = 1 → ∃ y, DataW.trod enc P W 0 sp held n t ((cs.drop o).take 1) = some y := fun i t o hi hc => by
    obtain ⟨f, h1, rfl, rfl⟩ := field_at hmap i hi
    have hlt : i < 3 := by
      rcases Nat.lt_or_ge i 3 with h' | h'
      · exact h'
      · rw [Array.getElem?_eq_none (by omega)] at h1; cases h1
    have h2 := hfld i f h1
    rw [hc, List.getElem?_eq_getElem (by omega)] at h2
    exact ⟨_, h2⟩
  match cs, hlen with
  | [c0, c1, c2], _ =>
    obtain ⟨y0, h0⟩ := fld 0 tI 0 rfl T.ci
    obtain ⟨y1, h1⟩ := fld 1 tI 1 rfl T.ci
    obtain ⟨y2, h2⟩ := fld 2 tZ 2 rfl T.cz
    obtain ⟨m, e0, _, w0⟩ := DataW.trod_int T.i h0
    obtain ⟨b, e1, _, w1⟩ := DataW.trod_int T.i h1
    obtain ⟨a, cap, zs, e2, hz, w2⟩ := open_nums64 T.z T.i T.ci h2
    simp at e0 e1 e2
    subst e0 e1 e2
    exact ⟨⟨m, b, zs⟩, ⟨a, cap, rfl, hz⟩, in64_of w0, in64_of w1, w2⟩
end
theorem keep {W W' : World} {b : Nat} {o : Obj} (h : W.heap[b]? = some o) (bel : Below W.heap.size W W') : W'.heap[b]? = some o := (bel.block b (Array.getElem?_eq_some_iff.1 h).1).trans h
theorem blk_new (w : World) (o : Obj) : (w.alloc o).heap[w.heap.size]? = some o := by show (w.heap.push o)[w.heap.size]? = _; exact Array.getElem?_push_size
theorem one_new {w w1 : World} {o : Obj} (bel : Below (w.alloc o).heap.size (w.alloc o) w1) : w1.heap[w.heap.size]? = some o := keep (blk_new w o) bel
theorem toEnd_in (e : En) (w : World) (B : Nat) (v : Array Value) (h : EnIs w B v e) (hs : e.out.length ≤ 1048576) (W : World) (bel : Below w.heap.size w W) :
    Calls Tryd.prog 7 #[.agg v] W fun en w' => ∃ g, en = .returned (.agg #[.int .i64 e.code, .int .i64 e.val, .slice (some ⟨g, 0, none⟩) e.out.length e.out.length]) ∧ EnIs w' W.heap.size #[.int .i64 e.code, .int .i64 e.val, .slice (some ⟨g, 0, none⟩) e.out.length e.out.length] e ∧ Below W.heap.size W w' :=
  (toEnd_any e W B v (h.stays bel) hs).mono fun _ _ ⟨g, he, hi, hb⟩ => ⟨g, he, ⟨_, _, rfl, hi⟩, hb⟩
namespace EndTextLaw
set_option maxRecDepth 100000 in
set_option maxHeartbeats 8000000 in
theorem walk (a : En) (v1 : Array Value) (w : World) (h1 : EnIs w 0 v1 a) (k0 : In64 a.code) (k1 : In64 a.val) (k2 : ∀ z ∈ a.out, In64 z) (htab : Lib.TabIs Tryd.prog w "internal/strconv.uint64pow10" .u64 Lib.pow10Tab) :
    Calls Tryd.prog 3 #[.agg v1] w fun en w' => en = .returned (.bool true) ∧ Below w.heap.size w w' := by
  obtain ⟨ca, va, xs⟩ := a
  have g1 := h1
  obtain ⟨a1, c1, rfl, _⟩ := g1
  simp only at h1 k0 k1 k2 ⊢
  have SA : Hid (∀ W, Below w.heap.size w W → _) := fun W hW => szEnd_any ⟨ca, va, xs⟩ W 0 _ 1048576 (h1.stays hW) (by omega)
  by_cases hp : xs.length ≤ 1048576
  · have TA := hideP (toEnd_in ⟨ca, va, xs⟩ w 0 _ h1 hp)
    obtain ⟨r, hr⟩ : ∃ r : ByteArray, ⟨(endL ca va xs).toArray⟩ = r := ⟨_, rfl⟩
    have SO : Hid (∀ W A1 x1, EnIs W A1 x1 ⟨ca, va, xs⟩ → Calls Tryd.prog 6 #[.agg x1] W fun en w' => en = .returned (.string r) ∧ Below W.heap.size W w') := fun W A1 x1 y1 => by rw [← hr]; exact spec_endText _ W A1 x1 y1 ⟨k0, k1, k2, hp⟩
    have IO : Hid (∀ W A1 x1, EnIs W A1 x1 ⟨ca, va, xs⟩ → Below w.heap.size w W → Calls Tryd.prog 8 #[.agg x1] W fun en w' => en = .returned (.string r) ∧ Below W.heap.size W w') := fun W A1 x1 y1 hb => by rw [← hr]; exact impl_endText _ W A1 x1 y1 ⟨k0, k1, k2, hp⟩ (tab_below htab hb)
    simp only at TA
    have E1 := hideP (szR_pos hp)
    clear hr hp h1 htab k0 k1 k2
    go_enter Tryd.func3, Tryd.ntmps3
    go_wp2_with fail
    refine (SA.out _ ((Below.refl _ _).alloc (Nat.le_refl _) _)).mono ?_
    rintro e1 w1 ⟨rfl, bel1⟩
    rw [E1.out]
    have P1 := hideP (one_new bel1)
    have HW1 := hideP (below_new bel1)
    clear bel1 SA E1
    have p0 := (cells_of P1.out).1 0
    have p1 := (cells_of P1.out).1 1
    have p2 := (cells_of P1.out).1 2
    simp at p0 p1 p2
    go_wp2_with fail
    refine (TA.out _ HW1.out).mono ?_
    rintro y3 w3 ⟨g3, rfl, hp3, bel3⟩
    have HP3 := hideP hp3
    have HW3 := hideP (below_trans HW1.out bel3)
    have P3 := hideP (keep P1.out bel3)
    clear hp3 bel3 p0 p1 p2 P1 HW1
    go_wp2_with fail
    refine (SO.out _ _ _ HP3.out).mono ?_
    rintro y5 w5 ⟨rfl, bel5⟩
    have HW5 := hideP (below_trans HW3.out bel5)
    have P5 := hideP (keep P3.out bel5)
    clear bel5 HP3 HW3 P3 SO
    have p0 := (cells_of P5.out).1 0
    have p1 := (cells_of P5.out).1 1
    have p2 := (cells_of P5.out).1 2
    simp at p0 p1 p2
    go_wp2_with fail
    refine (TA.out _ HW5.out).mono ?_
    rintro y6 w6 ⟨g6, rfl, hp6, bel6⟩
    have al := (Below.refl w6.heap.size w6).alloc (Nat.le_refl _) (.cells #[.int .i64 ca, .int .i64 va, .slice (some ⟨g6, 0, none⟩) xs.length xs.length] 27)
    have G6 := hideP (blk_new w6 (.cells #[.int .i64 ca, .int .i64 va, .slice (some ⟨g6, 0, none⟩) xs.length xs.length] 27))
    have HP6 := hideP (hp6.stays al)
    have HW6 := hideP ((below_trans HW5.out bel6).trans (al.mono (below_trans HW5.out bel6).size))
    have P6 := hideP (keep (keep P5.out bel6) al)
    clear p0 p1 p2 hp6 bel6 P5 HW5 al
    have g0 := (cells_of G6.out).1 0
    have g1 := (cells_of G6.out).1 1
    have g2 := (cells_of G6.out).1 2
    simp at g0 g1 g2
    go_wp2_with fail
    refine (IO.out _ _ _ HP6.out HW6.out).mono ?_
    rintro y8 w8 ⟨rfl, bel8⟩
    have G8 := hideP (keep G6.out bel8)
    have HP8 := hideP (HP6.out.stays bel8)
    have HW8 := hideP (below_trans HW6.out bel8)
    have P8 := hideP (keep P6.out bel8)
    clear g0 g1 g2 bel8 P6 HW6 HP6 G6 IO
    go_upto_region 10 with fail
    go_cut [26] from 22 to 26 (fun s26 wx => s26 = .bool false ∧ Hid (Below w.heap.size w wx))
    case first =>
      have g0 := (cells_of G8.out).1 0
      have g1 := (cells_of G8.out).1 1
      have g2 := (cells_of G8.out).1 2
      simp at g0 g1 g2
      have p0 := (cells_of P8.out).1 0
      have p1 := (cells_of P8.out).1 1
      have p2 := (cells_of P8.out).1 2
      simp at p0 p1 p2
      go_region_with (first
        | (go_at_call 7; refine (TA.out _ (by first | exact HW8.out | exact HW8.out.drew | exact HW8.out.drew.drew)).mono ?_; rintro y9 w9 ⟨g9, rfl, hp9, bel9⟩; have HP9 := hideP hp9; have HO9 := hideP ((show EnIs _ _ _ _ by first | exact HP8.out | exact HP8.out.stays (Below.refl _ _).drew | exact HP8.out.stays (Below.refl _ _).drew.drew).stays bel9); have HW9 := hideP ((show Below w.heap.size w _ by first | exact HW8.out | exact HW8.out.drew | exact HW8.out.drew.drew).trans (bel9.mono (by exact HW8.out.size))); have G9 := hideP (keep (by exact G8.out) bel9); clear bel9 hp9; have s0 := (cells_of G9.out).1 0; have s1 := (cells_of G9.out).1 1; have s2 := (cells_of G9.out).1 2; simp at s0 s1 s2)
        | (go_at_call 9; refine (eqEnd_any ⟨ca, va, xs⟩ _ _ _ _ _ (by first | exact HO9.out | exact HO9.out.stays (Below.refl _ _).drew | exact HO9.out.stays (Below.refl _ _).drew.drew) (by first | exact HP9.out | exact HP9.out.stays (Below.refl _ _).drew | exact HP9.out.stays (Below.refl _ _).drew.drew)).mono ?_; rintro y10 w10 ⟨rfl, bel10⟩; have HW10 := hideP ((show Below w.heap.size w _ by first | exact HW9.out | exact HW9.out.drew | exact HW9.out.drew.drew).trans (bel10.mono (by exact HW9.out.size))); clear bel10))
      all_goals (go_wp2_with fail; go_meet; exact ⟨rfl, HW10.out⟩)
    case rest =>
    obtain ⟨rfl, hc⟩ := hcut
    go_wp2
    go_ret
    exact ⟨rfl, hc.out⟩
  · have E1 := hideP (szR_neg (Nat.lt_of_not_le hp))
    clear h1 hp htab k2
    go_enter Tryd.func3, Tryd.ntmps3
    go_wp2_with fail
    refine (SA.out _ ((Below.refl _ _).alloc (Nat.le_refl _) _)).mono ?_
    rintro e1 w1 ⟨rfl, bel1⟩
    rw [E1.out]
    have HW := hideP (below_new bel1)
    clear bel1 SA E1
    go_wp2
    go_ret
    exact ⟨rfl, HW.out⟩
end EndTextLaw
end Go.Proofs.YtfoaplihindeaaiDoor
