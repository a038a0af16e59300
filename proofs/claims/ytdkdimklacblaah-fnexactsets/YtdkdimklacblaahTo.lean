/- The contracts of toIntS, toExp, toExpS, toStmt, toStmtS, toProgram: a copy in new memory. -/
import Derived.Test.YtdkdimklacblaahSz
import Derived.Laws.MakeOwn
import Derived.Laws.Rows
import Derived.Deep.Slices
namespace Go.Proofs.Ytdkdimklacblaah
open Go.ChangeShapes Go.WideShapes Go.ChangeAt Go.RowKit

theorem sets5 {cur : Array Value} {p : Nat} (hp : p + 5 ≤ cur.size) (v0 v1 v2 v3 v4 : Value) :
    (((((cur.setIfInBounds p v0).setIfInBounds (p + 1) v1).setIfInBounds (p + 2) v2).setIfInBounds (p + 3) v3).setIfInBounds (p + 4) v4).size = cur.size ∧
    (∀ r, r < 5 → (((((cur.setIfInBounds p v0).setIfInBounds (p + 1) v1).setIfInBounds (p + 2) v2).setIfInBounds (p + 3) v3).setIfInBounds (p + 4) v4)[p + r]? = #[v0, v1, v2, v3, v4][r]?) ∧
    ∀ i, (i < p ∨ p + 5 ≤ i) → (((((cur.setIfInBounds p v0).setIfInBounds (p + 1) v1).setIfInBounds (p + 2) v2).setIfInBounds (p + 3) v3).setIfInBounds (p + 4) v4)[i]? = cur[i]? := by
  refine ⟨by simp, fun r hr => ?_, fun i hi => ?_⟩
  · simp only [Array.getElem?_setIfInBounds, Array.size_setIfInBounds]
    match r, hr with
    | 0, _ => rw [if_neg (by omega), if_neg (by omega), if_neg (by omega), if_neg (by omega), if_pos (by omega), if_pos (by omega)]; rfl
    | 1, _ => rw [if_neg (by omega), if_neg (by omega), if_neg (by omega), if_pos (by omega), if_pos (by omega)]; rfl
    | 2, _ => rw [if_neg (by omega), if_neg (by omega), if_pos (by omega), if_pos (by omega)]; rfl
    | 3, _ => rw [if_neg (by omega), if_pos (by omega), if_pos (by omega)]; rfl
    | 4, _ => rw [if_pos (by omega), if_pos (by omega)]; rfl
  · simp only [Array.getElem?_setIfInBounds, Array.size_setIfInBounds]
    rw [if_neg (by omega), if_neg (by omega), if_neg (by omega), if_neg (by omega), if_neg (by omega)]
theorem sets6 {cur : Array Value} {p : Nat} (hp : p + 6 ≤ cur.size) (v0 v1 v2 v3 v4 v5 : Value) :
    ((((((cur.setIfInBounds p v0).setIfInBounds (p + 1) v1).setIfInBounds (p + 2) v2).setIfInBounds (p + 3) v3).setIfInBounds (p + 4) v4).setIfInBounds (p + 5) v5).size = cur.size ∧
    (∀ r, r < 6 → ((((((cur.setIfInBounds p v0).setIfInBounds (p + 1) v1).setIfInBounds (p + 2) v2).setIfInBounds (p + 3) v3).setIfInBounds (p + 4) v4).setIfInBounds (p + 5) v5)[p + r]? = #[v0, v1, v2, v3, v4, v5][r]?) ∧
    ∀ i, (i < p ∨ p + 6 ≤ i) → ((((((cur.setIfInBounds p v0).setIfInBounds (p + 1) v1).setIfInBounds (p + 2) v2).setIfInBounds (p + 3) v3).setIfInBounds (p + 4) v4).setIfInBounds (p + 5) v5)[i]? = cur[i]? := by
  refine ⟨by simp, fun r hr => ?_, fun i hi => ?_⟩
  · simp only [Array.getElem?_setIfInBounds, Array.size_setIfInBounds]
    match r, hr with
    | 0, _ => rw [if_neg (by omega), if_neg (by omega), if_neg (by omega), if_neg (by omega), if_neg (by omega), if_pos (by omega), if_pos (by omega)]; rfl
    | 1, _ => rw [if_neg (by omega), if_neg (by omega), if_neg (by omega), if_neg (by omega), if_pos (by omega), if_pos (by omega)]; rfl
    | 2, _ => rw [if_neg (by omega), if_neg (by omega), if_neg (by omega), if_pos (by omega), if_pos (by omega)]; rfl
    | 3, _ => rw [if_neg (by omega), if_neg (by omega), if_pos (by omega), if_pos (by omega)]; rfl
    | 4, _ => rw [if_neg (by omega), if_pos (by omega), if_pos (by omega)]; rfl
    | 5, _ => rw [if_pos (by omega), if_pos (by omega)]; rfl
  · simp only [Array.getElem?_setIfInBounds, Array.size_setIfInBounds]
    rw [if_neg (by omega), if_neg (by omega), if_neg (by omega), if_neg (by omega), if_neg (by omega), if_neg (by omega)]

/-- The first j of the list's elements stand in the new block g. -/
def Built {α : Type} (Is : World → Nat → Array Value → α → Prop) (sz : Nat) (T : TypeId) (wr : World) (g : Nat) (es : List α) (j : Nat) : Prop :=
  ∃ cur, wr.heap[g]? = some (.cells cur T (0, 0)) ∧ cur.size = es.length * sz ∧ ∀ (i : Nat) (h : i < es.length), i < j → ∃ v, v.size = sz ∧ (∀ r, r < sz → cur[i * sz + r]? = v[r]?) ∧ Is wr (g + 1) v es[i]
theorem Built.lt {α : Type} {Is : World → Nat → Array Value → α → Prop} {sz : Nat} {T : TypeId} {wr : World} {g : Nat} {es : List α} {j : Nat} (h : Built Is sz T wr g es j) : g < wr.heap.size := by
  obtain ⟨cur, h, _⟩ := h; exact (Array.getElem?_eq_some_iff.1 h).1
theorem Built.on {α : Type} {Is : World → Nat → Array Value → α → Prop} (st : ∀ {w w' : World} {B : Nat} {v : Array Value} {e : α}, Is w B v e → Below w.heap.size w w' → Is w' B v e) {sz : Nat} {T : TypeId} {wr w1 : World} {g : Nat} {es : List α} {j : Nat}
    (h : Built Is sz T wr g es j) (bel : Below wr.heap.size wr w1) : Built Is sz T w1 g es j := by
  have hg := h.lt
  obtain ⟨cur, h1, h2, h3⟩ := h
  exact ⟨cur, (bel.block g hg).trans h1, h2, fun i hi hj => let ⟨v, a, b, c⟩ := h3 i hi hj; ⟨v, a, b, st c bel⟩⟩
/-- The cell and mark facts that a store into block g needs. -/
theorem Built.cells {α : Type} {Is : World → Nat → Array Value → α → Prop} {sz : Nat} {T : TypeId} {wr : World} {g : Nat} {es : List α} {j : Nat} (h : Built Is sz T wr g es j) :
    (∀ o, o < es.length * sz → ∃ v, wr.cell? ⟨g, o, none⟩ = some v) ∧ ∀ o, wr.frozen? ⟨g, o, none⟩ = false := by
  obtain ⟨cur, h1, h2, _⟩ := h
  exact ⟨fun o ho => ⟨cur[o], by simp [World.cell?, h1, show o < cur.size by omega]⟩, fun o => by simp [World.frozen?, h1]⟩
theorem Built.step5 {w1 : World} {T : TypeId} {g : Nat} {es : List Ex} {j : Nat} (hj : j < es.length) (h : Built ExIs 5 T w1 g es j) {v0 v1 v2 v3 v4 : Value} (hx : ExIs w1 (g + 1) #[v0, v1, v2, v3, v4] es[j]) :
    Built ExIs 5 T (((((w1.setCell ⟨g, j * 5, none⟩ v0).setCell ⟨g, j * 5 + 1, none⟩ v1).setCell ⟨g, j * 5 + 2, none⟩ v2).setCell ⟨g, j * 5 + 3, none⟩ v3).setCell ⟨g, j * 5 + 4, none⟩ v4) g es (j + 1) := by
  obtain ⟨cur, h1, h2, h3⟩ := h
  have hb : But g w1 (((((w1.setCell ⟨g, j * 5, none⟩ v0).setCell ⟨g, j * 5 + 1, none⟩ v1).setCell ⟨g, j * 5 + 2, none⟩ v2).setCell ⟨g, j * 5 + 3, none⟩ v3).setCell ⟨g, j * 5 + 4, none⟩ v4) := (((((But.refl g w1).set _ _).set _ _).set _ _).set _ _).set _ _
  obtain ⟨s1, s2, s3⟩ := sets5 (cur := cur) (p := j * 5) (by omega) v0 v1 v2 v3 v4
  refine ⟨_, heap_setCell_same _ g _ _ T _ (heap_setCell_same _ g _ _ T _ (heap_setCell_same _ g _ _ T _ (heap_setCell_same _ g _ _ T _ (heap_setCell_same _ g _ _ T _ h1)))), s1.trans h2, fun i hi hij => ?_⟩
  by_cases he : i = j
  · subst he
    exact ⟨_, rfl, s2, hx.but (by omega) hb⟩
  · obtain ⟨v, a, b, c⟩ := h3 i hi (by omega)
    exact ⟨v, a, fun r hr => (s3 _ (Or.inl (by omega))).trans (b r hr), c.but (by omega) hb⟩
theorem Built.step6 {w1 : World} {T : TypeId} {g : Nat} {es : List St} {j : Nat} (hj : j < es.length) (h : Built StIs 6 T w1 g es j) {v0 v1 v2 v3 v4 v5 : Value} (hx : StIs w1 (g + 1) #[v0, v1, v2, v3, v4, v5] es[j]) :
    Built StIs 6 T ((((((w1.setCell ⟨g, j * 6, none⟩ v0).setCell ⟨g, j * 6 + 1, none⟩ v1).setCell ⟨g, j * 6 + 2, none⟩ v2).setCell ⟨g, j * 6 + 3, none⟩ v3).setCell ⟨g, j * 6 + 4, none⟩ v4).setCell ⟨g, j * 6 + 5, none⟩ v5) g es (j + 1) := by
  obtain ⟨cur, h1, h2, h3⟩ := h
  have hb : But g w1 ((((((w1.setCell ⟨g, j * 6, none⟩ v0).setCell ⟨g, j * 6 + 1, none⟩ v1).setCell ⟨g, j * 6 + 2, none⟩ v2).setCell ⟨g, j * 6 + 3, none⟩ v3).setCell ⟨g, j * 6 + 4, none⟩ v4).setCell ⟨g, j * 6 + 5, none⟩ v5) := ((((((But.refl g w1).set _ _).set _ _).set _ _).set _ _).set _ _).set _ _
  obtain ⟨s1, s2, s3⟩ := sets6 (cur := cur) (p := j * 6) (by omega) v0 v1 v2 v3 v4 v5
  refine ⟨_, heap_setCell_same _ g _ _ T _ (heap_setCell_same _ g _ _ T _ (heap_setCell_same _ g _ _ T _ (heap_setCell_same _ g _ _ T _ (heap_setCell_same _ g _ _ T _ (heap_setCell_same _ g _ _ T _ h1))))), s1.trans h2, fun i hi hij => ?_⟩
  by_cases he : i = j
  · subst he
    exact ⟨_, rfl, s2, hx.but (by omega) hb⟩
  · obtain ⟨v, a, b, c⟩ := h3 i hi (by omega)
    exact ⟨v, a, fun r hr => (s3 _ (Or.inl (by omega))).trans (b r hr), c.but (by omega) hb⟩
theorem Built.row {α : Type} {Is : World → Nat → Array Value → α → Prop} {sz : Nat} {T : TypeId} {wr : World} {g : Nat} {es : List α} (h : Built Is sz T wr g es es.length) :
    ∃ vs, RowAt wr g (some ⟨g, 0, none⟩) es.length sz vs ∧ ∀ (i : Nat) (hi : i < es.length), Is wr (g + 1) (vs i) es[i] := by
  have hg := h.lt
  obtain ⟨cur, h1, h2, h3⟩ := h
  have each : ∀ i, i < es.length → ∃ v : Array Value, (v.size = sz ∧ ∀ r, r < sz → cur[i * sz + r]? = v[r]?) ∧ ∀ hi : i < es.length, Is wr (g + 1) v es[i] := fun i hi => let ⟨v, a, b, c⟩ := h3 i hi hi; ⟨v, ⟨a, b⟩, fun _ => c⟩
  obtain ⟨vs, hvs⟩ := Deep.choose_lt (α := Array Value) each
  refine ⟨vs, Or.inr ⟨g, 0, rfl, Nat.le_refl _, hg, fun _ => ⟨cur, T, h1⟩, fun i hi => ⟨(hvs i hi).1.1, fun r hr => ?_⟩⟩, fun i hi => (hvs i hi).2 hi⟩
  rw [← (hvs i hi).1.2 r hr]
  simp [World.cell?, h1]

def ToEx (e : Ex) : Prop := ∀ (w : World) (B : Nat) (v : Array Value), ExIs w B v e → e.sz ≤ 1048576 →
  Calls Try.prog 15 #[.agg v] w fun en w' => ∃ v', en = .returned (.agg v') ∧ ExIs w' w.heap.size v' e ∧ Below w.heap.size w w'
theorem infoE : (Try.prog.info? 41).map (fun i => (i.zero, i.size, i.bytes)) = some (some (.agg #[.int .i64 0, .int .i64 0, .int .i64 0, .string ByteArray.empty, .slice none 0 0]), 5, 64) := by kernel_rfl
theorem infoS : (Try.prog.info? 74).map (fun i => (i.zero, i.size, i.bytes)) = some (some (.agg #[.int .i64 0, .int .i64 0, .int .i64 0, .slice none 0 0, .slice none 0 0, .slice none 0 0]), 6, 96) := by kernel_rfl
theorem infoI : (Try.prog.info? 3).map (fun i => (i.zero, i.size, i.bytes)) = some (some (.int .i64 0), 1, 8) := by kernel_rfl
theorem info_out {P : Program} {e : TypeId} {z : Value} {s b : Nat} (h : (P.info? e).map (fun i => (i.zero, i.size, i.bytes)) = some (some z, s, b)) : ∃ i, P.info? e = some i ∧ i.zero = some z ∧ i.size = s ∧ i.bytes = b := by
  obtain ⟨i, hi, he⟩ := Option.map_eq_some_iff.1 h
  simp only [Prod.mk.injEq] at he
  exact ⟨i, hi, he.1, he.2.1, he.2.2⟩
/-- 'make([]T, n)': n elements of nought. -/
theorem make_n {P : Program} {t e : TypeId} {z : Value} {s b : Nat} (ht : P.underlying t = some (.slice e)) (hi : (P.info? e).map (fun i => (i.zero, i.size, i.bytes)) = some (some z, s, b)) (n : Nat) (hn : n ≤ 1048576) (hb : b ≤ 1000) (w : World) :
    (Instr.makeSlice t (.int .i64 (n : Int)) (.int .i64 (n : Int))).run P w = .ok (.slice (some ⟨w.heap.size, 0, none⟩) n n) (w.alloc (.cells (madeCells z.cells (n * s)) e)) := by
  obtain ⟨i, hi, hz, hs, hbb⟩ := info_out hi
  have hbn : b * n ≤ 1000 * 1048576 := Nat.mul_le_mul hb hn
  have hr := run_make (P := P) w t e i z ht hi hz .i64 .i64 n n (by omega) (Int.le_refl _) (by rw [hbb, ← Int.natCast_mul]; omega) (by omega)
  rw [hs] at hr
  simpa using hr
theorem built_start {α : Type} (Is : World → Nat → Array Value → α → Prop) (w : World) (z : Array Value) (sz : Nat) (T : TypeId) (es : List α) : Built Is sz T (w.alloc (.cells (madeCells z (es.length * sz)) T)) w.heap.size es 0 :=
  ⟨_, by show (w.heap.push _)[w.heap.size]? = _; exact Array.getElem?_push_size, size_madeCells _ _, fun _ _ h => absurd h (Nat.not_lt_zero _)⟩

set_option maxHeartbeats 1000000 in
theorem toExpS_of (es : List Ex) (ih : ∀ e ∈ es, ToEx e) (w : World) (B : Nat) (a : Option Addr) (cap : Nat) (h : ExsIs w B a es) (hs : exsSz es ≤ 1048576) :
    Calls Try.prog 41 #[.slice a es.length cap] w fun en w' => ∃ g, en = .returned (.slice (some ⟨g, 0, none⟩) es.length es.length) ∧ ExsIs w' w.heap.size (some ⟨g, 0, none⟩) es ∧ Below w.heap.size w w' := by
  have hl0 := h.1
  have hl : es.length ≤ 1048576 := by unfold exsSz at hs; omega
  have hmk := make_n (P := Try.prog) Try.underlying39 infoE es.length hl (by decide)
  have H := hideP h
  have IH := hideP ih
  have HS := hideP hs
  clear h ih hs
  go_enter Try.func41, Try.ntmps41
  go_wp2
  clear hmk
  go_loopw [4] (fun i wr => ∃ j : Nat, j ≤ es.length ∧ i = .int .i64 j ∧ Built ExIs 5 41 wr w.heap.size es j ∧ Below w.heap.size w wr) (fun i _ => es.length - (intOf i).toNat)
  case atStart => exact ⟨0, Nat.zero_le _, rfl, built_start ExIs w _ 5 _ es, (Below.refl _ _).alloc (Nat.le_refl _) _⟩
  case round =>
    obtain ⟨j, hj, rfl, hbt, bel⟩ := hrel
    by_cases hlt : j < es.length
    · obtain ⟨b, o, k, n, bs, t, kids, ka, kc, rfl, _, hb, he, c0, c1, c2, c3, c4, hx⟩ := (H.out.stays bel).get j hlt
      have HE := hideP he
      have HX := hideP hx
      have HB := hideP bel
      have HT := hideP hbt
      have hg := hbt.lt
      have hsz := bel.size
      clear he hx bel hbt
      go_wp2_with fail
      refine (IH.out es[j] (List.getElem_mem hlt) _ B _ (by rw [HE.out]; exact HX.out) (by have := exsSum_mem (List.getElem_mem hlt); have := HS.out; unfold exsSz at this; omega)).mono ?_
      rintro e1 w1 ⟨v', rfl, hx1, bel1⟩
      have hx2 := hx1
      rw [HE.out] at hx2
      obtain ⟨ka', kc', rfl, _, _⟩ := hx2.out
      have hb1 := HT.out.on (fun h b => h.stays b) bel1
      obtain ⟨hce, hfz⟩ := hb1.cells
      obtain ⟨d0, hd0⟩ := hce (j * 5) (by omega)
      obtain ⟨d1, hd1⟩ := hce (j * 5 + 1) (by omega)
      obtain ⟨d2, hd2⟩ := hce (j * 5 + 2) (by omega)
      obtain ⟨d3, hd3⟩ := hce (j * 5 + 3) (by omega)
      obtain ⟨d4, hd4⟩ := hce (j * 5 + 4) (by omega)
      have HB1 := hideP hb1
      have HX1 := hideP (hx1.mono (show w.heap.size + 1 ≤ wr.heap.size by omega))
      have hw1 : Hid (Below w.heap.size w w1) := HB.out.trans (bel1.mono hsz)
      clear bel1 c0 c1 c2 c3 c4 hb1 hx1 hx2 hce
      go_wp2
      go_roundw
      case rel => exact ⟨j + 1, by omega, by go_num, HB1.out.step5 hlt HX1.out, ((((hw1.out.setCell (Nat.le_refl _) _).setCell (Nat.le_refl _) _).setCell (Nat.le_refl _) _).setCell (Nat.le_refl _) _).setCell (Nat.le_refl _) _⟩
      case measure => simp [intOf]; omega
    · have hjn : j = es.length := by omega
      subst hjn
      go_wp2
      go_ret
      obtain ⟨vs, hr, hx⟩ := hbt.row
      exact ⟨_, rfl, ⟨by omega, vs, hr, fun i hi => (hx i hi).mono (by omega)⟩, bel⟩

/-- What toExp leaves: three new blocks, of which only the last two are written. -/
theorem below3 (w : World) (o1 o2 o3 : Obj) : Below w.heap.size w (((w.alloc o1).alloc o2).alloc o3) :=
  (((Below.refl _ _).alloc (Nat.le_refl _) _).alloc (by simp) _).alloc (by simp; omega) _
theorem three {w w1 : World} {o1 o2 o3 : Obj} (bel : Below (((w.alloc o1).alloc o2).alloc o3).heap.size (((w.alloc o1).alloc o2).alloc o3) w1) :
    w1.heap[w.heap.size]? = some o1 ∧ w1.heap[w.heap.size + 1]? = some o2 ∧ w1.heap[w.heap.size + 1 + 1]? = some o3 ∧ w.heap.size + 2 < w1.heap.size ∧ Below w.heap.size w w1 := by
  have e : (((w.alloc o1).alloc o2).alloc o3).heap = ((w.heap.push o1).push o2).push o3 := rfl
  have hz : (((w.alloc o1).alloc o2).alloc o3).heap.size = w.heap.size + 3 := by rw [e]; simp
  have hs := bel.size
  refine ⟨?_, ?_, ?_, by omega, (below3 w o1 o2 o3).trans (bel.mono (by omega))⟩
  · rw [bel.block _ (by omega), e, Array.getElem?_push, Array.getElem?_push, Array.getElem?_push]; simp; intro h; omega
  · rw [bel.block _ (by omega), e, Array.getElem?_push, Array.getElem?_push]; simp
  · rw [bel.block _ (by omega), e, Array.getElem?_push]; simp
theorem cells_of {w : World} {b : Nat} {cs : Array Value} {T : TypeId} (h : w.heap[b]? = some (.cells cs T (0, 0))) : (∀ o, w.cell? ⟨b, o, none⟩ = cs[o]?) ∧ ∀ o, w.frozen? ⟨b, o, none⟩ = false :=
  ⟨fun o => by simp [World.cell?, h], fun o => by simp [World.frozen?, h]⟩
set_option maxHeartbeats 1000000 in
theorem toExp_any (e : Ex) : ToEx e := by
  induction e using Ex.ind with
  | h k n b t kids ih =>
    intro w B v hx hs
    obtain ⟨a, cap, rfl, ht, hk⟩ := hx.out
    rw [Ex.sz_mk] at hs
    have HK := hideP hk
    have IH := hideP ih
    clear hx hk ih
    go_enter Try.func15, Try.ntmps15
    go_wp2_with fail
    refine (toExpS_of kids IH.out _ B a cap (HK.out.stays (below3 w _ _ _)) (by omega)).mono ?_
    rintro e1 w1 ⟨g, rfl, hx1, bel1⟩
    obtain ⟨_, q2, q3, hz, hw⟩ := three bel1
    obtain ⟨c2, f2⟩ := cells_of q2
    obtain ⟨c3, f3⟩ := cells_of q3
    have a0 := c2 0
    have a1 := c2 1
    have a2 := c2 2
    have a3 := c2 3
    have a4 := c2 4
    have b0 := c3 0
    have b1 := c3 1
    have b2 := c3 2
    have b3 := c3 3
    have b4 := c3 4
    simp at a0 a1 a2 a3 a4 b0 b1 b2 b3 b4
    have hB : (((w.alloc (.cells #[.int .i64 k, .int .i64 n, .int .i64 b, .string t, .slice a kids.length cap] 36)).alloc (.cells #[.int .i64 0, .int .i64 0, .int .i64 0, .string ⟨#[]⟩, .slice none 0 0] 41)).alloc (.cells #[.int .i64 k, .int .i64 n, .int .i64 b, .string t, .slice none 0 0] 41)).heap.size = w.heap.size + 3 := by simp
    rw [hB] at hx1
    have HX1 := hideP hx1
    have HW := hideP hw
    clear bel1 q2 q3 c2 c3 hx1 hw hB
    go_wp2
    try simp only [Exit.inBlock, Exit.then]
    refine bodyPost_ret (v := .agg #[.int .i64 k, .int .i64 n, .int .i64 b, .string t, .slice (some ⟨g, 0, none⟩) kids.length kids.length]) (by simp [results, Try.results15, go_sem, a0, a1, a2, a3, a4]) rfl ⟨_, rfl, ?_, ?_⟩
    · refine ExIs.of ht (ExsIs.mono ?_ (show w.heap.size ≤ w.heap.size + 3 by omega))
      exact ((HX1.out.but (g := w.heap.size + 1 + 1) (by omega) ((But.refl _ _).set _ _))).but (g := w.heap.size + 1) (by omega) ((((((But.refl _ _).set _ _).set _ _).set _ _).set _ _).set _ _)
    · exact (((((HW.out.setCell (show w.heap.size ≤ w.heap.size + 1 + 1 by omega) _).setCell (show w.heap.size ≤ w.heap.size + 1 by omega) _).setCell (show w.heap.size ≤ w.heap.size + 1 by omega) _).setCell (show w.heap.size ≤ w.heap.size + 1 by omega) _).setCell (show w.heap.size ≤ w.heap.size + 1 by omega) _).setCell (show w.heap.size ≤ w.heap.size + 1 by omega) _
theorem toExpS_any (es : List Ex) (w : World) (B : Nat) (a : Option Addr) (cap : Nat) (h : ExsIs w B a es) (hs : exsSz es ≤ 1048576) :
    Calls Try.prog 41 #[.slice a es.length cap] w fun en w' => ∃ g, en = .returned (.slice (some ⟨g, 0, none⟩) es.length es.length) ∧ ExsIs w' w.heap.size (some ⟨g, 0, none⟩) es ∧ Below w.heap.size w w' :=
  toExpS_of es (fun e _ => toExp_any e) w B a cap h hs

def ToSt (e : St) : Prop := ∀ (w : World) (B : Nat) (v : Array Value), StIs w B v e → e.sz ≤ 1048576 →
  Calls Try.prog 49 #[.agg v] w fun en w' => ∃ v', en = .returned (.agg v') ∧ StIs w' w.heap.size v' e ∧ Below w.heap.size w w'
set_option maxHeartbeats 1000000 in
theorem toStmtS_of (es : List St) (ih : ∀ e ∈ es, ToSt e) (w : World) (B : Nat) (a : Option Addr) (cap : Nat) (h : StsIs w B a es) (hs : stsSz es ≤ 1048576) :
    Calls Try.prog 34 #[.slice a es.length cap] w fun en w' => ∃ g, en = .returned (.slice (some ⟨g, 0, none⟩) es.length es.length) ∧ StsIs w' w.heap.size (some ⟨g, 0, none⟩) es ∧ Below w.heap.size w w' := by
  have hl0 := h.1
  have hl : es.length ≤ 1048576 := by unfold stsSz at hs; omega
  have hmk := make_n (P := Try.prog) Try.underlying28 infoS es.length hl (by decide)
  have H := hideP h
  have IH := hideP ih
  have HS := hideP hs
  clear h ih hs
  go_enter Try.func34, Try.ntmps34
  go_wp2
  clear hmk
  go_loopw [4] (fun i wr => ∃ j : Nat, j ≤ es.length ∧ i = .int .i64 j ∧ Built StIs 6 74 wr w.heap.size es j ∧ Below w.heap.size w wr) (fun i _ => es.length - (intOf i).toNat)
  case atStart => exact ⟨0, Nat.zero_le _, rfl, built_start StIs w _ 6 _ es, (Below.refl _ _).alloc (Nat.le_refl _) _⟩
  case round =>
    obtain ⟨j, hj, rfl, hbt, bel⟩ := hrel
    by_cases hlt : j < es.length
    · obtain ⟨b, o, k, n, bs, exps, xs, ys, ea, ec, xa, xc, ya, yc, rfl, _, hb, he, c0, c1, c2, c3, c4, c5, hx⟩ := (H.out.stays bel).get j hlt
      have HE := hideP he
      have HX := hideP hx
      have HB := hideP bel
      have HT := hideP hbt
      have hg := hbt.lt
      have hsz := bel.size
      clear he hx bel hbt
      go_wp2_with fail
      refine (IH.out es[j] (List.getElem_mem hlt) _ B _ (by rw [HE.out]; exact HX.out) (by have := stsSum_mem (List.getElem_mem hlt); have := HS.out; unfold stsSz at this; omega)).mono ?_
      rintro e1 w1 ⟨v', rfl, hx1, bel1⟩
      have hx2 := hx1
      rw [HE.out] at hx2
      obtain ⟨ea', ec', xa', xc', ya', yc', rfl, _, _, _⟩ := hx2.out
      have hb1 := HT.out.on (fun h b => h.stays b) bel1
      obtain ⟨hce, hfz⟩ := hb1.cells
      obtain ⟨d0, hd0⟩ := hce (j * 6) (by omega)
      obtain ⟨d1, hd1⟩ := hce (j * 6 + 1) (by omega)
      obtain ⟨d2, hd2⟩ := hce (j * 6 + 2) (by omega)
      obtain ⟨d3, hd3⟩ := hce (j * 6 + 3) (by omega)
      obtain ⟨d4, hd4⟩ := hce (j * 6 + 4) (by omega)
      obtain ⟨d5, hd5⟩ := hce (j * 6 + 5) (by omega)
      have HB1 := hideP hb1
      have HX1 := hideP (hx1.mono (show w.heap.size + 1 ≤ wr.heap.size by omega))
      have hw1 : Hid (Below w.heap.size w w1) := HB.out.trans (bel1.mono hsz)
      clear bel1 c0 c1 c2 c3 c4 c5 hb1 hx1 hx2 hce
      go_wp2
      go_roundw
      case rel => exact ⟨j + 1, by omega, by go_num, HB1.out.step6 hlt HX1.out, (((((hw1.out.setCell (Nat.le_refl _) _).setCell (Nat.le_refl _) _).setCell (Nat.le_refl _) _).setCell (Nat.le_refl _) _).setCell (Nat.le_refl _) _).setCell (Nat.le_refl _) _⟩
      case measure => simp [intOf]; omega
    · have hjn : j = es.length := by omega
      subst hjn
      go_wp2
      go_ret
      obtain ⟨vs, hr, hx⟩ := hbt.row
      exact ⟨_, rfl, ⟨by omega, vs, hr, fun i hi => (hx i hi).mono (by omega)⟩, bel⟩

/-- Blocks stay through a store elsewhere and what a call adds. -/
theorem kept {W w2 : World} {g i : Nat} {v : Value} (bel : Below (W.setCell ⟨g, i, none⟩ v).heap.size (W.setCell ⟨g, i, none⟩ v) w2) {b : Nat} (hb : b < W.heap.size) (hne : b ≠ g) : w2.heap[b]? = W.heap[b]? :=
  (bel.block b (by simpa [World.setCell] using hb)).trans (Below.heap_setCell W ⟨g, i, none⟩ v b hne)
theorem kept_same {W w2 : World} {g i : Nat} {v : Value} {cs : Array Value} {T : TypeId} (bel : Below (W.setCell ⟨g, i, none⟩ v).heap.size (W.setCell ⟨g, i, none⟩ v) w2) (h : W.heap[g]? = some (.cells cs T (0, 0))) : w2.heap[g]? = some (.cells (cs.setIfInBounds i v) T (0, 0)) :=
  (bel.block g (by have := (Array.getElem?_eq_some_iff.1 h).1; simpa [World.setCell] using this)).trans (heap_setCell_same W g i cs T v h)
theorem kept_below {B : Nat} {w W w2 : World} {g i : Nat} {v : Value} (h : Below B w W) (hg : B ≤ g) (hB : B ≤ W.heap.size) (bel : Below (W.setCell ⟨g, i, none⟩ v).heap.size (W.setCell ⟨g, i, none⟩ v) w2) : Below B w w2 :=
  (h.setCell (p := ⟨g, i, none⟩) hg v).trans (bel.mono (by simpa [World.setCell] using hB))
theorem kept_size {W w2 : World} {g i : Nat} {v : Value} (bel : Below (W.setCell ⟨g, i, none⟩ v).heap.size (W.setCell ⟨g, i, none⟩ v) w2) : W.heap.size ≤ w2.heap.size := by
  have := bel.size; simpa [World.setCell] using this
theorem size_set (W : World) (a : Addr) (v : Value) : (W.setCell a v).heap.size = W.heap.size := by simp [World.setCell]

set_option maxHeartbeats 1000000 in
theorem toStmt_any (e : St) : ToSt e := by
  induction e using St.ind with
  | h k n b exps xs ys ihx ihy =>
    intro w B v hx hs
    obtain ⟨a, cap, ax, cx, ay, cy, rfl, he, hxs, hys⟩ := hx.out
    rw [St.sz_mk] at hs
    have HE := hideP he
    have HX := hideP hxs
    have HY := hideP hys
    have IHX := hideP ihx
    have IHY := hideP ihy
    clear hx he hxs hys ihx ihy
    go_enter Try.func49, Try.ntmps49
    go_wp2_with fail
    refine (toExpS_any exps _ B a cap (HE.out.stays (below3 w _ _ _)) (by omega)).mono ?_
    rintro e1 w1 ⟨g1, rfl, hx1, bel1⟩
    obtain ⟨q1, q2, q3, hz, hw⟩ := three bel1
    have hB : (((w.alloc (.cells #[.int .i64 k, .int .i64 n, .int .i64 b, .slice a exps.length cap, .slice ax xs.length cx, .slice ay ys.length cy] 79)).alloc (.cells #[.int .i64 0, .int .i64 0, .int .i64 0, .slice none 0 0, .slice none 0 0, .slice none 0 0] 74)).alloc (.cells #[.int .i64 k, .int .i64 n, .int .i64 b, .slice none 0 0, .slice none 0 0, .slice none 0 0] 74)).heap.size = w.heap.size + 3 := by simp
    rw [hB] at hx1
    obtain ⟨c1, _⟩ := cells_of q1
    obtain ⟨c3, f3⟩ := cells_of q3
    have r4 := c1 4
    have s3 := c3 3
    simp at r4 s3
    have HX1 := hideP hx1
    have HW := hideP hw
    have Q1 := hideP q1
    have Q2 := hideP q2
    have Q3 := hideP q3
    clear bel1 q1 q2 q3 c1 c3 hx1 hw hB
    go_wp2_with fail
    refine (toStmtS_of xs IHX.out _ B ax cx (HX.out.stays (HW.out.setCell (p := ⟨w.heap.size + 1 + 1, 3, none⟩) (show w.heap.size ≤ w.heap.size + 1 + 1 by omega) _)) (by omega)).mono ?_
    rintro e2 w2 ⟨g2, rfl, hx2, bel2⟩
    rw [size_set] at hx2
    have q1 := (kept bel2 (b := w.heap.size) (by omega) (by omega)).trans Q1.out
    have q2 := (kept bel2 (b := w.heap.size + 1) (by omega) (by omega)).trans Q2.out
    have q3 := kept_same bel2 Q3.out
    simp at q3
    have hx1 : ExsIs w2 (w.heap.size + 3) (some ⟨g1, 0, none⟩) exps := (HX1.out.but (g := w.heap.size + 1 + 1) (by omega) ((But.refl _ _).set _ _)).stays bel2
    have hw2 := kept_below HW.out (show w.heap.size ≤ w.heap.size + 1 + 1 by omega) (by omega) bel2
    have hz2 := kept_size bel2
    obtain ⟨c1, _⟩ := cells_of q1
    obtain ⟨c3, f3'⟩ := cells_of q3
    have r5 := c1 5
    have s4 := c3 4
    simp at r5 s4
    have HX1' := hideP hx1
    have HX2 := hideP (hx2.mono (show w.heap.size + 3 ≤ w1.heap.size by omega))
    have HW2 := hideP hw2
    clear HX1 HW Q1 Q2 Q3 f3 r4 s3
    have Q1 := hideP q1
    have Q2 := hideP q2
    have Q3 := hideP q3
    clear bel2 q1 q2 q3 c1 c3 hx1 hx2 hw2
    go_wp2_with fail
    refine (toStmtS_of ys IHY.out _ B ay cy (HY.out.stays (HW2.out.setCell (p := ⟨w.heap.size + 1 + 1, 4, none⟩) (show w.heap.size ≤ w.heap.size + 1 + 1 by omega) _)) (by omega)).mono ?_
    rintro e3 w3 ⟨g3, rfl, hx3, bel3⟩
    rw [size_set] at hx3
    have q2 := (kept bel3 (b := w.heap.size + 1) (by omega) (by omega)).trans Q2.out
    have q3 := kept_same bel3 Q3.out
    simp at q3
    have hx1 : ExsIs w3 (w.heap.size + 3) (some ⟨g1, 0, none⟩) exps := (HX1'.out.but (g := w.heap.size + 1 + 1) (by omega) ((But.refl _ _).set _ _)).stays bel3
    have hx2 : StsIs w3 (w.heap.size + 3) (some ⟨g2, 0, none⟩) xs := (HX2.out.but (g := w.heap.size + 1 + 1) (by omega) ((But.refl _ _).set _ _)).stays bel3
    have hw3 := kept_below HW2.out (show w.heap.size ≤ w.heap.size + 1 + 1 by omega) (by omega) bel3
    have hz3 := kept_size bel3
    obtain ⟨c2, f2⟩ := cells_of q2
    obtain ⟨c3, f3⟩ := cells_of q3
    have a0 := c2 0
    have a1 := c2 1
    have a2 := c2 2
    have a3 := c2 3
    have a4 := c2 4
    have a5 := c2 5
    have b0 := c3 0
    have b1 := c3 1
    have b2 := c3 2
    have b3 := c3 3
    have b4 := c3 4
    have b5 := c3 5
    simp at a0 a1 a2 a3 a4 a5 b0 b1 b2 b3 b4 b5
    have H1 := hideP hx1
    have H2 := hideP hx2
    have H3 := hideP (hx3.mono (show w.heap.size + 3 ≤ w2.heap.size by omega))
    have HW3 := hideP hw3
    clear bel3 q2 q3 c2 c3 hx1 hx2 hx3 hw3 HX1' HX2 HW2 Q1 Q2 Q3 f3' r5 s4
    go_wp2
    try simp only [Exit.inBlock, Exit.then]
    refine bodyPost_ret (v := .agg #[.int .i64 k, .int .i64 n, .int .i64 b, .slice (some ⟨g1, 0, none⟩) exps.length exps.length, .slice (some ⟨g2, 0, none⟩) xs.length xs.length, .slice (some ⟨g3, 0, none⟩) ys.length ys.length]) (by simp [results, Try.results49, go_sem, a0, a1, a2, a3, a4, a5]) rfl ⟨_, rfl, ?_, ?_⟩
    · have bu : ∀ {x y : World} {u0 u1 u2 u3 u4 u5 u : Value}, x = y → But (w.heap.size + 1) x ((((((y.setCell ⟨w.heap.size + 1, 0, none⟩ u0).setCell ⟨w.heap.size + 1, 1, none⟩ u1).setCell ⟨w.heap.size + 1, 2, none⟩ u2).setCell ⟨w.heap.size + 1, 3, none⟩ u3).setCell ⟨w.heap.size + 1, 4, none⟩ u4).setCell ⟨w.heap.size + 1, 5, none⟩ u5) := by
        rintro x y u0 u1 u2 u3 u4 u5 u rfl
        exact ((((((But.refl _ _).set _ _).set _ _).set _ _).set _ _).set _ _).set _ _
      refine StIs.of (ExsIs.mono ?_ (show w.heap.size ≤ w.heap.size + 3 by omega)) (StsIs.mono ?_ (show w.heap.size ≤ w.heap.size + 3 by omega)) (StsIs.mono ?_ (show w.heap.size ≤ w.heap.size + 3 by omega))
      · exact (H1.out.but (g := w.heap.size + 1 + 1) (by omega) ((But.refl _ _).set _ _)).but (g := w.heap.size + 1) (by omega) (bu (u := .bool true) rfl)
      · exact (H2.out.but (g := w.heap.size + 1 + 1) (by omega) ((But.refl _ _).set _ _)).but (g := w.heap.size + 1) (by omega) (bu (u := .bool true) rfl)
      · exact (H3.out.but (g := w.heap.size + 1 + 1) (by omega) ((But.refl _ _).set _ _)).but (g := w.heap.size + 1) (by omega) (bu (u := .bool true) rfl)
    · exact ((((((HW3.out.setCell (show w.heap.size ≤ w.heap.size + 1 + 1 by omega) _).setCell (show w.heap.size ≤ w.heap.size + 1 by omega) _).setCell (show w.heap.size ≤ w.heap.size + 1 by omega) _).setCell (show w.heap.size ≤ w.heap.size + 1 by omega) _).setCell (show w.heap.size ≤ w.heap.size + 1 by omega) _).setCell (show w.heap.size ≤ w.heap.size + 1 by omega) _).setCell (show w.heap.size ≤ w.heap.size + 1 by omega) _
theorem toStmtS_any (es : List St) (w : World) (B : Nat) (a : Option Addr) (cap : Nat) (h : StsIs w B a es) (hs : stsSz es ≤ 1048576) :
    Calls Try.prog 34 #[.slice a es.length cap] w fun en w' => ∃ g, en = .returned (.slice (some ⟨g, 0, none⟩) es.length es.length) ∧ StsIs w' w.heap.size (some ⟨g, 0, none⟩) es ∧ Below w.heap.size w w' :=
  toStmtS_of es (fun e _ => toStmt_any e) w B a cap h hs
end Go.Proofs.Ytdkdimklacblaah
