/- Peep's walk through the words: what lies where. -/
import Derived.Test.YtfoelnblnfcaiaaPkI
namespace Go.Proofs.Ytfoelnblnfcaiaa
open Go.ChangeShapes Go.WideShapes Go.ChangeAt Go.RowKit
/-- The kept image's box K, the set D; lists from C on. -/
structure PkAt (w : World) (bm br : Array Value) (K D N C gs cgs : Nat) (sizes : List Int) (params slots : Int) (aims : List Int) (gn cn gk ck : Nat) (ks : List Wrd) (ns : List Int) (wr : World) : Prop where
  num : OwnI wr C (.slice (some ⟨gn, 0, none⟩) ns.length cn) ns
  box : wr.heap[K]? = some (.cells #[.slice (some ⟨gs, 0, none⟩) sizes.length cgs, .int .i64 params, .int .i64 slots, .slice (some ⟨gk, 0, none⟩) ks.length ck] 30 (0, 0))
  kept : OwnE WrE wr C (.slice (some ⟨gk, 0, none⟩) ks.length ck) ks
  set : SetIs InK wr D N aims
  szs : OwnI wr w.heap.size (.slice (some ⟨gs, 0, none⟩) sizes.length cgs) sizes
  bel : Below w.heap.size w wr
  inb : wr.heap[w.heap.size]? = some (.cells bm 30 (0, 0))
  out : wr.heap[w.heap.size + 1]? = some (.cells br 30 (0, 0))
  lo : gs < C ∧ K < D ∧ D < C ∧ w.heap.size + 1 < K ∧ w.heap.size + 1 < C
section
variable {w : World} {bm br : Array Value} {K D N C gs cgs : Nat} {sizes : List Int} {params slots : Int} {aims : List Int} {gn cn gk ck : Nat} {ks : List Wrd} {ns : List Int} {wr : World}
theorem PkAt.low (h : PkAt w bm br K D N C gs cgs sizes params slots aims gn cn gk ck ks ns wr) : C ≤ gn ∧ gn < wr.heap.size ∧ C ≤ gk ∧ gk < wr.heap.size ∧ gn ≠ gk ∧ C ≤ wr.heap.size := by
  have a := h.num.low gn rfl
  have b := h.kept.low gk rfl
  exact ⟨a.1, a.2, b.1, b.2, h.kept.ne_int h.num, by omega⟩
theorem PkAt.stays {W : World} (h : PkAt w bm br K D N C gs cgs sizes params slots aims gn cn gk ck ks ns wr) (b : Below wr.heap.size wr W) : PkAt w bm br K D N C gs cgs sizes params slots aims gn cn gk ck ks ns W :=
  ⟨h.num.stays b, keepC h.box b, h.kept.stays b, h.set.stays b, h.szs.stays b, below_trans h.bel b, keepC h.inb b, keepC h.out b, h.lo⟩
/-- The numbers' list grown. -/
theorem PkAt.grewN {W : World} {gn' cn' : Nat} {ns' : List Int} (h : PkAt w bm br K D N C gs cgs sizes params slots aims gn cn gk ck ks ns wr) (b : But gn wr W) (o : OwnI W C (.slice (some ⟨gn', 0, none⟩) ns'.length cn') ns') : PkAt w bm br K D N C gs cgs sizes params slots aims gn' cn' gk ck ks ns' W := by
  obtain ⟨l1, l2, l3, l4, l5, l6⟩ := h.low
  have lo := h.lo
  exact ⟨o, keepG h.box b (by omega), h.kept.butG b (by simp [Value.ownBlock]; omega), h.set.but b (by omega), h.szs.butG b (by simp [Value.ownBlock]; omega), h.bel.trans (b.below (by omega) h.bel.size), keepG h.inb b (by omega), keepG h.out b (by omega), h.lo⟩
/-- The kept words' list grown, and the box told so. -/
theorem PkAt.grewK {W : World} {gk' ck' : Nat} {ks' : List Wrd} (h : PkAt w bm br K D N C gs cgs sizes params slots aims gn cn gk ck ks ns wr) (b : But gk wr W) (o : OwnE WrE W C (.slice (some ⟨gk', 0, none⟩) ks'.length ck') ks') : PkAt w bm br K D N C gs cgs sizes params slots aims gn cn gk' ck' ks' ns (W.setCell ⟨K, 3, none⟩ (.slice (some ⟨gk', 0, none⟩) ks'.length ck')) := by
  obtain ⟨l1, l2, l3, l4, l5, l6⟩ := h.low
  have lo := h.lo
  have hk' := (o.low gk' rfl).1
  have b2 : But K W (W.setCell ⟨K, 3, none⟩ (.slice (some ⟨gk', 0, none⟩) ks'.length ck')) := (But.refl _ _).set _ _
  have bx := heap_setCell_same W K 3 _ _ (.slice (some ⟨gk', 0, none⟩) ks'.length ck') (keepG h.box b (by omega))
  have bw := h.bel.trans (b.below (by omega) h.bel.size)
  exact ⟨(h.num.butG b (by simp [Value.ownBlock]; omega)).butG b2 (by simp [Value.ownBlock]; omega), by simpa using bx, o.butG b2 (by simp [Value.ownBlock]; omega), (h.set.but b (by omega)).but b2 (by omega), (h.szs.butG b (by simp [Value.ownBlock]; omega)).butG b2 (by
      intro e
      have e2 := own_blk e
      obtain ⟨_, _, _, hv, _, hh, _⟩ := h.szs.parts
      cases hv
      rw [e2, h.box] at hh
      injection hh with hh
      injection hh with _ e3
      exact absurd e3 (by decide)), bw.trans (b2.below (by omega) bw.size), keepG (keepG h.inb b (by omega)) b2 (by omega), keepG (keepG h.out b (by omega)) b2 (by omega), h.lo⟩
/-- The kept words told anew. -/
theorem PkAt.aimed {W : World} {ks' : List Wrd} (h : PkAt w bm br K D N C gs cgs sizes params slots aims gn cn gk ck ks ns wr) (b : But gk wr W) (hl : ks'.length = ks.length) (o : OwnE WrE W C (.slice (some ⟨gk, 0, none⟩) ks.length ck) ks') : PkAt w bm br K D N C gs cgs sizes params slots aims gn cn gk ck ks' ns W := by
  obtain ⟨l1, l2, l3, l4, l5, l6⟩ := h.low
  have lo := h.lo
  exact ⟨h.num.butG b (by simp [Value.ownBlock]; omega), by rw [hl]; exact keepG h.box b (by omega), by rw [hl]; exact o, h.set.but b (by omega), h.szs.butG b (by simp [Value.ownBlock]; omega), h.bel.trans (b.below (by omega) h.bel.size), keepG h.inb b (by omega), keepG h.out b (by omega), h.lo⟩
/-- What the result's box is written from. -/
theorem PkAt.made (h : PkAt w bm br K D N C gs cgs sizes params slots aims gn cn gk ck ks ns wr) (W : World) (b : But (w.heap.size + 1) wr W) : MadeIm w ⟨sizes, params, slots, ks⟩ (.returned (.agg #[.slice (some ⟨gs, 0, none⟩) sizes.length cgs, .int .i64 params, .int .i64 slots, .slice (some ⟨gk, 0, none⟩) ks.length ck])) W := by
  obtain ⟨l1, l2, l3, l4, l5, l6⟩ := h.low
  have lo := h.lo
  refine ⟨gs, cgs, gk, ck, rfl, h.szs.butG b (fun e => ?_), (h.kept.butG b (by simp [Value.ownBlock]; omega)).mono (by omega), h.bel.trans (b.below (by omega) h.bel.size)⟩
  have e2 := own_blk e
  obtain ⟨_, _, _, hv, _, hh, _⟩ := h.szs.parts
  cases hv
  rw [e2, h.out] at hh
  injection hh with hh
  injection hh with _ e3
  exact absurd e3 (by decide)
theorem PkAt.start {w6 : World} {B' : Nat} {x : Value} (hs : SetIs InK w6 D N aims) (hb : Below w.heap.size w w6) (i1 : w6.heap[w.heap.size]? = some (.cells bm 30 (0, 0))) (i2 : w6.heap[w.heap.size + 1]? = some (.cells br 30 (0, 0)))
    (i3 : w6.heap[K]? = some (.cells #[.slice (some ⟨gs, 0, none⟩) sizes.length cgs, .int .i64 params, .int .i64 slots, x] 30 (0, 0))) (o : OwnI w6 B' (.slice (some ⟨gs, 0, none⟩) sizes.length cgs) sizes) (hB : w.heap.size ≤ B') (h1 : K < D) (h2 : w.heap.size + 1 < K) :
    PkAt w bm br K D N w6.heap.size gs cgs sizes params slots aims (w6.heap.size + 1) 0 w6.heap.size 0 [] [] (((w6.setCell ⟨K, 3, none⟩ (.slice (some ⟨w6.heap.size, 0, none⟩) 0 0)).alloc (.cells #[] 44)).alloc (.cells #[] 3)) := by
  have hD := hs.lt
  have hg := (o.low gs rfl).2
  have b2 : But K w6 (w6.setCell ⟨K, 3, none⟩ (.slice (some ⟨w6.heap.size, 0, none⟩) 0 0)) := (But.refl _ _).set _ _
  have bx := heap_setCell_same _ K 3 _ _ (.slice (some ⟨w6.heap.size, 0, none⟩) 0 0) i3
  have s1 := hs.but b2 (by omega)
  have o1 := o.butG b2 (by
    intro e
    have e2 := own_blk e
    obtain ⟨_, _, _, hv, _, hh, _⟩ := o.parts
    cases hv
    rw [e2, i3] at hh
    injection hh with hh
    injection hh with _ e3
    exact absurd e3 (by decide))
  have j1 := keepG i1 b2 (by omega)
  have j2 := keepG i2 b2 (by omega)
  have bw := hb.trans (b2.below (B := w.heap.size) (by omega) hb.size)
  have z2 : (w6.setCell ⟨K, 3, none⟩ (.slice (some ⟨w6.heap.size, 0, none⟩) 0 0)).heap.size = w6.heap.size := by simp
  obtain ⟨W6, hW6⟩ : ∃ W6, (w6.setCell ⟨K, 3, none⟩ (.slice (some ⟨w6.heap.size, 0, none⟩) 0 0)) = W6 := ⟨_, rfl⟩
  rw [hW6] at b2 bx s1 o1 j1 j2 bw z2 ⊢
  have a6 := (Below.refl W6.heap.size W6).alloc (Nat.le_refl _) (.cells #[] 44)
  have k0 : OwnE WrE (W6.alloc (.cells #[] 44)) w6.heap.size (.slice (some ⟨w6.heap.size, 0, none⟩) 0 0) [] := OwnE.of_parts WrOk (l := []) (Nat.le_refl _) (by rw [← z2]; exact heap_alloc_new W6 (.cells #[] 44)) (Nat.le_refl _) (Nat.zero_le _) (by rw [Nat.zero_mul]; rfl) (fun j hj => absurd hj (Nat.not_lt_zero _))
  have z3 : (W6.alloc (.cells #[] 44)).heap.size = w6.heap.size + 1 := by simp [z2]
  obtain ⟨W7, hW7⟩ : ∃ W7, (W6.alloc (.cells #[] 44)) = W7 := ⟨_, rfl⟩
  rw [hW7] at a6 k0 z3 ⊢
  have a7 := (Below.refl W7.heap.size W7).alloc (Nat.le_refl _) (.cells #[] 3)
  have n1 := own_lit W7 [] #[] (w6.heap.size + 1) 0 z3.symm rfl rfl (by simp)
  have bx2 : W6.heap[K]? = some (.cells #[.slice (some ⟨gs, 0, none⟩) sizes.length cgs, .int .i64 params, .int .i64 slots, .slice (some ⟨w6.heap.size, 0, none⟩) 0 0] 30 (0, 0)) := by simpa using bx
  exact ⟨n1.mono (by omega), keepC (keepC bx2 a6) a7, k0.stays a7, (s1.stays a6).stays a7, ((o1.stays a6).stays a7).mono hB, below_trans (below_trans bw a6) a7, keepC (keepC j1 a6) a7, keepC (keepC j2 a6) a7, by omega⟩
end
end Go.Proofs.Ytfoelnblnfcaiaa
