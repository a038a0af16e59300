/- The contracts of toWord and toWordS: a copy in new memory (written by wip/mkshape.py). -/
import Derived.Test.YtheholgdfmipbaaDoorWordD
namespace Go.Proofs.YtheholgdfmipbaaDoor
open Go.ChangeShapes Go.WideShapes Go.ChangeAt Go.RowKit
set_option maxHeartbeats 1000000 in
theorem toWord_any (x : Wrd) (w : World) (B : Nat) (v : Array Value) (h : WrdIs w B v x) :
    Calls Tryd.prog 40 #[.agg v] w fun en w' => ∃ v', en = .returned (.agg v') ∧ WrdIs w' w.heap.size v' x ∧ Below w.heap.size w w' := by
  obtain ⟨op, r, a, b, n⟩ := x
  obtain ⟨rfl, ok⟩ := h
  simp only at *
  go_enter Tryd.func40, Tryd.ntmps40
  go_wp2
  try simp only [Exit.inBlock, Exit.then]
  refine bodyPost_ret (v := .agg #[.int .i64 op, .int .i64 r, .int .i64 a, .int .i64 b, .int .i64 n]) (by simp [results, Tryd.results40, go_sem]) rfl ⟨_, rfl, ⟨rfl, ok⟩, ?_⟩
  first | exact below3 w _ _ _ | exact below2 w _ _ | exact (Below.refl _ _).alloc (Nat.le_refl _) _
/-- The copy, its cells named. -/
theorem toWord_in {op : Int} {r : Int} {a : Int} {b : Int} {n : Int} (w : World) (B : Nat) (v : Array Value) (h : WrdIs w B v ⟨op, r, a, b, n⟩) (W : World) (bel : Below w.heap.size w W) :
    Calls Tryd.prog 40 #[.agg v] W fun en w' => en = .returned (.agg #[.int .i64 op, .int .i64 r, .int .i64 a, .int .i64 b, .int .i64 n]) ∧ WrdIs w' W.heap.size #[.int .i64 op, .int .i64 r, .int .i64 a, .int .i64 b, .int .i64 n] ⟨op, r, a, b, n⟩ ∧ Below W.heap.size W w' :=
  (toWord_any ⟨op, r, a, b, n⟩ W B v (WrdKeeps.stays h bel)).mono fun en w' ⟨v', he, hp, hb⟩ => by
    have h1 := hp
    obtain ⟨rfl, _⟩ := h1
    exact ⟨he, hp, hb⟩
theorem infoWord : (Tryd.prog.info? 47).map (fun i => (i.zero, i.size, i.bytes)) = some (some (.agg #[.int .i64 0, .int .i64 0, .int .i64 0, .int .i64 0, .int .i64 0]), 5, 40) := by kernel_rfl
set_option maxHeartbeats 1000000 in
theorem toWordS_any (es : List Wrd) (w : World) (B : Nat) (a' : Option Addr) (cap : Nat) (h : SlIs WrdIs 5 w B a' es) (hs : es.length ≤ 1048576) :
    Calls Tryd.prog 26 #[.slice a' es.length cap] w fun en w' => ∃ g, en = .returned (.slice (some ⟨g, 0, none⟩) es.length es.length) ∧ SlIs WrdIs 5 w' w.heap.size (some ⟨g, 0, none⟩) es ∧ Below w.heap.size w w' := by
  have hl0 := h.1
  have hl : es.length ≤ 1048576 := hs
  have hmk := make_n (P := Tryd.prog) Tryd.underlying31 infoWord es.length hl (by decide)
  have H := hideP h
  have HS := hideP hs
  clear h hs
  go_enter Tryd.func26, Tryd.ntmps26
  go_wp2
  clear hmk
  go_loopw [4] (fun i wr => ∃ j : Nat, j ≤ es.length ∧ i = .int .i64 j ∧ Built WrdIs 5 47 wr w.heap.size es j ∧ Below w.heap.size w wr) (fun i _ => es.length - (intOf i).toNat)
  case atStart => exact ⟨0, Nat.zero_le _, rfl, built_start WrdIs w _ 5 _ es, (Below.refl _ _).alloc (Nat.le_refl _) _⟩
  case round =>
    obtain ⟨j, hj, rfl, hbt, bel⟩ := hrel
    by_cases hlt : j < es.length
    · obtain ⟨b', o', op, r, a, b, n, rfl, _, hb, he, k0, k1, k2, k3, k4, hx⟩ := Wrd_get (H.out.stays WrdKeeps bel) j hlt
      have HE := hideP he
      have HX := hideP hx
      have HB := hideP bel
      have HT := hideP hbt
      have hg := hbt.lt
      have hsz := bel.size
      clear he hx bel hbt
      go_wp2_with fail
      refine (toWord_any es[j] _ B _ (by rw [HE.out]; exact HX.out)).mono ?_
      rintro e1 w1 ⟨v', rfl, hx1, bel1⟩
      have hx2 := hx1
      rw [HE.out] at hx2
      obtain ⟨rfl, _⟩ := hx2
      simp only at hx1
      have hb1 := HT.out.on WrdKeeps bel1
      obtain ⟨hce, hfz⟩ := hb1.cells
      obtain ⟨d0, hd0⟩ := hce (j * 5) (by omega)
      obtain ⟨d1, hd1⟩ := hce (j * 5 + 1) (by omega)
      obtain ⟨d2, hd2⟩ := hce (j * 5 + 2) (by omega)
      obtain ⟨d3, hd3⟩ := hce (j * 5 + 3) (by omega)
      obtain ⟨d4, hd4⟩ := hce (j * 5 + 4) (by omega)
      have HB1 := hideP hb1
      have HX1 := hideP (WrdKeeps.mono hx1 (show w.heap.size + 1 ≤ wr.heap.size by omega))
      have hw1 : Hid (Below w.heap.size w w1) := HB.out.trans (bel1.mono hsz)
      clear bel1 k0 k1 k2 k3 k4 hb1 hx1 hce
      go_wp2
      go_roundw
      case rel => exact ⟨j + 1, by omega, by go_num, HB1.out.step WrdKeeps hlt (l := [.int .i64 op, .int .i64 r, .int .i64 a, .int .i64 b, .int .i64 n]) rfl HX1.out, sets_below (Nat.le_refl _) [.int .i64 op, .int .i64 r, .int .i64 a, .int .i64 b, .int .i64 n] _ _ hw1.out⟩
      case measure => simp [intOf]; omega
    · have hjn : j = es.length := by omega
      subst hjn
      go_wp2
      go_ret
      exact ⟨_, rfl, hbt.is WrdKeeps hl0 (Nat.le_refl _), bel⟩
end Go.Proofs.YtheholgdfmipbaaDoor
