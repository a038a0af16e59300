/- The contracts of toInstr and toInstrS: a copy in new memory (written by wip/mkshape.py). -/
import Derived.Test.YtdkdimklacblaakInstrD
namespace Go.Proofs.Ytdkdimklacblaak
open Go.ChangeShapes Go.WideShapes Go.ChangeAt Go.RowKit
set_option maxHeartbeats 1000000 in
theorem toInstr_any (x : Ins) (w : World) (B : Nat) (v : Array Value) (h : InsIs w B v x) :
    Calls Try.prog 70 #[.agg v] w fun en w' => ∃ v', en = .returned (.agg v') ∧ InsIs w' w.heap.size v' x ∧ Below w.heap.size w w' := by
  obtain ⟨op, d, a, b, c, n, t⟩ := x
  obtain ⟨rfl, ok, st⟩ := h
  simp only at *
  go_enter Try.func70, Try.ntmps70
  go_wp2
  try simp only [Exit.inBlock, Exit.then]
  refine bodyPost_ret (v := .agg #[.int .i64 op, .int .i64 d, .int .i64 a, .int .i64 b, .int .i64 c, .int .i64 n, .string t]) (by simp [results, Try.results70, go_sem]) rfl ⟨_, rfl, ⟨rfl, ok, st⟩, ?_⟩
  first | exact below3 w _ _ _ | exact below2 w _ _ | exact (Below.refl _ _).alloc (Nat.le_refl _) _
/-- The copy, its cells named. -/
theorem toInstr_in {op : Int} {d : Int} {a : Int} {b : Int} {c : Int} {n : Int} {t : ByteArray} (w : World) (B : Nat) (v : Array Value) (h : InsIs w B v ⟨op, d, a, b, c, n, t⟩) (W : World) (bel : Below w.heap.size w W) :
    Calls Try.prog 70 #[.agg v] W fun en w' => en = .returned (.agg #[.int .i64 op, .int .i64 d, .int .i64 a, .int .i64 b, .int .i64 c, .int .i64 n, .string t]) ∧ InsIs w' W.heap.size #[.int .i64 op, .int .i64 d, .int .i64 a, .int .i64 b, .int .i64 c, .int .i64 n, .string t] ⟨op, d, a, b, c, n, t⟩ ∧ Below W.heap.size W w' :=
  (toInstr_any ⟨op, d, a, b, c, n, t⟩ W B v (InsKeeps.stays h bel)).mono fun en w' ⟨v', he, hp, hb⟩ => by
    have h1 := hp
    obtain ⟨rfl, _⟩ := h1
    exact ⟨he, hp, hb⟩
theorem infoInstr : (Try.prog.info? 44).map (fun i => (i.zero, i.size, i.bytes)) = some (some (.agg #[.int .i64 0, .int .i64 0, .int .i64 0, .int .i64 0, .int .i64 0, .int .i64 0, .string ByteArray.empty]), 7, 64) := by kernel_rfl
set_option maxHeartbeats 1000000 in
theorem toInstrS_any (es : List Ins) (w : World) (B : Nat) (a' : Option Addr) (cap : Nat) (h : SlIs InsIs 7 w B a' es) (hs : slSz Ins.sz es ≤ 1048576) :
    Calls Try.prog 58 #[.slice a' es.length cap] w fun en w' => ∃ g, en = .returned (.slice (some ⟨g, 0, none⟩) es.length es.length) ∧ SlIs InsIs 7 w' w.heap.size (some ⟨g, 0, none⟩) es ∧ Below w.heap.size w w' := by
  have hl0 := h.1
  have hl : es.length ≤ 1048576 := by unfold slSz at hs; omega
  have hmk := make_n (P := Try.prog) Try.underlying40 infoInstr es.length hl (by decide)
  have H := hideP h
  have HS := hideP hs
  clear h hs
  go_enter Try.func58, Try.ntmps58
  go_wp2
  clear hmk
  go_loopw [4] (fun i wr => ∃ j : Nat, j ≤ es.length ∧ i = .int .i64 j ∧ Built InsIs 7 44 wr w.heap.size es j ∧ Below w.heap.size w wr) (fun i _ => es.length - (intOf i).toNat)
  case atStart => exact ⟨0, Nat.zero_le _, rfl, built_start InsIs w _ 7 _ es, (Below.refl _ _).alloc (Nat.le_refl _) _⟩
  case round =>
    obtain ⟨j, hj, rfl, hbt, bel⟩ := hrel
    by_cases hlt : j < es.length
    · obtain ⟨b', o', op, d, a, b, c, n, t, rfl, _, hb, he, k0, k1, k2, k3, k4, k5, k6, hx⟩ := Ins_get (H.out.stays InsKeeps bel) j hlt
      have HE := hideP he
      have HX := hideP hx
      have HB := hideP bel
      have HT := hideP hbt
      have hg := hbt.lt
      have hsz := bel.size
      clear he hx bel hbt
      go_wp2_with fail
      refine (toInstr_any es[j] _ B _ (by rw [HE.out]; exact HX.out)).mono ?_
      rintro e1 w1 ⟨v', rfl, hx1, bel1⟩
      have hx2 := hx1
      rw [HE.out] at hx2
      obtain ⟨rfl, _, _⟩ := hx2
      simp only at hx1
      have hb1 := HT.out.on InsKeeps bel1
      obtain ⟨hce, hfz⟩ := hb1.cells
      obtain ⟨d0, hd0⟩ := hce (j * 7) (by omega)
      obtain ⟨d1, hd1⟩ := hce (j * 7 + 1) (by omega)
      obtain ⟨d2, hd2⟩ := hce (j * 7 + 2) (by omega)
      obtain ⟨d3, hd3⟩ := hce (j * 7 + 3) (by omega)
      obtain ⟨d4, hd4⟩ := hce (j * 7 + 4) (by omega)
      obtain ⟨d5, hd5⟩ := hce (j * 7 + 5) (by omega)
      obtain ⟨d6, hd6⟩ := hce (j * 7 + 6) (by omega)
      have HB1 := hideP hb1
      have HX1 := hideP (InsKeeps.mono hx1 (show w.heap.size + 1 ≤ wr.heap.size by omega))
      have hw1 : Hid (Below w.heap.size w w1) := HB.out.trans (bel1.mono hsz)
      clear bel1 k0 k1 k2 k3 k4 k5 k6 hb1 hx1 hce
      go_wp2
      go_roundw
      case rel => exact ⟨j + 1, by omega, by go_num, HB1.out.step InsKeeps hlt (l := [.int .i64 op, .int .i64 d, .int .i64 a, .int .i64 b, .int .i64 c, .int .i64 n, .string t]) rfl HX1.out, sets_below (Nat.le_refl _) [.int .i64 op, .int .i64 d, .int .i64 a, .int .i64 b, .int .i64 c, .int .i64 n, .string t] _ _ hw1.out⟩
      case measure => simp [intOf]; omega
    · have hjn : j = es.length := by omega
      subst hjn
      go_wp2
      go_ret
      exact ⟨_, rfl, hbt.is InsKeeps hl0 (Nat.le_refl _), bel⟩
end Go.Proofs.Ytdkdimklacblaak
