/- The text of a step, as bytes; texts that a call answers, told by their bytes. -/
import Derived.Test.YtdkdimklacblaajDoorInstrOk
import Derived.Test.YtdkdimklacblaajDoorEndPlain
import Derived.Test.YtdkdimklacblaajDoorDec
import Derived.Test.YtdkdimklacblaajDoorImplDec
import Derived.Deep.CutRange
import Derived.Deep.RegionHeld3
namespace Go.Proofs.YtdkdimklacblaajDoor
open Go.ChangeShapes Go.WideShapes Go.ChangeAt Go.RowKit
def sL (n : Int) : List UInt8 := 115 :: Lib.itoa n
def plL (a b : Int) : List UInt8 := if a < 0 then sL b else sL a ++ (43 :: sL b)
def cellL (n a b : Int) : List UInt8 := 114 :: (Lib.itoa n ++ (91 :: (plL a b ++ [93])))
def stepL (x : Ins) : List UInt8 :=
  if x.op = 0 then sL x.d ++ ([32, 61, 32] ++ Lib.itoa x.n)
  else if x.op = 1 then sL x.d ++ ([32, 61, 32] ++ sL x.a)
  else if x.op = 2 then sL x.d ++ ([32, 61, 32] ++ (sL x.a ++ (32 :: (x.t.data.toList ++ (32 :: sL x.b)))))
  else if x.op = 3 then sL x.d ++ ([32, 61, 32] ++ cellL x.n x.a x.b)
  else if x.op = 4 then cellL x.n x.a x.b ++ ([32, 61, 32] ++ sL x.c)
  else if x.op = 5 then sL x.d ++ [32, 61, 32, 103, 101, 116]
  else [112, 117, 116, 32] ++ sL x.a
theorem sL_len {n : Int} (h : I64 n) : (sL n).length ≤ 22 := by have := itoa_len h.1 h.2; simp [sL]; omega
theorem plL_len {a b : Int} (ha : I64 a) (hb : I64 b) : (plL a b).length ≤ 45 := by
  have h1 := sL_len ha
  have h2 := sL_len hb
  unfold plL; split <;> simp <;> omega
theorem cellL_len {n a b : Int} (hn : I64 n) (ha : I64 a) (hb : I64 b) : (cellL n a b).length ≤ 69 := by
  have h1 := plL_len ha hb
  have h2 := itoa_len hn.1 hn.2
  simp [cellL]; omega
theorem ba_size' (l : List UInt8) : (⟨l.toArray⟩ : ByteArray).size = l.length := by simp [ByteArray.size]
/-- A text that a call answers, as a letter: its bytes and how long it is at most. -/
theorem opq {P : Program} {f : Nat} {a : Array Value} {w : World} {l : List UInt8} {R : World → Prop} (n : Nat) (hl : l.length ≤ n) (h : Calls P f a w fun e w' => e = .returned (.string ⟨l.toArray⟩) ∧ R w') :
    Calls P f a w fun e w' => ∃ s : ByteArray, e = .returned (.string s) ∧ Hid (s.data.toList = l) ∧ s.size ≤ n ∧ R w' :=
  h.mono fun e w' ⟨he, hr⟩ => ⟨⟨l.toArray⟩, he, by show _ = _; simp, by rw [ba_size']; exact hl, hr⟩
abbrev Tab (w : World) : Prop := Lib.TabIs Tryd.prog w "internal/strconv.uint64pow10" .u64 Lib.pow10Tab
theorem slotText_any (n : Int) (hn : I64 n) (w : World) (ht : Tab w) :
    Calls Tryd.prog 33 #[.int .i64 n] w fun e w' => e = .returned (.string ⟨(sL n).toArray⟩) ∧ Below w.heap.size w w' := by
  have l1 := itoa_len hn.1 hn.2
  go_enter Tryd.func33, Tryd.ntmps33
  go_wp2_with fail
  refine (impl_dec n _ hn.1 hn.2 ht).mono ?_
  rintro e1 w1 ⟨rfl, bel⟩
  go_wp2
  go_ret
  exact ⟨ret_str (mk_of (by simp [sL])), bel⟩
theorem regionText_any (n : Int) (hn : I64 n) (w : World) (ht : Tab w) :
    Calls Tryd.prog 48 #[.int .i64 n] w fun e w' => e = .returned (.string ⟨(114 :: Lib.itoa n).toArray⟩) ∧ Below w.heap.size w w' := by
  have l1 := itoa_len hn.1 hn.2
  go_enter Tryd.func48, Tryd.ntmps48
  go_wp2_with fail
  refine (impl_dec n _ hn.1 hn.2 ht).mono ?_
  rintro e1 w1 ⟨rfl, bel⟩
  go_wp2
  go_ret
  exact ⟨ret_str (mk_of (by simp)), bel⟩
theorem keepB {W W' : World} {b : Nat} {o : Obj} (h : W.heap[b]? = some o) (bel : Below W.heap.size W W') : W'.heap[b]? = some o := (bel.block b (Array.getElem?_eq_some_iff.1 h).1).trans h
theorem newBk (w : World) (o : Obj) : (w.alloc o).heap[w.heap.size]? = some o := by show (w.heap.push o)[w.heap.size]? = _; exact Array.getElem?_push_size
set_option maxHeartbeats 2000000 in
theorem cellText_any (x : Ins) (w : World) (B : Nat) (v : Array Value) (h : InsIs w B v x) (ha : x.a = -1 ∨ 0 ≤ x.a) (ht : Tab w) :
    Calls Tryd.prog 34 #[.agg v] w fun e w' => e = .returned (.string ⟨(cellL x.n x.a x.b).toArray⟩) ∧ Below w.heap.size w w' := by
  obtain ⟨op, d, a, b, c, n, t⟩ := x
  obtain ⟨rfl, ⟨_, _, ka, kb, _, kn⟩, _⟩ := h
  simp only at *
  have ST := hideP (fun W z (hz : I64 z) (hW : Below w.heap.size w W) => opq 22 (sL_len hz) (slotText_any z hz W (tab_below ht hW)))
  have RT := hideP (fun W (hW : Below w.heap.size w W) => opq (l := 114 :: Lib.itoa n) 22 (by have := itoa_len kn.1 kn.2; simp; omega) (regionText_any n kn W (tab_below ht hW)))
  have KA := hideP ka
  have KB := hideP kb
  clear ka kb kn ht
  go_enter Tryd.func34, Tryd.ntmps34
  go_wp2_with fail
  refine (ST.out _ b KB.out ((Below.refl _ _).alloc (Nat.le_refl _) _)).mono ?_
  rintro e1 w1 ⟨s1, rfl, S1, z1, bel1⟩
  have P1 := hideP (keepB (newBk w _) bel1)
  have HW1 := hideP (below_new bel1)
  have p2 := (cells_of P1.out).1 2
  have p5 := (cells_of P1.out).1 5
  simp at p2 p5
  clear bel1
  by_cases hn : a < 0
  · obtain rfl : a = -1 := by omega
    have E : Hid (plL (-1) b = sL b) := if_pos (by omega)
    clear ha hn
    go_wp2_with fail
    refine (RT.out _ HW1.out).mono ?_
    rintro e2 w2 ⟨s2, rfl, S2, z2, bel2⟩
    have HW2 := hideP (below_trans HW1.out bel2)
    clear bel2 p2 p5
    go_wp2
    go_ret
    exact ⟨ret_str (mk_of (by simp [cellL, E.out, S1.out, S2.out])), HW2.out⟩
  · have E : Hid (plL a b = sL a ++ (43 :: sL b)) := if_neg hn
    have hne : ¬ a = -1 := by omega
    clear ha
    go_wp2_with fail
    refine (ST.out _ a KA.out HW1.out).mono ?_
    rintro e3 w3 ⟨s3, rfl, S3, z3, bel3⟩
    have P3 := hideP (keepB P1.out bel3)
    have HW3 := hideP (below_trans HW1.out bel3)
    clear bel3 p2 p5
    have p5 := (cells_of P3.out).1 5
    simp at p5
    go_wp2_with fail
    refine (RT.out _ HW3.out).mono ?_
    rintro e2 w2 ⟨s2, rfl, S2, z2, bel2⟩
    have HW2 := hideP (below_trans HW3.out bel2)
    clear bel2 p5
    go_wp2
    go_ret
    exact ⟨ret_str (mk_of (by simp [cellL, E.out, S1.out, S2.out, S3.out])), HW2.out⟩
end Go.Proofs.YtdkdimklacblaajDoor
