/- The contracts of what the exact laws do with a list of texts: hold it against another, write into it, look whether it holds what was written. -/
import Derived.Test.YtjojcdjbplbdaafDoorWordsPlain
import Derived.Test.YtjojcdjbplbdaafDoorBelow
import Derived.Test.YtjojcdjbplbdaafDoorRows
import Derived.WalkKit
import Derived.ProofKit
import Derived.OpenShut
import Derived.WalkSpells
import Derived.WalkLawsBesides
import Derived.Laws.IdiomStrings
import Derived.Deep.QuietTactic
import Derived.BigQuiet
import Derived.Deep.RegionWith
namespace Go.Proofs.YtjojcdjbplbdaafDoor
open Go.ChangeShapes Go.WideShapes Go.ChangeAt Go.RowKit

set_option maxHeartbeats 400000 in
theorem markText_any (k : Nat) (w : World) (h0 : 0 < k) (h1 : k ≤ 1000000000) :
    Calls Tryd.prog 25 #[.int .i64 k] w fun e w' => e = .returned (.string (markS k)) ∧ Below w.heap.size w w' := by
  go_enter Tryd.func25, Tryd.ntmps25
  go_wp2
  go_loopw [0, 3] (fun a o wr => ∃ (m : Nat) (l : List UInt8), m ≤ k ∧ a = .int .i64 m ∧ o = .string ⟨l.toArray⟩ ∧ Hid (dd m ++ l = dd k) ∧ Below w.heap.size w wr) (fun a _ _ => (intOf a).toNat)
  case atStart => exact ⟨k, [], Nat.le_refl _, rfl, rfl, show _ = _ by simp, Below.refl _ _⟩
  case round =>
    obtain ⟨m, l, hm, rfl, rfl, hd, bel⟩ := hrel
    have hl : l.length ≤ 20 := dd_len (by omega) (by omega) hd.out
    by_cases hz : m = 0
    · subst hz
      have hb : ¬ 9223372036854775807 < 1 + l.length := by omega
      go_wp2
      go_ret
      exact ⟨ret_str (by rw [mark_app]; unfold markS; rw [← hd.out]; rfl), bel⟩
    · have hz' : 0 < m := by omega
      have e8 : ((UInt8.ofNat (48 + m % 10)).toNat : Int) = 48 + (m : Int) % 10 := by
        have e : (UInt8.ofNat (48 + m % 10)).toNat = 48 + m % 10 := by simp; omega
        rw [e]; omega
      have hcv := run_convert_bytes_back (P := Tryd.prog) (wr.alloc (.cells #[.int .u8 (48 + (m : Int) % 10)] 5)) 50 9 5 ⟨wr.heap.size, 0, none⟩ 1 [UInt8.ofNat (48 + m % 10)] Tryd.underlying50 Tryd.underlying5 Tryd.underlying9 (fun j hj => by
        have hj0 : j = 0 := by simpa using hj
        subst hj0
        show World.cell? _ ⟨wr.heap.size, 0, none⟩ = some (.int .u8 ((UInt8.ofNat (48 + m % 10)).toNat : Int))
        rw [World.cell?_alloc_new, e8]; rfl)
      simp only [List.length_singleton] at hcv
      clear e8
      have hb : ¬ 9223372036854775807 < 1 + l.length := by omega
      go_wp2
      go_roundw
      case rel => exact ⟨m / 10, UInt8.ofNat (48 + m % 10) :: l, by omega, by go_num, by rw [digit_app], show _ = _ by rw [← hd.out, dd_step hz]; simp, bel.alloc bel.size _⟩
      case measure => simp [intOf]; omega

/-- The slice begins at the head of block b and holds the texts ss. -/
def StrsAt (w : World) (b : Nat) (ss : List ByteArray) : Prop := ∀ (i : Nat) (h : i < ss.length), w.cell? ⟨b, i, none⟩ = some (.string ss[i])
theorem StrsAt.below {w w' : World} {b : Nat} {ss : List ByteArray} (h : StrsAt w b ss) (hb : b < w.heap.size) (bel : Below w.heap.size w w') : StrsAt w' b ss :=
  fun i hi => (bel.cell (p := ⟨b, i, none⟩) hb).trans (h i hi)

set_option maxHeartbeats 400000 in
theorem eqStringS_same (ss : List ByteArray) (b1 b2 c1 c2 : Nat) (w : World) (hl : ss.length ≤ 10000000) (h1 : StrsAt w b1 ss) (h2 : StrsAt w b2 ss) :
    Calls Tryd.prog 18 #[.slice (some ⟨b1, 0, none⟩) ss.length c1, .slice (some ⟨b2, 0, none⟩) ss.length c2] w fun e w' => e = .returned (.bool true) ∧ ∃ n, w' = w.drewN n := by
  go_enter Tryd.func18, Tryd.ntmps18
  go_wp2
  go_loopw [5] (fun i wr => ∃ k : Nat, k ≤ ss.length ∧ i = .int .i64 k ∧ ∃ n, wr = w.drewN n) (fun i _ => ss.length - (intOf i).toNat)
  case atStart => exact ⟨0, Nat.zero_le _, rfl, 0, rfl⟩
  case round =>
    obtain ⟨k, hk, rfl, n, rfl⟩ := hrel
    by_cases hlt : k < ss.length
    · have hc1 := h1 k hlt
      have hc2 := h2 k hlt
      go_wp2
      go_quiet (fail)
      go_wp2
      go_roundw
      case rel => exact ⟨k + 1, by omega, by go_num, _, rfl⟩
      case measure => simp [intOf]; omega
    · go_wp2
      go_ret
      exact ⟨rfl, n, rfl⟩

/-- w' is w but for block b and for blocks that are new. -/
structure But (b : Nat) (w w' : World) : Prop where
  os : w'.os = w.os
  tape : w'.tape = w.tape
  output : w'.output = w.output
  size : w.heap.size ≤ w'.heap.size
  block : ∀ k, k < w.heap.size → k ≠ b → w'.heap[k]? = w.heap[k]?
theorem But.refl (b : Nat) (w : World) : But b w w := ⟨rfl, rfl, rfl, Nat.le_refl _, fun _ _ _ => rfl⟩
theorem But.on {b : Nat} {w w1 w2 : World} (h : But b w w1) (k : Below w1.heap.size w1 w2) : But b w w2 :=
  ⟨k.os.trans h.os, k.tape.trans h.tape, k.output.trans h.output, Nat.le_trans h.size k.size, fun i hi hne => (k.block i (Nat.lt_of_lt_of_le hi h.size)).trans (h.block i hi hne)⟩
theorem But.set {b : Nat} {w w1 : World} (h : But b w w1) (i : Nat) (v : Value) : But b w (w1.setCell ⟨b, i, none⟩ v) :=
  ⟨h.os, h.tape, h.output, by simp [World.setCell]; exact h.size, fun k hk hne => (Below.heap_setCell w1 ⟨b, i, none⟩ v k hne).trans (h.block k hk hne)⟩
theorem But.cell {b : Nat} {w w' : World} (h : But b w w') {c i : Nat} (hc : c < w.heap.size) (hne : c ≠ b) : w'.cell? ⟨c, i, none⟩ = w.cell? ⟨c, i, none⟩ := World.cell?_of_block (w := w) (a := ⟨c, i, none⟩) (h.block c hc hne)
/-- Block b lies below B only where B is beyond it: what the calls make stands from B on. -/
theorem But.below {b B : Nat} {w w' : World} (h : But b w w') (hB : B ≤ b) (hw : B ≤ w.heap.size) : Below B w w' :=
  ⟨h.os, h.tape, h.output, h.size, fun k hk => h.block k (by omega) (by omega)⟩
/-- The first j cells hold what was written. -/
def Marked (cur : Array Value) (k j : Nat) : Prop := ∀ i, i < j → cur[i]? = some (.string (markS (k + i)))
theorem Marked.step {cur : Array Value} {k j : Nat} (h : Marked cur k j) (hj : j < cur.size) : Marked (cur.setIfInBounds j (.string (markS (k + j)))) k (j + 1) := by
  intro i hi
  rw [Array.getElem?_setIfInBounds]
  by_cases e : j = i
  · subst e; rw [if_pos rfl, if_pos hj]
  · rw [if_neg e]; exact h i (by omega)

set_option maxHeartbeats 400000 in
theorem markStringS_any (n k b cap : Nat) (cur : Array Value) (e : TypeId) (w : World) (hk0 : 0 < k) (hk : k + n ≤ 100000000) (hn : n ≤ cur.size) (hcur : w.heap[b]? = some (.cells cur e (0, 0))) :
    Calls Tryd.prog 19 #[.slice (some ⟨b, 0, none⟩) n cap, .int .i64 k] w fun en w' => en = .returned (.int .i64 ((k + n : Nat) : Int)) ∧ But b w w' ∧ ∃ cur', w'.heap[b]? = some (.cells cur' e (0, 0)) ∧ cur'.size = cur.size ∧ Marked cur' k n := by
  go_enter Tryd.func19, Tryd.ntmps19
  go_wp2
  go_loopw [1, 5] (fun kk i wr => ∃ j : Nat, j ≤ n ∧ i = .int .i64 j ∧ kk = .int .i64 ((k + j : Nat) : Int) ∧ But b w wr ∧ ∃ cur', wr.heap[b]? = some (.cells cur' e (0, 0)) ∧ cur'.size = cur.size ∧ Marked cur' k j) (fun _ i _ => n - (intOf i).toNat)
  case atStart => exact ⟨0, Nat.zero_le _, rfl, rfl, But.refl _ _, cur, hcur, rfl, fun i hi => absurd hi (Nat.not_lt_zero i)⟩
  case round =>
    obtain ⟨j, hj, rfl, rfl, hbut, cur', hc', hs', hm'⟩ := hrel
    have hbw : b < wr.heap.size := (Array.getElem?_eq_some_iff.1 hc').1
    by_cases hlt : j < n
    · have hjc : j < cur'.size := by omega
      go_wp2_with fail
      have ekj : ((k : Int) + (j : Int)) = ((k + j : Nat) : Int) := by omega
      rw [ekj]
      clear ekj
      refine (markText_any (k + j) wr (by omega) (by omega)).mono ?_
      rintro e1 w1 ⟨rfl, bel1⟩
      have hc1 : w1.heap[b]? = some (.cells cur' e (0, 0)) := (bel1.block b hbw).trans hc'
      have hcell : w1.cell? ⟨b, j, none⟩ = some cur'[j] := by simp [World.cell?, hc1, hjc]
      have hfr : w1.frozen? ⟨b, j, none⟩ = false := by simp [World.frozen?, hc1]
      have HB := hideP (hbut.on bel1)
      have HC := hideP hc1
      clear hc1 hc' hbut bel1 hcur
      go_wp2
      go_roundw
      case rel => exact ⟨j + 1, by omega, by go_num, by go_num, HB.out.set j _, _, heap_setCell_same w1 b j cur' e _ HC.out, by simp [hs'], hm'.step hjc⟩
      case measure => simp [intOf]; omega
    · have hjn : j = n := by omega
      subst hjn
      go_wp2
      go_ret
      exact ⟨rfl, hbut, cur', hc', hs', hm'⟩

set_option maxHeartbeats 400000 in
theorem heldStringS_any (n k b cap : Nat) (w : World) (hk0 : 0 < k) (hk : k + n ≤ 100000000) (hb : b < w.heap.size) (hm : ∀ i, i < n → w.cell? ⟨b, i, none⟩ = some (.string (markS (k + i)))) :
    Calls Tryd.prog 20 #[.slice (some ⟨b, 0, none⟩) n cap, .int .i64 k] w fun en w' => en = .returned (.int .i64 ((k + n : Nat) : Int)) ∧ Below w.heap.size w w' := by
  go_enter Tryd.func20, Tryd.ntmps20
  go_wp2
  go_loopw [1, 5] (fun kk i wr => ∃ j m : Nat, j ≤ n ∧ i = .int .i64 j ∧ kk = .int .i64 m ∧ Hid (m = k + j) ∧ Below w.heap.size w wr) (fun _ i _ => n - (intOf i).toNat)
  case atStart => exact ⟨0, k, Nat.zero_le _, rfl, rfl, rfl, Below.refl _ _⟩
  case round =>
    obtain ⟨j, m, hj, rfl, rfl, hmk, bel⟩ := hrel
    by_cases hlt : j < n
    · have hcell : wr.cell? ⟨b, j, none⟩ = some (.string (markS m)) := by rw [hmk.out]; exact (bel.cell (p := ⟨b, j, none⟩) hb).trans (hm j hlt)
      have hsz := bel.size
      have hbw : b < wr.heap.size := by omega
      have hm0 : 0 < m := by have := hmk.out; omega
      have hm1 : m ≤ 100000000 := by have := hmk.out; omega
      have BEL := hideP bel
      clear bel hm
      go_wp2
      go_region_with (go_at_call 25; refine (markText_any m _ (by omega) (by omega)).mono ?_; rintro e1 w1 ⟨rfl, bel1⟩; have hc2 : w1.cell? ⟨b, j, none⟩ = some (.string (markS m)) := (bel1.cell (p := ⟨b, j, none⟩) (by exact hbw)).trans (by exact hcell))
      all_goals
        have hw1 : Below w.heap.size w w1 := by first | exact BEL.out.trans (bel1.mono hsz) | exact BEL.out.drew.trans (bel1.mono hsz) | exact BEL.out.drew.drew.trans (bel1.mono hsz)
        clear bel1 hc2
        go_wp2
        go_roundw
        case rel => exact ⟨j + 1, m + 1, by omega, by go_num, by go_num, show _ = _ by rw [hmk.out]; omega, hw1⟩
        case measure => simp [intOf]; omega
    · have hjn : j = n := by omega
      subst hjn
      go_wp2
      go_ret
      exact ⟨ret_int (by rw [hmk.out]), bel⟩
end Go.Proofs.YtjojcdjbplbdaafDoor
