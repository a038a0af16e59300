/- The cursor over the bytes of a draw: what its functions answer lies within bounds; they write into the cursor alone. -/
import Derived.Test.YtjgiohhfhncepaaDoorMem
import Derived.Test.YtjgiohhfhncepaaDoorPlain
import Derived.Test.YtjgiohhfhncepaaDoorRows
import Derived.WalkKit
import Derived.ProofKit
import Derived.OpenShut
import Derived.WalkSpells
import Derived.WalkLawsBesides
import Derived.Deep.QuietTactic
import Derived.BigQuiet
import Derived.Deep.RegionWith
namespace Go.Proofs.YtjgiohhfhncepaaDoor
open Go.ChangeShapes Go.WideShapes Go.ChangeAt Go.RowKit

/-- The bytes of a draw lie where its slice says, none of them in block c. -/
def Code (w : World) (c : Nat) (a : Option Addr) (len : Nat) : Prop := ∀ j, j < len → ∃ b o z, a = some ⟨b, o, none⟩ ∧ b ≠ c ∧ b < w.heap.size ∧ 0 ≤ z ∧ z ≤ 255 ∧ w.cell? ⟨b, o + j, none⟩ = some (.int .u8 z)
/-- Block c is a cursor over these bytes. -/
def Cur (w : World) (c : Nat) (a : Option Addr) (len cap : Nat) : Prop := (∃ (i : Nat) (h : Int), i ≤ len ∧ w.heap[c]? = some (.cells #[.slice a len cap, .int .i64 i, .int .i64 h] 57 (0, 0))) ∧ Code w c a len

theorem and_mask (x : Int) (m : Nat) (hm : m < 9223372036854775808) : ∃ n : Nat, bits .and .i64 x (m : Int) = n ∧ n ≤ m := by
  have hb : (BitVec.ofInt 64 (m : Int)).toNat = m := by rw [BitVec.ofInt_natCast, BitVec.toNat_ofNat]; exact Nat.mod_eq_of_lt (by omega)
  have hle : (BitVec.ofInt 64 x &&& BitVec.ofInt 64 (m : Int)).toNat ≤ m := by
    rw [BitVec.toNat_and, hb]; exact Nat.and_le_right
  refine ⟨(BitVec.ofInt 64 x &&& BitVec.ofInt 64 (m : Int)).toNat, ?_, hle⟩
  show IntKind.i64.wrap ((BitVec.ofInt 64 x &&& BitVec.ofInt 64 (m : Int)).toNat : Int) = _
  generalize (BitVec.ofInt 64 x &&& BitVec.ofInt 64 (m : Int)).toNat = n at hle
  simp [IntKind.wrap, IntKind.bits, IntKind.signed]
  omega
theorem and_255 (x : Int) : ∃ n : Nat, bits .and .i64 x 255 = n ∧ n ≤ 255 := and_mask x 255 (by decide)
theorem heap3 {w : World} {c : Nat} {x y z : Value} {t : TypeId} (h : w.heap[c]? = some (.cells #[x, y, z] t (0, 0))) (z' : Value) : (w.setCell ⟨c, 2, none⟩ z').heap[c]? = some (.cells #[x, y, z'] t (0, 0)) := by
  rw [heap_setCell_same w c 2 _ t z' h]; rfl
theorem heap2 {w : World} {c : Nat} {x y z : Value} {t : TypeId} (h : w.heap[c]? = some (.cells #[x, y, z] t (0, 0))) (y' : Value) : (w.setCell ⟨c, 1, none⟩ y').heap[c]? = some (.cells #[x, y', z] t (0, 0)) := by
  rw [heap_setCell_same w c 1 _ t y' h]; rfl
theorem Code.but {w w' : World} {c : Nat} {a : Option Addr} {len : Nat} (h : Code w c a len) (b : But c w w') : Code w' c a len := fun j hj => by
  obtain ⟨bb, o, z, h1, h2, h3, h4, h5, h6⟩ := h j hj
  exact ⟨bb, o, z, h1, h2, Nat.lt_of_lt_of_le h3 b.size, h4, h5, (b.cell h3 h2).trans h6⟩
theorem But.drewN {b : Nat} {w w1 : World} (h : But b w w1) (n : Nat) : But b w (w1.drewN n) := ⟨h.os, h.tape, h.output, h.size, h.block⟩

set_option maxHeartbeats 400000 in
theorem l01Byte_any (c : Nat) (a : Option Addr) (len cap : Nat) (w : World) (hl : len ≤ 1048576) (hc : Cur w c a len cap) :
    Calls Tryd.prog 44 #[.pointer (some ⟨c, 0, none⟩)] w fun e w' => ∃ x : Nat, e = .returned (.int .i64 x) ∧ x ≤ 255 ∧ But c w w' ∧ Cur w' c a len cap := by
  obtain ⟨⟨i, h, hil, hh⟩, hcode⟩ := hc
  have c0 : w.cell? ⟨c, 0, none⟩ = some (.slice a len cap) := by simp [World.cell?, hh]
  have c1 : w.cell? ⟨c, 1, none⟩ = some (.int .i64 i) := by simp [World.cell?, hh]
  have c2 : w.cell? ⟨c, 2, none⟩ = some (.int .i64 h) := by simp [World.cell?, hh]
  have f0 : ∀ o, w.frozen? ⟨c, o, none⟩ = false := fun o => by simp [World.frozen?, hh]
  have HH := hideP hh
  have HC := hideP hcode
  clear hh hcode
  by_cases hlt : i < len
  · obtain ⟨b, o, z, rfl, hbc, hbs, hz0, hz1, hcell⟩ := HC.out i hlt
    go_enter Tryd.func44, Tryd.ntmps44
    go_wp2
    generalize wrap64 (wrap64 (h * 6364136223846793005) + 1442695040888963407) = h2
    generalize wrap64 (h * 6364136223846793005) = h3
    go_quiet (fail)
    go_wp2
    obtain ⟨x, hx, hx255⟩ := and_255 (bits .xor .i64 (h2 / 8589934592) (h2 / 35184372088832))
    rw [hx]
    clear hx
    go_quiet (fail)
    go_wp2
    go_quiet (fail)
    go_wp2
    go_ret
    obtain ⟨y, hy, hy255⟩ := and_255 ((x : Int) + z)
    have hbut := ((But.refl c w).set 2 (.int .i64 h2)).set 1 (.int .i64 ((i : Int) + 1))
    exact ⟨y, ret_int hy, hy255, hbut.drewN _, ⟨i + 1, h2, by omega, heap2 (heap3 HH.out (.int .i64 h2)) (.int .i64 ((i : Int) + 1))⟩, HC.out.but (hbut.drewN _)⟩
  · go_enter Tryd.func44, Tryd.ntmps44
    go_wp2
    generalize wrap64 (wrap64 (h * 6364136223846793005) + 1442695040888963407) = h2
    generalize wrap64 (h * 6364136223846793005) = h3
    go_quiet (fail)
    go_wp2
    obtain ⟨x, hx, hx255⟩ := and_255 (bits .xor .i64 (h2 / 8589934592) (h2 / 35184372088832))
    rw [hx]
    clear hx
    go_quiet (fail)
    go_wp2
    go_ret
    have hbut := (But.refl c w).set 2 (.int .i64 h2)
    exact ⟨x, rfl, hx255, (hbut.drewN _).drewN _, ⟨i, h2, hil, heap3 HH.out (.int .i64 h2)⟩, HC.out.but ((hbut.drewN _).drewN _)⟩

theorem But.trans {b : Nat} {w w1 w2 : World} (h : But b w w1) (k : But b w1 w2) : But b w w2 :=
  ⟨k.os.trans h.os, k.tape.trans h.tape, k.output.trans h.output, Nat.le_trans h.size k.size, fun i hi hne => (k.block i (Nat.lt_of_lt_of_le hi h.size) hne).trans (h.block i hi hne)⟩
theorem But.ofBelow {b : Nat} {w w1 : World} (k : Below w.heap.size w w1) : But b w w1 := (But.refl b w).on k
theorem But.alloc {b : Nat} {w w1 : World} (h : But b w w1) (o : Obj) : But b w (w1.alloc o) := h.on ((Below.refl _ _).alloc (Nat.le_refl _) o)
/-- The cursor is one of the blocks, and it stands while new blocks are laid. -/
theorem Cur.lt {w : World} {c : Nat} {a : Option Addr} {len cap : Nat} (h : Cur w c a len cap) : c < w.heap.size := by
  obtain ⟨⟨i, x, _, hh⟩, _⟩ := h; exact (Array.getElem?_eq_some_iff.1 hh).1
theorem Cur.below {w w' : World} {c : Nat} {a : Option Addr} {len cap : Nat} (h : Cur w c a len cap) (b : Below w.heap.size w w') : Cur w' c a len cap := by
  have hl := h.lt
  obtain ⟨⟨i, x, hi, hh⟩, hc⟩ := h
  exact ⟨⟨i, x, hi, (b.block c hl).trans hh⟩, hc.but (But.ofBelow b)⟩
theorem Cur.alloc {w : World} {c : Nat} {a : Option Addr} {len cap : Nat} (h : Cur w c a len cap) (o : Obj) : Cur (w.alloc o) c a len cap := h.below ((Below.refl _ _).alloc (Nat.le_refl _) o)
theorem StrsAt.but {w w' : World} {b c : Nat} {ss : List ByteArray} (h : StrsAt w b ss) (hb : b < w.heap.size) (hne : b ≠ c) (k : But c w w') : StrsAt w' b ss :=
  fun i hi => (k.cell hb hne).trans (h i hi)

set_option maxHeartbeats 400000 in
theorem l01Below_any (n c : Nat) (a : Option Addr) (len cap : Nat) (w : World) (hn : 1 ≤ n) (hn9 : n ≤ 1000000000) (hl : len ≤ 1048576) (hc : Cur w c a len cap) :
    Calls Tryd.prog 26 #[.pointer (some ⟨c, 0, none⟩), .int .i64 n] w fun e w' => ∃ x : Nat, e = .returned (.int .i64 x) ∧ x < n ∧ But c w w' ∧ Cur w' c a len cap := by
  have HC := hideP hc
  clear hc
  by_cases h256 : n ≤ 256
  · go_enter Tryd.func26, Tryd.ntmps26
    go_wp2_with fail
    refine (l01Byte_any c a len cap _ hl HC.out).mono ?_
    rintro e w1 ⟨x, rfl, hx, b1, hc1⟩
    have HB := hideP b1
    have HC1 := hideP hc1
    clear b1 hc1
    go_wp2
    go_ret
    exact ⟨x % n, ret_int (by rw [Int.natCast_emod]), Nat.mod_lt _ hn, HB.out, HC1.out⟩
  · go_enter Tryd.func26, Tryd.ntmps26
    go_wp2_with fail
    refine (l01Byte_any c a len cap _ hl HC.out).mono ?_
    rintro e w1 ⟨x1, rfl, hx1, b1, hc1⟩
    have HB1 := hideP b1
    have HC1 := hideP hc1
    clear b1 hc1
    go_wp2_with fail
    refine (l01Byte_any c a len cap _ hl HC1.out).mono ?_
    rintro e w2 ⟨x2, rfl, hx2, b2, hc2⟩
    have HB2 := hideP b2
    have HC2 := hideP hc2
    clear b2 hc2
    go_wp2_with fail
    refine (l01Byte_any c a len cap _ hl HC2.out).mono ?_
    rintro e w3 ⟨x3, rfl, hx3, b3, hc3⟩
    have HB3 := hideP b3
    have HC3 := hideP hc3
    clear b3 hc3
    go_wp2_with fail
    refine (l01Byte_any c a len cap _ hl HC3.out).mono ?_
    rintro e w4 ⟨x4, rfl, hx4, b4, hc4⟩
    have HB4 := hideP b4
    have HC4 := hideP hc4
    clear b4 hc4
    go_wp2
    go_ret
    refine ⟨(x1 * 16777216 + x2 * 65536 + x3 * 256 + x4) % n, ret_int (by rw [Int.natCast_emod]; rfl), Nat.mod_lt _ hn, ((HB1.out.trans HB2.out).trans HB3.out).trans HB4.out, HC4.out⟩

theorem l01Once_any (n c : Nat) (a : Option Addr) (len cap : Nat) (w : World) (hn : 1 ≤ n) (hn9 : n ≤ 1000000000) (hl : len ≤ 1048576) (hc : Cur w c a len cap) :
    Calls Tryd.prog 33 #[.pointer (some ⟨c, 0, none⟩), .int .i64 n] w fun e w' => ∃ x : Bool, e = .returned (.bool x) ∧ But c w w' ∧ Cur w' c a len cap := by
  go_enter Tryd.func33, Tryd.ntmps33
  have HC := hideP hc
  clear hc
  go_wp2_with fail
  refine (l01Below_any n c a len cap _ hn hn9 hl HC.out).mono ?_
  rintro e w1 ⟨x, rfl, hx, b1, hc1⟩
  have HB := hideP b1
  have HC1 := hideP hc1
  clear b1 hc1
  go_wp2
  go_ret
  exact ⟨_, rfl, HB.out, HC1.out⟩

set_option maxHeartbeats 400000 in
theorem l01Pick_any (ss : List ByteArray) (b cp c : Nat) (a : Option Addr) (len cap : Nat) (w : World) (hn : 1 ≤ ss.length) (hn9 : ss.length ≤ 1000) (hl : len ≤ 1048576) (hb : b < w.heap.size) (hbc : b ≠ c) (hs : StrsAt w b ss) (hc : Cur w c a len cap) :
    Calls Tryd.prog 28 #[.pointer (some ⟨c, 0, none⟩), .slice (some ⟨b, 0, none⟩) ss.length cp] w fun e w' => ∃ s : ByteArray, e = .returned (.string s) ∧ s ∈ ss ∧ But c w w' ∧ Cur w' c a len cap := by
  have HC := hideP hc
  have HS := hideP hs
  clear hc hs
  go_enter Tryd.func28, Tryd.ntmps28
  go_wp2_with fail
  refine (l01Below_any ss.length c a len cap _ hn (by omega) hl HC.out).mono ?_
  rintro e w1 ⟨x, rfl, hx, b1, hc1⟩
  have hcell := HS.out.but hb hbc b1 x hx
  have HB := hideP b1
  have HC1 := hideP hc1
  clear b1 hc1
  go_wp2
  go_ret
  exact ⟨ss[x], rfl, List.getElem_mem hx, HB.out, HC1.out⟩
set_option maxHeartbeats 400000 in
theorem l01PickInt_any (zs : List Int) (b cp c : Nat) (a : Option Addr) (len cap : Nat) (w : World) (hn : 1 ≤ zs.length) (hn9 : zs.length ≤ 1000) (hl : len ≤ 1048576) (hb : b < w.heap.size) (hbc : b ≠ c) (hs : ∀ (i : Nat) (h : i < zs.length), w.cell? ⟨b, i, none⟩ = some (.int .i64 zs[i])) (hc : Cur w c a len cap) :
    Calls Tryd.prog 32 #[.pointer (some ⟨c, 0, none⟩), .slice (some ⟨b, 0, none⟩) zs.length cp] w fun e w' => ∃ z : Int, e = .returned (.int .i64 z) ∧ z ∈ zs ∧ But c w w' ∧ Cur w' c a len cap := by
  have HC := hideP hc
  have HS := hideP hs
  clear hc hs
  go_enter Tryd.func32, Tryd.ntmps32
  go_wp2_with fail
  refine (l01Below_any zs.length c a len cap _ hn (by omega) hl HC.out).mono ?_
  rintro e w1 ⟨x, rfl, hx, b1, hc1⟩
  have hcell := (b1.cell hb hbc).trans (HS.out x hx)
  have HB := hideP b1
  have HC1 := hideP hc1
  clear b1 hc1
  go_wp2
  go_ret
  exact ⟨zs[x], rfl, List.getElem_mem hx, HB.out, HC1.out⟩

/-- The bytes of a draw as they come in. -/
def CodeIn (w : World) (a : Option Addr) (len : Nat) : Prop := ∀ j, j < len → ∃ b o z, a = some ⟨b, o, none⟩ ∧ b < w.heap.size ∧ 0 ≤ z ∧ z ≤ 255 ∧ w.cell? ⟨b, o + j, none⟩ = some (.int .u8 z)
theorem CodeIn.below {w w' : World} {a : Option Addr} {len : Nat} (h : CodeIn w a len) (k : Below w.heap.size w w') : CodeIn w' a len := fun j hj => by
  obtain ⟨b, o, z, h1, h2, h3, h4, h5⟩ := h j hj
  exact ⟨b, o, z, h1, Nat.lt_of_lt_of_le h2 k.size, h3, h4, (k.cell (p := ⟨b, o + j, none⟩) h2).trans h5⟩

theorem cur_new {w : World} {a : Option Addr} {len : Nat} (h : CodeIn w a len) (_k : Nat) (x : Int) (cap : Nat) : Cur (w.alloc (.cells #[.slice a len cap, .int .i64 0, .int .i64 x] 57)) w.heap.size a len cap := by
  refine ⟨⟨0, x, Nat.zero_le _, heap_alloc_new w _⟩, fun j hj => ?_⟩
  obtain ⟨b, o, z, h1, h2, h3, h4, h5⟩ := h j hj
  exact ⟨b, o, z, h1, by omega, by simp; omega, h3, h4, (World.cell?_alloc_lt _ _ _ h2).trans h5⟩

set_option maxHeartbeats 400000 in
theorem l01New_any (a : Option Addr) (len cap : Nat) (w : World) (hl : len ≤ 1048576) (hc : CodeIn w a len) :
    Calls Tryd.prog 24 #[.slice a len cap] w fun e w' => ∃ c, e = .returned (.pointer (some ⟨c, 0, none⟩)) ∧ w.heap.size ≤ c ∧ Cur w' c a len cap ∧ Below w.heap.size w w' := by
  have HC := hideP hc
  clear hc
  go_enter Tryd.func24, Tryd.ntmps24
  go_wp2
  go_loop [3, 4] (fun h i => ∃ (k : Nat) (x : Int), k ≤ len ∧ i = .int .i64 k ∧ h = .int .i64 x) (fun _ i => len - (intOf i).toNat)
  case atStart => exact ⟨0, _, Nat.zero_le _, rfl, rfl⟩
  case round =>
    obtain ⟨k, x, hk, rfl, rfl⟩ := hrel
    by_cases hlt : k < len
    · by_cases h4 : decide ((k : Int) < 4000) = true
      · obtain ⟨b, o, z, rfl, hb, hz0, hz1, hcell⟩ := HC.out k hlt
        go_wp2
        go_round
        case rel => exact ⟨k + 1, _, by omega, by go_num, rfl⟩
        case measure => simp [intOf]; omega
      · have h4' : decide ((k : Int) < 4000) = false := by simpa using h4
        clear h4
        go_wp2
        go_ret
        exact ⟨w.heap.size, rfl, Nat.le_refl _, cur_new HC.out k x cap, (Below.refl _ _).alloc (Nat.le_refl _) _⟩
    · go_wp2
      go_ret
      exact ⟨w.heap.size, rfl, Nat.le_refl _, cur_new HC.out k x cap, (Below.refl _ _).alloc (Nat.le_refl _) _⟩
end Go.Proofs.YtjgiohhfhncepaaDoor
