/- The contract of byteReader.number. -/
import Derived.Test.YtehccknppnmbkaaDoorRdPQ
import Derived.Test.YtehccknppnmbkaaDoorInts
import Derived.WalkSpells
import Derived.WalkLawsBesides
import Derived.Deep.LoopGhost
namespace Go.Proofs.YtehccknppnmbkaaDoor
open Go.ChangeShapes Go.WideShapes Go.ChangeAt Go.RowKit
theorem rest_in {s : ByteArray} {i : Nat} (h : 8 * (i + 1) ≤ s.size) : restAt s i = s.extract (8 * i) s.size := if_pos (by omega)
theorem rest_size {s : ByteArray} {i : Nat} (h : 8 * (i + 1) ≤ s.size) : (restAt s i).size = s.size - 8 * i := by rw [rest_in h, ByteArray.size_extract]; omega
theorem rest_byte {s : ByteArray} {i k : Nat} (h : 8 * (i + 1) ≤ s.size) (hk : k < 8) (hr : k < (restAt s i).size) : ((restAt s i)[k]).toNat = byteN s (8 * i + k) := by
  rw [byteN_at (by omega : 8 * i + k < s.size)]
  congr 1
  have e := rest_in h
  generalize restAt s i = R at *
  subst e
  rw [ByteArray.getElem_extract]
theorem rest_next {s : ByteArray} {i : Nat} (h : 8 * (i + 1) ≤ s.size) : (restAt s i).extract 8 (restAt s i).size = restAt s (i + 1) := by
  rw [rest_size h, rest_in h, ByteArray.extract_extract]
  unfold restAt
  rw [if_pos h]
  congr 1 <;> omega
theorem rest_few {s : ByteArray} {i : Nat} (h : ¬ 8 * (i + 1) ≤ s.size) : (restAt s i).size < 8 := by
  unfold restAt
  split
  · rw [ByteArray.size_extract]; omega
  · decide
theorem rest_none {s : ByteArray} {i : Nat} (h : ¬ 8 * (i + 1) ≤ s.size) : restAt s (i + 1) = ⟨#[]⟩ := if_neg h
theorem box1 {w : World} {b : Nat} {x : Value} {t : TypeId} (h : w.heap[b]? = some (.cells #[x] t (0, 0))) (y : Value) : (w.setCell ⟨b, 0, none⟩ y).heap[b]? = some (.cells #[y] t (0, 0)) := by
  rw [heap_setCell_same w b 0 _ t y h]; rfl
set_option maxHeartbeats 4000000 in
theorem number_any (s : ByteArray) (i b : Nat) (w : World) (hb : w.heap[b]? = some (.cells #[.string (restAt s i)] 102 (0, 0))) :
    Calls Tryd.prog 56 #[.pointer (some ⟨b, 0, none⟩)] w fun e w' => e = .returned (.int .i64 (valI s i)) ∧ But b w w' ∧ w'.heap[b]? = some (.cells #[.string (restAt s (i + 1))] 102 (0, 0)) := by
  have BX := hideP hb
  have x0 := (cells_of hb).1 0
  have z0 := (cells_of hb).2 0
  simp at x0 z0
  by_cases h8 : 8 * (i + 1) ≤ s.size
  · have hz := rest_size h8
    have RB := hideP (fun k => @rest_byte s i k h8)
    have RN := hideP (rest_next h8)
    have HV : Hid (valI s i = wrap64 (accN s (8 * i) 8 : Nat)) := by show _ = _; unfold valI; rw [if_pos h8]; rfl
    obtain ⟨R, hR⟩ : ∃ R, restAt s i = R := ⟨_, rfl⟩
    obtain ⟨V, hV⟩ : ∃ V, valI s i = V := ⟨_, rfl⟩
    rw [hR] at BX x0 hz RB RN
    rw [hV] at HV ⊢
    clear hR hV hb
    have hr8 : 8 ≤ R.size := by omega
    clear hz
    go_enter Tryd.func56, Tryd.ntmps56
    go_wp2
    go_loopg [3, 14] 8 (fun gk x j wr => ∃ (k : Nat), gk + k = 8 ∧ j = .int .i64 k ∧ x = .int .u64 (accN s (8 * i) k : Nat) ∧ wr = w)
    case atStart => exact ⟨0, rfl, rfl, rfl, rfl⟩
    case round =>
      obtain ⟨k, hk, rfl, rfl, rfl⟩ := hrel
      by_cases hlt : k < 8
      · have hks : k < R.size := by omega
        have hU := accN_few s (8 * i) k hlt
        have OB : Hid (bits BinOp.or IntKind.u64 (((accN s (8 * i) k : Nat) : Int) * 256) (IntKind.u64.wrap (R[k].toNat : Int)) = ((accN s (8 * i) (k + 1) : Nat) : Int)) := by
          show _ = _
          rw [RB.out k hlt hks]
          have e1 : IntKind.u64.wrap (((accN s (8 * i) k : Nat) : Int) * 256) = ((accN s (8 * i) k : Nat) : Int) * 256 := by simp [IntKind.wrap, IntKind.bits, IntKind.signed]; omega
          have := or_byte hU (byteN_lt s (8 * i + k))
          rw [e1] at this
          exact this
        go_wp2
        go_roundg (8 - (k + 1))
        case rel => exact ⟨k + 1, by omega, by go_num, by rw [OB.out], rfl⟩
        case measure => omega
      · have hk8 : k = 8 := by omega
        subst hk8
        go_wp2
        go_ret
        exact ⟨by rw [HV.out]; rfl, (But.refl b _).set 0 _, by have := box1 BX.out (.string (R.extract 8 R.size)); rw [RN.out] at this ⊢; exact this⟩
  · have hz := rest_few h8
    have RN := hideP (rest_none h8)
    have HV : Hid (valI s i = 0) := if_neg h8
    obtain ⟨R, hR⟩ : ∃ R, restAt s i = R := ⟨_, rfl⟩
    obtain ⟨V, hV⟩ : ∃ V, valI s i = V := ⟨_, rfl⟩
    rw [hR] at BX x0 hz
    rw [hV] at HV ⊢
    clear hR hV hb
    go_enter Tryd.func56, Tryd.ntmps56
    go_wp2
    go_ret
    exact ⟨by rw [HV.out]; rfl, (But.refl b _).set 0 _, by rw [RN.out]; exact box1 BX.out _⟩
end Go.Proofs.YtehccknppnmbkaaDoor
