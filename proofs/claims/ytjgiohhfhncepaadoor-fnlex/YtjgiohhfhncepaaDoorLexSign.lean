/- The contract of the program's firstSign: the longest sign that a text begins with. -/
import Derived.Test.YtjgiohhfhncepaaDoorLexFirst
import Derived.Laws.Rows
namespace Go.Proofs.YtjgiohhfhncepaaDoor
open Go.ChangeShapes Go.WideShapes Go.ChangeAt Go.RowKit

def signsA : List ByteArray := wd [61, 61] :: theSigns
def signsV : Array Value := (signsA.map Value.string).toArray
def lensV : Array Value := #[.int .i64 2, .int .i64 1]
/-- The sign that is found from the length number k on. -/
def signF (s : ByteArray) : Nat → ByteArray
  | 0 => if 2 ≤ s.size ∧ hasB signsA (s.extract 0 2) = true then s.extract 0 2 else if hasB signsA (s.extract 0 1) = true then s.extract 0 1 else ⟨#[]⟩
  | 1 => if hasB signsA (s.extract 0 1) = true then s.extract 0 1 else ⟨#[]⟩
  | _ => ⟨#[]⟩
theorem signF_0 (s : ByteArray) : signF s 0 = if 2 ≤ s.size ∧ hasB signsA (s.extract 0 2) = true then s.extract 0 2 else signF s 1 := rfl
theorem signF_1 (s : ByteArray) : signF s 1 = if hasB signsA (s.extract 0 1) = true then s.extract 0 1 else signF s 2 := rfl
theorem signF_short (s : ByteArray) (h : s.size < 2) : signF s 0 = signF s 1 := by rw [signF_0, if_neg (by omega)]
theorem bytes_eq {x y : ByteArray} (h : (x.toList == y.toList) = true) : x = y := by
  have := beq_iff_eq.1 h
  rw [Lib.toList_data, Lib.toList_data] at this
  exact ByteArray.ext (Array.ext' this)
theorem signF_hit0 (s : ByteArray) {x : ByteArray} (hx : s.extract 0 2 = x) (y : ByteArray) (he : (x.toList == y.toList) = true) (hh : hasB signsA x = true) (h2 : 2 ≤ s.size) : signF s 0 = y := by
  subst hx; rw [signF_0, if_pos ⟨h2, hh⟩]; exact bytes_eq he
theorem signF_hit1 (s : ByteArray) {x : ByteArray} (hx : s.extract 0 1 = x) (y : ByteArray) (he : (x.toList == y.toList) = true) (hh : hasB signsA x = true) (_h2 : 1 ≤ s.size) : signF s 1 = y := by
  subst hx; rw [signF_1, if_pos hh]; exact bytes_eq he
theorem signF_miss0 (s : ByteArray) {x : ByteArray} (hx : s.extract 0 2 = x) (hh : hasB signsA x = false) : signF s 0 = signF s 1 := by
  subst hx; rw [signF_0, if_neg (by rw [hh]; simp)]
theorem signF_miss1 (s : ByteArray) {x : ByteArray} (hx : s.extract 0 1 = x) (hh : hasB signsA x = false) : signF s 1 = signF s 2 := by
  subst hx; rw [signF_1, if_neg (by rw [hh]; simp)]
theorem beq_flip {a b : List UInt8} {c : Bool} (h : (a == b) = c) : (b == a) = c := by rw [beq_comm8]; exact h
theorem hasB_at {x y : ByteArray} {j : Nat} (h : hasB signsA x = hasB (signsA.drop j) x) (hj : j < 15) (hy : signsA[j]'hj = y) (he : (x.toList == y.toList) = true) : hasB signsA x = true := by
  rw [h]; exact hasB_drop_true (l := signsA) hj (by rw [hy]; exact beq_flip he)
theorem hasB_on {x y : ByteArray} {j : Nat} (h : hasB signsA x = hasB (signsA.drop j) x) (hj : j < 15) (hy : signsA[j]'hj = y) (he : (x.toList == y.toList) = false) : hasB signsA x = hasB (signsA.drop (j + 1)) x := by
  rw [h]; exact hasB_drop_false (l := signsA) hj (by rw [hy]; exact beq_flip he)
theorem idxS : ∀ (j : Nat) (hj : j < 15) (w : World), (Instr.index 68 (.agg signsV) (.int .i64 (j : Nat))).run Tryd.prog w = .ok (.string (signsA[j]'hj)) w
  | 0, _, _ => by kernel_rfl
  | 1, _, _ => by kernel_rfl
  | 2, _, _ => by kernel_rfl
  | 3, _, _ => by kernel_rfl
  | 4, _, _ => by kernel_rfl
  | 5, _, _ => by kernel_rfl
  | 6, _, _ => by kernel_rfl
  | 7, _, _ => by kernel_rfl
  | 8, _, _ => by kernel_rfl
  | 9, _, _ => by kernel_rfl
  | 10, _, _ => by kernel_rfl
  | 11, _, _ => by kernel_rfl
  | 12, _, _ => by kernel_rfl
  | 13, _, _ => by kernel_rfl
  | 14, _, _ => by kernel_rfl
theorem idxL0 (w : World) : (Instr.index 67 (.agg lensV) (.int .i64 0)).run Tryd.prog w = .ok (.int .i64 2) w := by kernel_rfl
theorem idxL1 (w : World) : (Instr.index 67 (.agg lensV) (.int .i64 1)).run Tryd.prog w = .ok (.int .i64 1) w := by kernel_rfl

set_option maxHeartbeats 1000000 in
theorem firstSign_any (s : ByteArray) (w : World) (fr1 fr2 : Nat × Nat) (t1 t2 : TypeId) (hs : s.size ≤ 3000) (h0 : 0 < s.size) (hg0 : w.heap[0]? = some (.cells lensV t1 fr1)) (hg1 : w.heap[1]? = some (.cells signsV t2 fr2)) :
    Calls Tryd.prog 49 #[.string s] w fun e w' => e = .returned (.string (signF s 0)) ∧ w' = w := by
  have hl0 := idxL0
  have hl1 := idxL1
  go_enter Tryd.func49, Tryd.ntmps49
  go_wp2
  go_step3
  go_wp2
  go_step3
  go_wp2_with (refine wpList_load_row rfl 67 _ rfl 0 rfl t1 lensV fr1 _ hg0 Tryd.underlying67 rfl (by kernel_rfl) ?_)
  go_loop [3, 9] (fun f o => ∃ k : Nat, k ≤ 2 ∧ o = .int .i64 k ∧ f = .string ⟨#[]⟩ ∧ Hid (signF s 0 = signF s k)) (fun _ o => 2 - (intOf o).toNat)
  case atStart => exact ⟨0, by omega, rfl, rfl, rfl⟩
  case round =>
    obtain ⟨k, hk, rfl, rfl, hd⟩ := hrel
    match k, hk with
    | 2, _ =>
      go_wp2
      go_ret
      exact ⟨ret_str (by rw [hd.out]; rfl), rfl⟩
    | 0, _ =>
      by_cases h2 : s.size < 2
      · go_wp2
        go_round
        case rel => exact ⟨1, by omega, rfl, rfl, signF_short s h2⟩
        case measure => simp [intOf]
      · have h2' : 2 ≤ s.size := by omega
        obtain ⟨x, hx⟩ : ∃ x, s.extract 0 2 = x := ⟨_, rfl⟩
        have HX := hideP hx
        have hi2 := idxS
        go_wp2_with (refine wpList_load_row rfl 68 _ rfl 1 rfl t2 signsV fr2 _ hg1 Tryd.underlying68 rfl (by kernel_rfl) ?_)
        clear hi2
        go_loop [3, 17] (fun f o => ∃ j : Nat, j ≤ 15 ∧ o = .int .i64 j ∧ f = .string ⟨#[]⟩ ∧ Hid (hasB signsA x = hasB (signsA.drop j) x)) (fun _ o => 15 - (intOf o).toNat)
        case atStart => exact ⟨0, by omega, rfl, rfl, rfl⟩
        case round =>
          obtain ⟨j, hj, rfl, rfl, hh⟩ := hrel
          by_cases hlt : j < 15
          · have hix := idxS j hlt
            obtain ⟨y, hy⟩ : ∃ y, signsA[j]'hlt = y := ⟨_, rfl⟩
            rw [hy] at hix
            have HY := hideP hy
            clear hy
            by_cases he : (x.toList == y.toList) = true
            · have HE : Hid (signF s 0 = y) := signF_hit0 s HX.out y (he) (hasB_at hh.out hlt HY.out he) (by omega)
              go_wp2
              try rw [Exit.noGoto_ret]
              go_ret
              exact ⟨ret_str HE.out.symm, rfl⟩
            · have he' : (x.toList == y.toList) = false := by simpa using he
              clear he
              go_wp2
              go_round
              case rel => exact ⟨j + 1, by omega, by go_num, rfl, hasB_on hh.out hlt HY.out he'⟩
              case measure => simp [intOf]; omega
          · have HE : Hid (signF s 0 = signF s 1) := signF_miss0 s HX.out (by rw [hh.out, List.drop_of_length_le (show signsA.length ≤ j by show 15 ≤ j; omega)]; rfl)
            go_wp2
            go_round
            case rel => exact ⟨1, by omega, rfl, rfl, HE.out⟩
            case measure => simp [intOf]
    | 1, _ =>
      obtain ⟨x, hx⟩ : ∃ x, s.extract 0 1 = x := ⟨_, rfl⟩
      have HX := hideP hx
      have hi2 := idxS
      go_wp2_with (refine wpList_load_row rfl 68 _ rfl 1 rfl t2 signsV fr2 _ hg1 Tryd.underlying68 rfl (by kernel_rfl) ?_)
      clear hi2
      go_loop [3, 17] (fun f o => ∃ j : Nat, j ≤ 15 ∧ o = .int .i64 j ∧ f = .string ⟨#[]⟩ ∧ Hid (hasB signsA x = hasB (signsA.drop j) x)) (fun _ o => 15 - (intOf o).toNat)
      case atStart => exact ⟨0, by omega, rfl, rfl, rfl⟩
      case round =>
        obtain ⟨j, hj, rfl, rfl, hh⟩ := hrel
        by_cases hlt : j < 15
        · have hix := idxS j hlt
          obtain ⟨y, hy⟩ : ∃ y, signsA[j]'hlt = y := ⟨_, rfl⟩
          rw [hy] at hix
          have HY := hideP hy
          clear hy
          by_cases he : (x.toList == y.toList) = true
          · have HE : Hid (signF s 1 = y) := signF_hit1 s HX.out y (he) (hasB_at hh.out hlt HY.out he) (by omega)
            go_wp2
            try rw [Exit.noGoto_ret]
            go_ret
            exact ⟨ret_str (by rw [hd.out, HE.out]), rfl⟩
          · have he' : (x.toList == y.toList) = false := by simpa using he
            clear he
            go_wp2
            go_round
            case rel => exact ⟨j + 1, by omega, by go_num, rfl, hasB_on hh.out hlt HY.out he'⟩
            case measure => simp [intOf]; omega
        · have HE : Hid (signF s 1 = signF s 2) := signF_miss1 s HX.out (by rw [hh.out, List.drop_of_length_le (show signsA.length ≤ j by show 15 ≤ j; omega)]; rfl)
          go_wp2
          go_round
          case rel => exact ⟨2, by omega, rfl, rfl, hd.out.trans HE.out⟩
          case measure => simp [intOf]
end Go.Proofs.YtjgiohhfhncepaaDoor
