/- The contract of the specification's EndText. -/
import Derived.Test.YtfoaplihindeaaiDoorEndPlain
import Derived.Test.YtfoaplihindeaaiDoorDec
import Derived.Test.YtfoaplihindeaaiDoorEnds
namespace Go.Proofs.YtfoaplihindeaaiDoor
open Go.ChangeShapes Go.WideShapes Go.ChangeAt Go.RowKit
theorem l01In_any (x a b : Int) (w : World) :
    Calls Tryd.prog 18 #[.int .i64 x, .int .i64 a, .int .i64 b] w fun e w' => e = .returned (.bool (inB x a b)) ∧ w' = w := by
  go_enter Tryd.func18, Tryd.ntmps18
  go_wp2
  all_goals go_ret
  all_goals exact ⟨ret_bool (by simp [inB]; omega), rfl⟩
def EnWf (e : En) : Prop := In64 e.code ∧ In64 e.val ∧ (∀ z ∈ e.out, In64 z) ∧ e.out.length ≤ 1048576
set_option maxHeartbeats 2000000 in
theorem spec_endText (e : En) (w : World) (B : Nat) (v : Array Value) (h : EnIs w B v e) (hw : EnWf e) :
    Calls Tryd.prog 6 #[.agg v] w fun en w' => en = .returned (.string ⟨(endL e.code e.val e.out).toArray⟩) ∧ Below w.heap.size w w' := by
  obtain ⟨a, cap, rfl, hz⟩ := h
  obtain ⟨code, val, out⟩ := e
  obtain ⟨h0, h1, h2, hl⟩ := hw
  simp only at h0 h1 h2 hl hz ⊢
  by_cases hc : 0 ≤ code ∧ code ≤ 3
  · have HB : Hid (inB code 0 3 = true) := by show inB _ _ _ = true; simp [inB, hc]
    have HZ := hideP hz
    have H2 := hideP h2
    have H1 := hideP h1
    have hit := itoa_len h1.1 h1.2
    clear hz h2 h1 h0
    obtain rfl | rfl | rfl | rfl : code = 0 ∨ code = 1 ∨ code = 2 ∨ code = 3 := by omega
    · clear hc
      have E : Hid (endL 0 val out = headL 0 val ++ numsL out) := by show endL _ _ _ = _; unfold endL; rw [if_pos (by omega)]
      go_enter Tryd.func6, Tryd.ntmps6
      go_wp2_with fail
      refine (l01In_any 0 0 3 _).mono ?_
      rintro e1 w1 ⟨rfl, rfl⟩
      rw [HB.out]
      clear HB
      go_wp2_with (go_at_call 19; refine (spec_dec val _ H1.out.1 H1.out.2).mono ?_; rintro e2 w2 ⟨rfl, rfl⟩)
      go_loop [3, 4] (fun o i => ∃ (k : Nat) (s : ByteArray), k ≤ out.length ∧ i = .int .i64 k ∧ o = .string s ∧ s.size ≤ 26 + 22 * k ∧ Hid (s.data.toList = headL 0 val ++ numsL (out.take k))) (fun _ i => out.length - (intOf i).toNat)
      case atStart =>
        have hd : [100, 111, 110, 101, 32] ++ Lib.itoa val = headL 0 val := by simp [headL]
        exact ⟨0, _, Nat.zero_le _, rfl, rfl, by simp [ba_size] <;> omega, by show _ = _; simp [numsL, ← hd]⟩
      case round =>
        obtain ⟨k, s, hk, rfl, rfl, hsz, hs⟩ := hrel
        by_cases hlt : k < out.length
        · obtain ⟨b, o, rfl, _, hb, p0⟩ := (HZ.out.stays (below2 w (.cells #[.int .i64 0, .int .i64 val, .slice a out.length cap] 27) (.cells #[.string ⟨#[100, 111, 110, 101]⟩, .string ⟨#[116, 114, 97, 112]⟩, .string ⟨#[102, 117, 101, 108]⟩, .string ⟨#[110, 111, 110, 101]⟩] 9))).get k hlt
          obtain ⟨z, hz⟩ : ∃ z, out[k] = z := ⟨_, rfl⟩
          have hb64 := H2.out _ (List.getElem_mem hlt)
          rw [hz] at p0 hb64
          have hzl := itoa_len hb64.1 hb64.2
          have n1 : ¬ 9223372036854775807 < s.size + 1 := by omega
          have n2 : ¬ 9223372036854775807 < s.size + 1 + (Lib.itoa z).length := by omega
          have HZk := hideP hz
          have H64 := hideP hb64
          clear hz hb64 hb
          go_wp2_with (go_at_call 19; refine (spec_dec z _ H64.out.1 H64.out.2).mono ?_; rintro e2 w2 ⟨rfl, rfl⟩)
          go_round
          case rel => exact ⟨k + 1, _, by omega, by go_num, rfl, by simp [ba_size]; omega, by show _ = _; rw [numsL_take out k hlt, HZk.out]; simp [hs.out]⟩
          case measure => simp [intOf]; omega
        · have hkn : k = out.length := by omega
          subst hkn
          go_wp2
          go_ret
          exact ⟨ret_str (mk_of (by rw [E.out, hs.out, List.take_length])), below2 w _ _⟩
    · clear hc
      have E : Hid (endL 1 val out = headL 1 val ++ numsL out) := by show endL _ _ _ = _; unfold endL; rw [if_pos (by omega)]
      go_enter Tryd.func6, Tryd.ntmps6
      go_wp2_with fail
      refine (l01In_any 1 0 3 _).mono ?_
      rintro e1 w1 ⟨rfl, rfl⟩
      rw [HB.out]
      clear HB
      go_wp2
      go_loop [3, 4] (fun o i => ∃ (k : Nat) (s : ByteArray), k ≤ out.length ∧ i = .int .i64 k ∧ o = .string s ∧ s.size ≤ 26 + 22 * k ∧ Hid (s.data.toList = headL 1 val ++ numsL (out.take k))) (fun _ i => out.length - (intOf i).toNat)
      case atStart =>
        have hd : [116, 114, 97, 112] = headL 1 val := by simp [headL]
        exact ⟨0, _, Nat.zero_le _, rfl, rfl, by simp [ba_size] <;> omega, by show _ = _; simp [numsL, ← hd]⟩
      case round =>
        obtain ⟨k, s, hk, rfl, rfl, hsz, hs⟩ := hrel
        by_cases hlt : k < out.length
        · obtain ⟨b, o, rfl, _, hb, p0⟩ := (HZ.out.stays (below2 w (.cells #[.int .i64 1, .int .i64 val, .slice a out.length cap] 27) (.cells #[.string ⟨#[100, 111, 110, 101]⟩, .string ⟨#[116, 114, 97, 112]⟩, .string ⟨#[102, 117, 101, 108]⟩, .string ⟨#[110, 111, 110, 101]⟩] 9))).get k hlt
          obtain ⟨z, hz⟩ : ∃ z, out[k] = z := ⟨_, rfl⟩
          have hb64 := H2.out _ (List.getElem_mem hlt)
          rw [hz] at p0 hb64
          have hzl := itoa_len hb64.1 hb64.2
          have n1 : ¬ 9223372036854775807 < s.size + 1 := by omega
          have n2 : ¬ 9223372036854775807 < s.size + 1 + (Lib.itoa z).length := by omega
          have HZk := hideP hz
          have H64 := hideP hb64
          clear hz hb64 hb
          go_wp2_with (go_at_call 19; refine (spec_dec z _ H64.out.1 H64.out.2).mono ?_; rintro e2 w2 ⟨rfl, rfl⟩)
          go_round
          case rel => exact ⟨k + 1, _, by omega, by go_num, rfl, by simp [ba_size]; omega, by show _ = _; rw [numsL_take out k hlt, HZk.out]; simp [hs.out]⟩
          case measure => simp [intOf]; omega
        · have hkn : k = out.length := by omega
          subst hkn
          go_wp2
          go_ret
          exact ⟨ret_str (mk_of (by rw [E.out, hs.out, List.take_length])), below2 w _ _⟩
    · clear hc
      have E : Hid (endL 2 val out = headL 2 val ++ numsL out) := by show endL _ _ _ = _; unfold endL; rw [if_pos (by omega)]
      go_enter Tryd.func6, Tryd.ntmps6
      go_wp2_with fail
      refine (l01In_any 2 0 3 _).mono ?_
      rintro e1 w1 ⟨rfl, rfl⟩
      rw [HB.out]
      clear HB
      go_wp2
      go_loop [3, 4] (fun o i => ∃ (k : Nat) (s : ByteArray), k ≤ out.length ∧ i = .int .i64 k ∧ o = .string s ∧ s.size ≤ 26 + 22 * k ∧ Hid (s.data.toList = headL 2 val ++ numsL (out.take k))) (fun _ i => out.length - (intOf i).toNat)
      case atStart =>
        have hd : [102, 117, 101, 108] = headL 2 val := by simp [headL]
        exact ⟨0, _, Nat.zero_le _, rfl, rfl, by simp [ba_size] <;> omega, by show _ = _; simp [numsL, ← hd]⟩
      case round =>
        obtain ⟨k, s, hk, rfl, rfl, hsz, hs⟩ := hrel
        by_cases hlt : k < out.length
        · obtain ⟨b, o, rfl, _, hb, p0⟩ := (HZ.out.stays (below2 w (.cells #[.int .i64 2, .int .i64 val, .slice a out.length cap] 27) (.cells #[.string ⟨#[100, 111, 110, 101]⟩, .string ⟨#[116, 114, 97, 112]⟩, .string ⟨#[102, 117, 101, 108]⟩, .string ⟨#[110, 111, 110, 101]⟩] 9))).get k hlt
          obtain ⟨z, hz⟩ : ∃ z, out[k] = z := ⟨_, rfl⟩
          have hb64 := H2.out _ (List.getElem_mem hlt)
          rw [hz] at p0 hb64
          have hzl := itoa_len hb64.1 hb64.2
          have n1 : ¬ 9223372036854775807 < s.size + 1 := by omega
          have n2 : ¬ 9223372036854775807 < s.size + 1 + (Lib.itoa z).length := by omega
          have HZk := hideP hz
          have H64 := hideP hb64
          clear hz hb64 hb
          go_wp2_with (go_at_call 19; refine (spec_dec z _ H64.out.1 H64.out.2).mono ?_; rintro e2 w2 ⟨rfl, rfl⟩)
          go_round
          case rel => exact ⟨k + 1, _, by omega, by go_num, rfl, by simp [ba_size]; omega, by show _ = _; rw [numsL_take out k hlt, HZk.out]; simp [hs.out]⟩
          case measure => simp [intOf]; omega
        · have hkn : k = out.length := by omega
          subst hkn
          go_wp2
          go_ret
          exact ⟨ret_str (mk_of (by rw [E.out, hs.out, List.take_length])), below2 w _ _⟩
    · clear hc
      have E : Hid (endL 3 val out = headL 3 val ++ numsL out) := by show endL _ _ _ = _; unfold endL; rw [if_pos (by omega)]
      go_enter Tryd.func6, Tryd.ntmps6
      go_wp2_with fail
      refine (l01In_any 3 0 3 _).mono ?_
      rintro e1 w1 ⟨rfl, rfl⟩
      rw [HB.out]
      clear HB
      go_wp2
      go_loop [3, 4] (fun o i => ∃ (k : Nat) (s : ByteArray), k ≤ out.length ∧ i = .int .i64 k ∧ o = .string s ∧ s.size ≤ 26 + 22 * k ∧ Hid (s.data.toList = headL 3 val ++ numsL (out.take k))) (fun _ i => out.length - (intOf i).toNat)
      case atStart =>
        have hd : [110, 111, 110, 101] = headL 3 val := by simp [headL]
        exact ⟨0, _, Nat.zero_le _, rfl, rfl, by simp [ba_size] <;> omega, by show _ = _; simp [numsL, ← hd]⟩
      case round =>
        obtain ⟨k, s, hk, rfl, rfl, hsz, hs⟩ := hrel
        by_cases hlt : k < out.length
        · obtain ⟨b, o, rfl, _, hb, p0⟩ := (HZ.out.stays (below2 w (.cells #[.int .i64 3, .int .i64 val, .slice a out.length cap] 27) (.cells #[.string ⟨#[100, 111, 110, 101]⟩, .string ⟨#[116, 114, 97, 112]⟩, .string ⟨#[102, 117, 101, 108]⟩, .string ⟨#[110, 111, 110, 101]⟩] 9))).get k hlt
          obtain ⟨z, hz⟩ : ∃ z, out[k] = z := ⟨_, rfl⟩
          have hb64 := H2.out _ (List.getElem_mem hlt)
          rw [hz] at p0 hb64
          have hzl := itoa_len hb64.1 hb64.2
          have n1 : ¬ 9223372036854775807 < s.size + 1 := by omega
          have n2 : ¬ 9223372036854775807 < s.size + 1 + (Lib.itoa z).length := by omega
          have HZk := hideP hz
          have H64 := hideP hb64
          clear hz hb64 hb
          go_wp2_with (go_at_call 19; refine (spec_dec z _ H64.out.1 H64.out.2).mono ?_; rintro e2 w2 ⟨rfl, rfl⟩)
          go_round
          case rel => exact ⟨k + 1, _, by omega, by go_num, rfl, by simp [ba_size]; omega, by show _ = _; rw [numsL_take out k hlt, HZk.out]; simp [hs.out]⟩
          case measure => simp [intOf]; omega
        · have hkn : k = out.length := by omega
          subst hkn
          go_wp2
          go_ret
          exact ⟨ret_str (mk_of (by rw [E.out, hs.out, List.take_length])), below2 w _ _⟩
  · have E : Hid (endL code val out = []) := by show endL _ _ _ = []; unfold endL; rw [if_neg hc]
    have HB : Hid (inB code 0 3 = false) := by show inB _ _ _ = false; simp [inB]; omega
    clear hz h2
    go_enter Tryd.func6, Tryd.ntmps6
    go_wp2_with fail
    refine (l01In_any code 0 3 _).mono ?_
    rintro e1 w1 ⟨rfl, rfl⟩
    rw [HB.out]
    go_wp2
    go_ret
    exact ⟨ret_str (by rw [E.out]), (Below.refl _ _).alloc (Nat.le_refl _) _⟩
end Go.Proofs.YtfoaplihindeaaiDoor
