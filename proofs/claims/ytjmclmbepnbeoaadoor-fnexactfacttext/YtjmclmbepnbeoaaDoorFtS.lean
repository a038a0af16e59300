/- Facts' text, as a list of bytes; the contract of spec.FactText. -/
import Derived.Test.YtjmclmbepnbeoaaDoorEndPlain
import Derived.Test.YtjmclmbepnbeoaaDoorDec
import Derived.Test.YtjmclmbepnbeoaaDoorFactD
import Derived.BigQuiet
import Derived.Deep.LoopGhost
import Derived.Deep.CutRange
import Derived.Deep.RegionWith
namespace Go.Proofs.YtjmclmbepnbeoaaDoor
open Go.ChangeShapes Go.WideShapes Go.ChangeAt Go.RowKit
def fcL (x : Fct) : List UInt8 := 115 :: (Lib.itoa x.slot ++ (61 :: Lib.itoa x.val))
/-- The text of the first k, a blank between two. -/
def fcUp (xs : List Fct) (k : Nat) : List UInt8 := Lib.join ((xs.take k).map fcL) [32]
def ftL (xs : List Fct) : List UInt8 := if xs = [] then [45] else fcUp xs xs.length
theorem join_snoc (l : List (List UInt8)) (y s : List UInt8) : Lib.join (l ++ [y]) s = Lib.join l s ++ ((if l = [] then [] else s) ++ y) := by
  cases l with
  | nil => simp [Lib.join]
  | cons a l =>
    rw [List.cons_append, Lib.join_cons, Lib.join_cons, if_neg (by simp)]
    simp [Lib.joinTail]
theorem fcUp_at {xs : List Fct} {k : Nat} (h : k < xs.length) : fcUp xs (k + 1) = fcUp xs k ++ ((if k = 0 then [] else [32]) ++ fcL xs[k]) := by
  unfold fcUp
  rw [List.take_succ_eq_append_getElem h, List.map_append, List.map_singleton, join_snoc]
  congr 2
  by_cases e : k = 0
  · subst e; simp
  · rw [if_neg e, if_neg (fun h2 => ?_)]
    have := congrArg List.length h2
    rw [List.length_map, List.length_take, List.length_nil] at this
    omega
theorem fcL_len {x : Fct} (h : x.wf) : (fcL x).length ≤ 44 := by
  have h1 := itoa_len h.1.1 h.1.2
  have h2 := itoa_len h.2.1 h.2.2
  simp [fcL]; omega
theorem fcUp_len {xs : List Fct} (h : ∀ x ∈ xs, x.wf) : ∀ k, k ≤ xs.length → (fcUp xs k).length ≤ 45 * k
  | 0, _ => by simp [fcUp, Lib.join]
  | k + 1, hk => by
    have h1 := fcUp_len h k (by omega)
    have h2 := fcL_len (h _ (List.getElem_mem (show k < xs.length by omega)))
    rw [fcUp_at (by omega), List.length_append, List.length_append]
    have h3 : (if k = 0 then [] else [32] : List UInt8).length ≤ 1 := by split <;> simp
    omega
theorem fct_wf {w : World} {B : Nat} {a : Option Addr} {xs : List Fct} (h : SlIs FctIs 2 w B a xs) : ∀ x ∈ xs, x.wf := fun x hx => by
  obtain ⟨i, hi, rfl⟩ := List.getElem_of_mem hx
  obtain ⟨_, _, _, _, _, _, _, _, ok⟩ := h.at i hi
  exact ok.2
set_option maxRecDepth 100000 in
set_option maxHeartbeats 8000000 in
theorem spec_factText (xs : List Fct) (w : World) (B : Nat) (a : Option Addr) (cap : Nat) (h : SlIs FctIs 2 w B a xs) (hl : xs.length ≤ 1048576) :
    Calls Tryd.prog 5 #[.slice a xs.length cap] w fun e w' => e = .returned (.string ⟨(ftL xs).toArray⟩) ∧ Below w.heap.size w w' := by
  have H := hideP h
  have HW := hideP (fct_wf h)
  have FL := hideP (fcUp_len (fct_wf h))
  obtain ⟨N, hN⟩ : ∃ N, xs.length = N := ⟨_, rfl⟩
  have HN := hideP hN
  rw [hN] at hl ⊢
  clear h hN
  go_enter Tryd.func5, Tryd.ntmps5
  go_wp2
  go_loopg [3, 4] N (fun gk o ix wr => ∃ (k : Nat) (s : ByteArray), gk + k = N ∧ ix = .int .i64 k ∧ o = .string s ∧ s.size ≤ 45 * k ∧ Hid (s.data.toList = fcUp xs k) ∧ Hid (Below w.heap.size w wr))
  case atStart => exact ⟨0, _, by simp, rfl, rfl, by simp [ba_size], by show _ = _; simp [fcUp, Lib.join], Below.refl _ _⟩
  case round =>
    obtain ⟨k, s, hk, rfl, rfl, hsz, hs, hbel⟩ := hrel
    by_cases hlt : k < N
    · have hkx : k < xs.length := by rw [HN.out]; exact hlt
      obtain ⟨b', o', sl, vl, rfl, _, _, he, k0, k1, hx⟩ := Fct_get (H.out.stays FctKeeps hbel.out) k hkx
      obtain ⟨_, i1, i2⟩ := hx
      have DS : Hid (∀ W, Calls Tryd.prog 9 #[.int .i64 sl] W fun e w' => e = .returned (.string ⟨(Lib.itoa sl).toArray⟩) ∧ w' = W) := fun W => spec_dec sl W i1.1 i1.2
      have DV : Hid (∀ W, Calls Tryd.prog 9 #[.int .i64 vl] W fun e w' => e = .returned (.string ⟨(Lib.itoa vl).toArray⟩) ∧ w' = W) := fun W => spec_dec vl W i2.1 i2.2
      have l1 := itoa_len i1.1 i1.2
      have l2 := itoa_len i2.1 i2.2
      obtain ⟨ts, hts⟩ : ∃ ts : ByteArray, ⟨(Lib.itoa sl).toArray⟩ = ts := ⟨_, rfl⟩
      obtain ⟨tv, htv⟩ : ∃ tv : ByteArray, ⟨(Lib.itoa vl).toArray⟩ = tv := ⟨_, rfl⟩
      have TS : Hid (ts.data.toList = Lib.itoa sl) := by show _ = _; rw [← hts]
      have TV : Hid (tv.data.toList = Lib.itoa vl) := by show _ = _; rw [← htv]
      have z1 : ts.size ≤ 21 := by rw [size_of TS.out]; exact l1
      have z2 : tv.size ≤ 21 := by rw [size_of TV.out]; exact l2
      rw [hts] at DS
      rw [htv] at DV
      have UP := hideP (fcUp_at hkx)
      rw [he] at UP
      have DR : Hid (∀ n, Below w.heap.size w (wr.drewN n)) := fun n => below_trans hbel.out ⟨rfl, rfl, rfl, Nat.le_refl _, fun _ _ => rfl⟩
      have ix1 : (k : Int) < (N : Int) := by omega
      clear he i1 i2 hts htv l1 l2 hbel
      by_cases hk0 : k = 0
      · subst hk0
        simp only [Nat.zero_mul, Nat.add_zero] at k0 k1
        have ix2 : (0 : Int) < (N : Int) := by omega
        have n1 : ¬ 9223372036854775807 < s.size + 1 := by omega
        have n2 : ¬ 9223372036854775807 < s.size + 1 + ts.size := by omega
        have n3 : ¬ 9223372036854775807 < s.size + 1 + ts.size + 1 := by omega
        have n4 : ¬ 9223372036854775807 < s.size + 1 + ts.size + 1 + tv.size := by omega
        go_upto_region 7 with fail
        go_quiet (first | (go_at_call_of 9 (Value.int .i64 sl); refine Calls.quiet_of_same (DS.out _)) | (go_at_call_of 9 (Value.int .i64 vl); refine Calls.quiet_of_same (DV.out _)))
        go_wp2
        go_roundg (N - 1)
        case rel => exact ⟨1, _, by omega, by go_num, rfl, by simp [ba_size]; omega, by show _ = _; rw [UP.out]; simp [hs.out, TS.out, TV.out, fcL], DR.out nq⟩
        case measure => omega
      · have hk1 : (0 : Int) < (k : Int) := by omega
        have n0 : ¬ 9223372036854775807 < s.size + 1 := by omega
        have n1 : ¬ 9223372036854775807 < s.size + 1 + 1 := by omega
        have n2 : ¬ 9223372036854775807 < s.size + 1 + 1 + ts.size := by omega
        have n3 : ¬ 9223372036854775807 < s.size + 1 + 1 + ts.size + 1 := by omega
        have n4 : ¬ 9223372036854775807 < s.size + 1 + 1 + ts.size + 1 + tv.size := by omega
        rw [if_neg hk0] at UP
        go_upto_region 7 with fail
        go_quiet (first | (go_at_call_of 9 (Value.int .i64 sl); refine Calls.quiet_of_same (DS.out _)) | (go_at_call_of 9 (Value.int .i64 vl); refine Calls.quiet_of_same (DV.out _)))
        go_wp2
        go_roundg (N - (k + 1))
        case rel => exact ⟨k + 1, _, by omega, by go_num, rfl, by simp [ba_size]; omega, by show _ = _; rw [UP.out]; simp [hs.out, TS.out, TV.out, fcL], DR.out nq⟩
        case measure => omega
    · have hkn : k = N := by omega
      subst hkn
      by_cases hz : k = 0
      · subst hz
        have E : Hid (ftL xs = [45]) := by show _ = _; unfold ftL; rw [if_pos (List.length_eq_zero_iff.1 HN.out)]
        go_wp2
        go_ret
        exact ⟨ret_str (by rw [E.out]), hbel.out⟩
      · have E : Hid (ftL xs = fcUp xs k) := by
          show _ = _
          unfold ftL
          rw [if_neg (fun e => hz (by rw [← HN.out, e]; rfl)), HN.out]
        have hzb : ((k : Int) == 0) = false := by simpa using hz
        go_wp2
        go_ret
        exact ⟨ret_str (mk_of (by rw [E.out, hs.out])), hbel.out⟩
end Go.Proofs.YtjmclmbepnbeoaaDoor
