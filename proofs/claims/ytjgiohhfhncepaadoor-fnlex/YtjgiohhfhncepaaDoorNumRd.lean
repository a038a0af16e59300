/- The contract of the program's ReadInt, that asks its ReadNum. -/
import Derived.Test.YtjgiohhfhncepaaDoorNumI
namespace Go.Proofs.YtjgiohhfhncepaaDoor
open Go.ChangeShapes Go.WideShapes Go.ChangeAt Go.RowKit
theorem readR_num (l : List UInt8) : readR l = if (numR l).2 = true ∧ -999999 ≤ (numR l).1 ∧ (numR l).1 ≤ 999999 then ((numR l).1, true) else (0, false) := by
  by_cases h : (numR l).2 = true ∧ -999999 ≤ (numR l).1 ∧ (numR l).1 ≤ 999999
  · rw [if_pos h]
    exact readR_yes ⟨h.2.1, h.2.2, (isN64_of_numR h.1).2.2⟩
  · rw [if_neg h]
    refine readR_no fun n hn => h ?_
    rw [numR_yes (n := n) ⟨by have := hn.1; omega, by have := hn.2.1; omega, hn.2.2⟩]
    exact ⟨rfl, hn.1, hn.2.1⟩
set_option maxHeartbeats 800000 in
theorem impl_read (s : ByteArray) (w : World) (hs : s.size ≤ 1048576) (htab : Lib.TabIs Tryd.prog w "internal/strconv.uint64pow10" .u64 Lib.pow10Tab)
    (tp1 : TypeId) (p1 : Value) (hv1 : w.var? Tryd.prog "strconv.ErrSyntax" = some #[.iface tp1 p1]) (tp2 : TypeId) (p2 : Value) (hv2 : w.var? Tryd.prog "strconv.ErrRange" = some #[.iface tp2 p2]) :
    Calls Tryd.prog 13 #[.string s] w fun e w' => e = .returned (.tuple #[.int .i64 (readR s.data.toList).1, .bool (readR s.data.toList).2]) ∧ Below w.heap.size w w' := by
  have NU := hideP (impl_num s w hs htab tp1 p1 hv1 tp2 p2 hv2)
  have HR := hideP (readR_num s.data.toList)
  clear hv1 hv2 htab
  have hb := numR_bd s.data.toList
  generalize numR s.data.toList = r at NU HR hb
  obtain ⟨n, b⟩ := r
  simp only at NU HR hb
  cases b with
  | false =>
    have HE : Hid (readR s.data.toList = (0, false)) := by show _ = _; rw [HR.out, if_neg (by rintro ⟨h, _⟩; cases h)]
    clear HR
    go_enter Tryd.func13, Tryd.ntmps13
    go_wp2_with fail
    refine NU.out.mono ?_
    rintro e w1 ⟨rfl, bel⟩
    go_wp2
    go_ret2
    exact ⟨ret_read HE.out, bel⟩
  | true =>
    by_cases hlo : n < -999999
    · have HE : Hid (readR s.data.toList = (0, false)) := by show _ = _; rw [HR.out, if_neg (by rintro ⟨_, h, _⟩; omega)]
      clear HR
      go_enter Tryd.func13, Tryd.ntmps13
      go_wp2_with fail
      refine NU.out.mono ?_
      rintro e w1 ⟨rfl, bel⟩
      go_wp2
      go_ret2
      exact ⟨ret_read HE.out, bel⟩
    · by_cases hhi : 999999 < n
      · have HE : Hid (readR s.data.toList = (0, false)) := by show _ = _; rw [HR.out, if_neg (by rintro ⟨_, _, h⟩; omega)]
        clear HR
        go_enter Tryd.func13, Tryd.ntmps13
        go_wp2_with fail
        refine NU.out.mono ?_
        rintro e w1 ⟨rfl, bel⟩
        go_wp2
        go_ret2
        exact ⟨ret_read HE.out, bel⟩
      · have HE : Hid (readR s.data.toList = (n, true)) := by show _ = _; rw [HR.out, if_pos ⟨rfl, by omega, by omega⟩]
        clear HR
        go_enter Tryd.func13, Tryd.ntmps13
        go_wp2_with fail
        refine NU.out.mono ?_
        rintro e w1 ⟨rfl, bel⟩
        go_wp2
        go_ret2
        exact ⟨ret_read HE.out, bel⟩
end Go.Proofs.YtjgiohhfhncepaaDoor
