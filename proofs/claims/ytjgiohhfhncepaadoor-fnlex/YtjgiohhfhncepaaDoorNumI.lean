/- The contract of the program's ReadNum, out of the library's Atoi. -/
import Derived.Test.YtjgiohhfhncepaaDoorNumS
import Derived.Test.YtjgiohhfhncepaaDoorImplDec
namespace Go.Proofs.YtjgiohhfhncepaaDoor
open Go.ChangeShapes Go.WideShapes Go.ChangeAt Go.RowKit

set_option maxHeartbeats 800000 in
theorem impl_num (s : ByteArray) (w : World) (hs : s.size ≤ 1048576) (htab : Lib.TabIs Tryd.prog w "internal/strconv.uint64pow10" .u64 Lib.pow10Tab)
    (tp1 : TypeId) (p1 : Value) (hv1 : w.var? Tryd.prog "strconv.ErrSyntax" = some #[.iface tp1 p1]) (tp2 : TypeId) (p2 : Value) (hv2 : w.var? Tryd.prog "strconv.ErrRange" = some #[.iface tp2 p2]) :
    Calls Tryd.prog 34 #[.string s] w fun e w' => e = .returned (.tuple #[.int .i64 (numR s.data.toList).1, .bool (numR s.data.toList).2]) ∧ Below w.heap.size w w' := by
  have HV1 := hideP hv1
  have HV2 := hideP hv2
  have HT := hideP htab
  clear hv1 hv2 htab
  cases ha : Lib.atoiAll s.data.toList with
  | «syntax» =>
    have HA := hideP ha
    clear ha
    go_enter Tryd.func34, Tryd.ntmps34
    go_wp2_with fail
    refine (Tryd.strconv_Atoi_syntax_var s (by omega) HA.out tp1 p1 _ HV1.out).mono ?_
    rintro e w' ⟨N, rfl, hN, hcell, bel⟩
    clear hcell
    go_wp2
    go_ret2
    exact ⟨ret_num (numR_no fun n hn => by have h1 := atoiAll_isN64 hn; rw [HA.out] at h1; cases h1), bel⟩
  | range =>
    have HA := hideP ha
    clear ha
    go_enter Tryd.func34, Tryd.ntmps34
    go_wp2_with fail
    refine (Tryd.strconv_Atoi_range_var s (by omega) HA.out tp2 p2 _ HV2.out).mono ?_
    rintro e w' ⟨N, rfl, hN, hcell, bel⟩
    clear hcell
    go_wp2
    go_ret2
    exact ⟨ret_num (numR_no fun n hn => by have h1 := atoiAll_isN64 hn; rw [HA.out] at h1; cases h1), bel⟩
  | ok v =>
    have hbd := Lib.atoiAll_bounds ha
    have HA := hideP ha
    clear ha
    by_cases he : (Lib.itoa v == s.toList) = true
    · have HE : Hid (Lib.itoa v = s.data.toList) := by show _ = _; rw [← Lib.toList_data]; exact beq_iff_eq.1 he
      go_enter Tryd.func34, Tryd.ntmps34
      go_wp2_with fail
      refine (Tryd.strconv_Atoi_ok s (by omega) v HA.out _).mono ?_
      rintro e w1 ⟨rfl, hw⟩
      have bel := below_atoi hw
      clear hw
      go_wp2_with fail
      refine (impl_dec v _ (by omega) (by omega) (tab_below HT.out bel)).mono ?_
      rintro e w2 ⟨rfl, bel2⟩
      go_wp2
      go_ret2
      exact ⟨ret_num (numR_yes ⟨hbd.1, hbd.2, HE.out⟩), below_trans bel bel2⟩
    · have he' : (Lib.itoa v == s.toList) = false := by simpa using he
      have HE : Hid (Lib.itoa v ≠ s.data.toList) := by show _ ≠ _; rw [← Lib.toList_data]; exact list_ne he'
      clear he
      go_enter Tryd.func34, Tryd.ntmps34
      go_wp2_with fail
      refine (Tryd.strconv_Atoi_ok s (by omega) v HA.out _).mono ?_
      rintro e w1 ⟨rfl, hw⟩
      have bel := below_atoi hw
      clear hw
      go_wp2_with fail
      refine (impl_dec v _ (by omega) (by omega) (tab_below HT.out bel)).mono ?_
      rintro e w2 ⟨rfl, bel2⟩
      go_wp2
      go_ret2
      exact ⟨ret_num (numR_no fun n hn => HE.out (by
        have h1 := atoiAll_isN64 hn
        rw [HA.out] at h1
        injection h1 with h1
        rw [h1]; exact hn.2.2)), below_trans bel bel2⟩
end Go.Proofs.YtjgiohhfhncepaaDoor
