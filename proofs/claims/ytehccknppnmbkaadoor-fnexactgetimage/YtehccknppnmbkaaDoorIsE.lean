/- errors.Is of nil, and of the very error that is asked for, at the dump's own numbers. -/
import Derived.Test.YtehccknppnmbkaaDoorRows
import Derived.WalkKit
import Derived.LaidEql
import Derived.RowKitTokens
import Derived.Deep.RegionWith
namespace Go.Proofs.YtehccknppnmbkaaDoor
open Go.RowKit Go.Extern
theorem isNilE (w : World) (u : TypeId) (p : Value) :
    Calls Tryd.prog 28 #[.nilIface, .iface u p] w fun e w' => e = .returned (.bool false) ∧ w' = w := by
  have hn := run_eql_iface_nil_left (P := Tryd.prog) w u p Tryd.underlying53
  go_enter Tryd.func28, Tryd.ntmps28
  go_wp2
  go_ret
  exact ⟨rfl, rfl⟩
theorem tofE (v : Value) (w : World) : (Extern.ReflectliteType.typeOf #[.iface 152 v]).run Tryd.prog w = .ok (.iface 113 (.agg #[.pointer (some ⟨3, 152, none⟩)])) w := by kernel_rfl
theorem cmpE (w : World) : (callFunc 102 #[.agg #[.pointer (some ⟨3, 152, none⟩)]]).run Tryd.prog w = .ok (.value (.bool true)) w := by
  rw [@run_callFunc_extern Tryd.prog 102 _ (Extern.ReflectliteType.method fun t => do Go.Extern.Rtype.noPackHeld "Comparable" t; pure (.bool (← typeInfo t).comparable)) Tryd.func102 (by kernel_rfl) (by kernel_rfl) (by kernel_rfl) (by kernel_rfl)]
  kernel_rfl
theorem mthE (v : Value) (w : World) : (Go.method 284 113 v "Comparable").run Tryd.prog w = .ok (102, v) w := by kernel_rfl
theorem okE : (Tryd.prog.info? 152).map (·.comparable) = some true := by kernel_rfl
theorem sizE : (Tryd.prog.info? 172).map (·.size) = some 1 := by kernel_rfl
set_option maxHeartbeats 4000000 in
/-- errors.Is of an error made by errors.New and of that error. -/
theorem isSameE (a : Addr) (w : World) :
    Calls Tryd.prog 28 #[.iface 152 (.pointer (some a)), .iface 152 (.pointer (some a))] w fun e w' => e = .returned (.bool true) ∧ w' = w := by
  obtain ⟨i, hi, hcmp⟩ := Option.map_eq_some_iff.1 okE
  obtain ⟨j, hj, _⟩ := Option.map_eq_some_iff.1 sizE
  have hT := @run_callFunc_extern Tryd.prog 49 _ Extern.ReflectliteType.typeOf Tryd.func49 (by kernel_rfl) (by kernel_rfl) (by kernel_rfl) (by kernel_rfl)
  have tT := tofE
  have cT := cmpE
  have mR := mthE
  have heq := run_eql_iface_ptr_same (P := Tryd.prog) w a Tryd.underlying53 Tryd.underlying152 hi hcmp hj
  have IS : Hid (Calls Tryd.prog 50 #[.iface 152 (.pointer (some a)), .iface 152 (.pointer (some a)), .bool true] w fun e w' => e = .returned (.bool true) ∧ w' = w) := by
    show Calls _ _ _ _ _
    go_enter Tryd.func50, Tryd.ntmps50
    go_wp2
    refine wp_loop_rounds 1 ?_
    rw [rounds_succ]
    go_wp2
    go_ret
    exact ⟨rfl, rfl⟩
  go_enter Tryd.func28, Tryd.ntmps28
  go_wp2_with (go_at_call 50; refine IS.out.mono ?_; rintro e1 w1 ⟨rfl, rfl⟩)
  go_ret
  exact ⟨rfl, rfl⟩
end Go.Proofs.YtehccknppnmbkaaDoor
