/- errors.As of the machine's own ending, at the dump's own numbers. -/
import Derived.Test.YtpkfbabgcinhhaaDoorRows
import Derived.Test.YtpkfbabgcinhhaaDoorCkA
import Derived.WalkKit
import Derived.Laws.Rows
import Derived.Laws.Tables
import Derived.LaidEql
import Derived.RowKitTokens
import Derived.Deep.RegionWith
namespace Go.Proofs.YtpkfbabgcinhhaaDoor
open Go.RowKit Go.Extern
/-- A type's own handle. -/
abbrev hT (t : TypeId) : Value := .pointer (some ⟨3, t, none⟩)
theorem as1 (a : Addr) (w : World) : (callFunc 72 #[.iface 113 (.pointer (some a))]).run Tryd.prog w = .ok (.value (.agg #[hT 113, .pointer (some ⟨w.heap.size, 0, none⟩), .int .u64 150])) (w.alloc (.cells #[.pointer (some a)] 113)) := by
  rw [@run_callFunc_extern Tryd.prog 72 _ (fun args => ReflectliteValue.unpack (args.getD 0 (.tuple #[]))) Tryd.func72 (by kernel_rfl) (by kernel_rfl) (by kernel_rfl) (by kernel_rfl)]
  kernel_rfl
theorem as2 (p : Addr) (w : World) : (callFunc 73 #[.agg #[hT 113, .pointer (some p), .int .u64 150]]).run Tryd.prog w = .ok (.value (.iface 100 (.agg #[hT 113]))) w := by
  rw [@run_callFunc_extern Tryd.prog 73 _ (ReflectliteValue.methodAny (ReflectliteValue.valueError "reflectlite.Value.Type" 0) fun t _ _ _ => ReflectliteType.toType t) Tryd.func73 (by kernel_rfl) (by kernel_rfl) (by kernel_rfl) (by kernel_rfl)]
  kernel_rfl
theorem as3 (t : TypeId) (w : World) : (Go.method 269 100 (.agg #[hT t]) "Kind").run Tryd.prog w = .ok (94, hT t) w := by kernel_rfl
theorem as4 (w : World) : (callFunc 94 #[hT 113]).run Tryd.prog w = .ok (.value (.int .u8 22)) w := by
  rw [@run_callFunc_extern Tryd.prog 94 _ (ReflectliteType.abiMethod fun t => do pure (.int .u8 (← Rtype.kind t))) Tryd.func94 (by kernel_rfl) (by kernel_rfl) (by kernel_rfl) (by kernel_rfl)]
  kernel_rfl
theorem as4b (w : World) : (callFunc 94 #[hT 111]).run Tryd.prog w = .ok (.value (.int .u8 25)) w := by
  rw [@run_callFunc_extern Tryd.prog 94 _ (ReflectliteType.abiMethod fun t => do pure (.int .u8 (← Rtype.kind t))) Tryd.func94 (by kernel_rfl) (by kernel_rfl) (by kernel_rfl) (by kernel_rfl)]
  kernel_rfl
theorem as5 (t : TypeId) (w : World) : (Go.method 269 100 (.agg #[hT t]) "Elem").run Tryd.prog w = .ok (100, .agg #[hT t]) w := by kernel_rfl
theorem as6 (w : World) : (callFunc 100 #[.agg #[hT 113]]).run Tryd.prog w = .ok (.value (.iface 100 (.agg #[hT 111]))) w := by
  rw [@run_callFunc_extern Tryd.prog 100 _ (ReflectliteType.method ReflectliteType.elem) Tryd.func100 (by kernel_rfl) (by kernel_rfl) (by kernel_rfl) (by kernel_rfl)]
  kernel_rfl
theorem as7 (t : TypeId) (w : World) : (Go.method 269 100 (.agg #[hT t]) "Implements").run Tryd.prog w = .ok (101, .agg #[hT t]) w := by kernel_rfl
theorem as8 (w : World) : (callFunc 101 #[.agg #[hT 111], .iface 100 (.agg #[hT 50])]).run Tryd.prog w = .ok (.value (.bool true)) w := by
  rw [@run_callFunc_extern Tryd.prog 101 _ (ReflectliteType.relation "Implements" ReflectliteType.implements_) Tryd.func101 (by kernel_rfl) (by kernel_rfl) (by kernel_rfl) (by kernel_rfl)]
  kernel_rfl
theorem as9 (v : Value) (w : World) : (callFunc 42 #[.iface 111 v]).run Tryd.prog w = .ok (.value (.iface 100 (.agg #[hT 111]))) w := by
  rw [@run_callFunc_extern Tryd.prog 42 _ ReflectliteType.typeOf Tryd.func42 (by kernel_rfl) (by kernel_rfl) (by kernel_rfl) (by kernel_rfl)]
  kernel_rfl
theorem as10 (t : TypeId) (w : World) : (Go.method 269 100 (.agg #[hT t]) "AssignableTo").run Tryd.prog w = .ok (98, .agg #[hT t]) w := by kernel_rfl
theorem as11 (w : World) : (callFunc 98 #[.agg #[hT 111], .iface 100 (.agg #[hT 111])]).run Tryd.prog w = .ok (.value (.bool true)) w := by
  rw [@run_callFunc_extern Tryd.prog 98 _ (ReflectliteType.relation "AssignableTo" ReflectliteType.assignableTo) Tryd.func98 (by kernel_rfl) (by kernel_rfl) (by kernel_rfl) (by kernel_rfl)]
  kernel_rfl
theorem as12 (c x : Int) (w : World) : (callFunc 72 #[.iface 111 (.agg #[.int .i64 c, .int .i64 x])]).run Tryd.prog w = .ok (.value (.agg #[hT 111, .pointer (some ⟨w.heap.size, 0, none⟩), .int .u64 153])) (w.alloc (.cells #[.int .i64 c, .int .i64 x] 111)) := by
  rw [@run_callFunc_extern Tryd.prog 72 _ (fun args => ReflectliteValue.unpack (args.getD 0 (.tuple #[]))) Tryd.func72 (by kernel_rfl) (by kernel_rfl) (by kernel_rfl) (by kernel_rfl)]
  kernel_rfl
theorem meth1 (z : Sem Value) (f : TypeId → Addr → Nat → Nat → Sem Value) (v : Value) (t : TypeId) (a : Addr) (fl : Nat) (w : World) (hp : (ReflectliteValue.parts v).run Tryd.prog w = .ok (some (t, a, fl)) w) :
    (ReflectliteValue.method z f #[v]).run Tryd.prog w = (f t a fl (fl % 32)).run Tryd.prog w := by
  have e : ReflectliteValue.method z f #[v] = (ReflectliteValue.parts v >>= fun x => match x with | none => z | some (t, a, fl) => f t a fl (fl % 32)) := rfl
  rw [e, Sem.run_bind, hp]
  simp
theorem as13 (p a : Addr) (w : World) (h : (loadVar 113 p).run Tryd.prog w = .ok (.pointer (some a)) w) : (callFunc 74 #[.agg #[hT 113, .pointer (some p), .int .u64 150]]).run Tryd.prog w = .ok (.value (.bool false)) w := by
  have hp : (ReflectliteValue.parts (.agg #[hT 113, .pointer (some p), .int .u64 150])).run Tryd.prog w = .ok (some (113, p, 150)) w := by kernel_rfl
  rw [@run_callFunc_extern Tryd.prog 74 _ (ReflectliteValue.method (ReflectliteValue.valueError "reflectlite.Value.IsNil" 0) ReflectliteValue.isNil) Tryd.func74 (by kernel_rfl) (by kernel_rfl) (by kernel_rfl) (by kernel_rfl)]
  rw [meth1 _ _ _ _ _ _ _ hp]
  have e : (150 % 32 : Nat) = 22 := rfl
  rw [e]
  simp [ReflectliteValue.isNil, h]
theorem as14 (p a : Addr) (w : World) (h : (loadVar 113 p).run Tryd.prog w = .ok (.pointer (some a)) w) : (callFunc 78 #[.agg #[hT 113, .pointer (some p), .int .u64 150]]).run Tryd.prog w = .ok (.value (.agg #[hT 111, .pointer (some a), .int .u64 409])) w := by
  have hp : (ReflectliteValue.parts (.agg #[hT 113, .pointer (some p), .int .u64 150])).run Tryd.prog w = .ok (some (113, p, 150)) w := by kernel_rfl
  have he : (Rtype.elem? 113).run Tryd.prog w = .ok (some 111) w := by kernel_rfl
  have hm : (ReflectliteValue.mk 111 a ReflectliteValue.flagAddr).run Tryd.prog w = .ok (.agg #[hT 111, .pointer (some a), .int .u64 409]) w := by kernel_rfl
  rw [@run_callFunc_extern Tryd.prog 78 _ (ReflectliteValue.method (ReflectliteValue.valueError "reflectlite.Value.Elem" 0) ReflectliteValue.elem) Tryd.func78 (by kernel_rfl) (by kernel_rfl) (by kernel_rfl) (by kernel_rfl)]
  rw [meth1 _ _ _ _ _ _ _ hp]
  have e : (150 % 32 : Nat) = 22 := rfl
  rw [e]
  simp [ReflectliteValue.elem, h, he, hm]
theorem as15 (a p : Addr) (c x : Int) (w w' : World) (h : (loadVar 111 p).run Tryd.prog w = .ok (.agg #[.int .i64 c, .int .i64 x]) w) (hs : (storeVar 111 a (.agg #[.int .i64 c, .int .i64 x])).run Tryd.prog w = .ok () w') : (callFunc 79 #[.agg #[hT 111, .pointer (some a), .int .u64 409], .agg #[hT 111, .pointer (some p), .int .u64 153]]).run Tryd.prog w = .ok (.value (.tuple #[])) w' := by
  have hp : (ReflectliteValue.parts (.agg #[hT 111, .pointer (some a), .int .u64 409])).run Tryd.prog w = .ok (some (111, a, 409)) w := by kernel_rfl
  have hq : (ReflectliteValue.parts (.agg #[hT 111, .pointer (some p), .int .u64 153])).run Tryd.prog w = .ok (some (111, p, 153)) w := by kernel_rfl
  have hd : (Rtype.directlyAssignable 111 111).run Tryd.prog w = .ok true w := by kernel_rfl
  rw [@run_callFunc_extern Tryd.prog 79 _ ReflectliteValue.set Tryd.func79 (by kernel_rfl) (by kernel_rfl) (by kernel_rfl) (by kernel_rfl)]
  have e : (ReflectliteValue.set #[.agg #[hT 111, .pointer (some a), .int .u64 409], .agg #[hT 111, .pointer (some p), .int .u64 153]]).run Tryd.prog w = .ok (.tuple #[]) w' := by
    refine Eq.trans (congrArg (fun m => Sem.run Tryd.prog m w) (show ReflectliteValue.set #[.agg #[hT 111, .pointer (some a), .int .u64 409], .agg #[hT 111, .pointer (some p), .int .u64 153]] = (ReflectliteValue.parts (.agg #[hT 111, .pointer (some a), .int .u64 409]) >>= fun r1 => ReflectliteValue.parts (.agg #[hT 111, .pointer (some p), .int .u64 153]) >>= fun r2 => _) from rfl)) ?_
    simp only [Sem.run_bind, hp, hq, Result.andThen_ok]
    simp [Sem.run_bind, h, hd, hs, ReflectliteValue.flagAddr]
  rw [e]; rfl
end Go.Proofs.YtpkfbabgcinhhaaDoor
