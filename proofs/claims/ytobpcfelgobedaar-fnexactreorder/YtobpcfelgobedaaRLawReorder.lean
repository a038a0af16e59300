/- For every graph and every list of numbers the law FnExactReorder returns true (and both read as before); no condition. -/
import Derived.Test.YtobpcfelgobedaaRReorderW
import Derived.Test.YtobpcfelgobedaaROpnI
import Derived.Test.YtobpcfelgobedaaROAll
import Derived.OpenShut
import Derived.ShutString
import Derived.Stop.Joined
import Derived.Carry
namespace Go.Proofs.YtobpcfelgobedaaR
open Go.ChangeShapes Go.WideShapes Go.ChangeAt Go.RowKit
open Go.ChangeMaps (open_string shut_string)
namespace ReorderLaw
theorem Ins_ty : InsTy Try.prog 3 9 96 :=
  ⟨⟨_, Try.underlying96, by rfl⟩, by kernel_rfl, Try.underlying3, by kernel_rfl, Try.underlying9, by kernel_rfl⟩
theorem Blk_ty : BlkTy Try.prog 3 9 96 62 64 :=
  ⟨⟨_, Try.underlying64, by rfl⟩, by kernel_rfl, Try.underlying3, by kernel_rfl, Ins_ty, Try.underlying62, by kernel_rfl⟩
theorem Gr_ty : GrTy Try.prog 3 22 9 96 62 64 23 25 :=
  ⟨⟨_, Try.underlying25, by rfl⟩, by kernel_rfl, Try.underlying3, by kernel_rfl, Try.underlying22, by kernel_rfl, Blk_ty, Try.underlying23, by kernel_rfl⟩
theorem own : ownKnob Try.prog.godebug = none := by kernel_rfl
theorem laidOut : laidOutB Try.prog = true := by kernel_rfl

set_option maxRecDepth 100000 in
theorem lifted (os : Os) (started : os.Started) (H : Type) (enc : TypeId × Value → H) :
    ReturnsInHanded {} Try.checked os 4 .any (Rows.fnExactReorderSpec.pre6 enc Try.prog Try.f4 Rows.fnExactReorderRow.domain false) (Rows.fnExactReorderSpec.post enc Try.prog Try.f4 false true false false) := by
  refine returnsInHanded_of_change (C := Try.checked) own started (by kernel_rfl) Try.func4
    (ChangeSpec.witness6 (enc := enc) (C := Try.checked) false ⟨#[], #[.agg #[.slice none 0 0, .int .i64 0, .int .i64 0, .int .i64 0, .slice none 0 0], .slice none 0 0], []⟩ 8 (by kernel_rfl) (by kernel_rfl) (by kernel_rfl) (by kernel_rfl)) ?_
  intro W base args ds gs before hval0 hW hcnd _
  have hval : ∀ (j : Nat) t v, Try.f4.params[j]? = some t → args[j]? = some v → Value.okWide Try.prog W .any base t v := hval0
  have hW' := hW
  obtain ⟨p, q, hA0, hV, rfl, hfz, hnd⟩ := hW
  have hA : DataW.TrodAll enc Try.prog W 0 (fun _ => true) true Try.f4.params.toList args.toList ds p := hA0
  rw [Try.params4] at hA hval
  obtain ⟨v0, vs0, d0, ds0, p0, q0, hargs, rfl, rfl, h0, r0⟩ := trodAll_cons hA
  obtain ⟨v1, vs1, d1, ds1, p1, q1, rfl, rfl, rfl, h1, r1⟩ := trodAll_cons r0
  obtain ⟨rfl, rfl, rfl⟩ := trodAll_nil r1
  obtain rfl : args = #[v0, v1] := by cases args; simp_all
  obtain ⟨rfl, rfl⟩ := trodVars_none hV
  have lt0 : ∀ x ∈ p0, x.block < W.heap.size := by obtain ⟨m, hm⟩ := h0; exact DataW.trod_lt m _ _ _ hm
  obtain ⟨c0, rfl, _⟩ := okWide_struct Try.underlying25 (hval 0 25 v0 rfl rfl)
  obtain ⟨x0, hx0⟩ : ∃ x, GrIs W 0 c0 x := by
    obtain ⟨m, hm⟩ := h0
    simpa [Value.cells] using open_Gr Gr_ty hm
  have lt1 : ∀ x ∈ p1, x.block < W.heap.size := by obtain ⟨m, hm⟩ := h1; exact DataW.trod_lt m _ _ _ hm
  obtain ⟨u1, k1, z1, e1, o1, b1⟩ : ∃ a cap zs, v1 = .slice a (List.length zs) cap ∧ IntsIs W 0 a zs ∧ ∀ x ∈ zs, I64 x := by
    obtain ⟨m, hm⟩ := h1
    obtain ⟨a, cap, zs, hc, hz, hb⟩ := open_numsI Try.underlying22 Try.underlying3 (by kernel_rfl) hm
    obtain ⟨a', l, c, rfl⟩ := okWide_slice Try.underlying22 (hval 1 22 v1 rfl rfl)
    simp [Value.cells] at hc
    exact ⟨a, cap, zs, by simp [hc], hz, hb⟩
  subst e1
  clear hA0 hval0
  refine (walk x0 c0 z1 u1 k1 W hx0 o1 b1).mono fun e W' ⟨he, bel⟩ => ?_
  subst he
  exact ⟨_, rfl, _, _, _, [], _, [], hW', trodAll_mk1 (shut_bool Try.underlying4 _), (trodAll_cons_mk (Below.trod laidOut (by kernel_rfl) (of_decide_eq_true (by kernel_rfl)) h0 bel lt0) (trodAll_cons_mk (Below.trod laidOut (by kernel_rfl) (of_decide_eq_true (by kernel_rfl)) h1 bel lt1) trodAll_mk0)), rfl, bel.frame _, fun h => by cases h⟩

theorem over : Rows.fnExactReorderRow.holds Try.pinned (OpenSpec.ofChange Rows.fnExactReorderSpec) :=
  OpenClaim.holds_of_wide 4 Try.f4 rfl rfl rfl rfl rfl rfl rfl ⟨rfl, rfl, rfl, rfl, rfl⟩ rfl rfl rfl rfl rfl (by kernel_rfl) Try.func4 (by kernel_rfl)
    (of_decide_eq_true (by kernel_rfl)) (by unfold Func.isWrapper; first | (rw [if_pos (by decide +kernel)]; kernel_rfl) | (rw [if_neg (by decide +kernel)]; exact ⟨rfl, rfl⟩))
    (fun os started H enc _ => lifted os started H enc)
end ReorderLaw

theorem fnExactReorder_holds : Rows.FnExactReorderSaid := ReorderLaw.over
#print axioms fnExactReorder_holds
end Go.Proofs.YtobpcfelgobedaaR
