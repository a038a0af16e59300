/- For every graph the law FnExactThreads returns true (and the graph reads as before); no condition. -/
import Derived.Test.YtobpcfelgobedabThreadsW
import Derived.Test.YtobpcfelgobedabOAll
import Derived.OpenShut
import Derived.ShutString
import Derived.Stop.Joined
import Derived.Carry
namespace Go.Proofs.Ytobpcfelgobedab
open Go.ChangeShapes Go.WideShapes Go.ChangeAt Go.RowKit
open Go.ChangeMaps (open_string shut_string)
namespace ThreadsLaw
theorem Ins_ty : InsTy Try.prog 3 9 87 :=
  ⟨⟨_, Try.underlying87, by rfl⟩, by kernel_rfl, Try.underlying3, by kernel_rfl, Try.underlying9, by kernel_rfl⟩
theorem Blk_ty : BlkTy Try.prog 3 9 87 49 51 :=
  ⟨⟨_, Try.underlying51, by rfl⟩, by kernel_rfl, Try.underlying3, by kernel_rfl, Ins_ty, Try.underlying49, by kernel_rfl⟩
theorem Gr_ty : GrTy Try.prog 3 22 9 87 49 51 23 25 :=
  ⟨⟨_, Try.underlying25, by rfl⟩, by kernel_rfl, Try.underlying3, by kernel_rfl, Try.underlying22, by kernel_rfl, Blk_ty, Try.underlying23, by kernel_rfl⟩
theorem own : ownKnob Try.prog.godebug = none := by kernel_rfl
theorem laidOut : laidOutB Try.prog = true := by kernel_rfl

set_option maxRecDepth 100000 in
theorem lifted (os : Os) (started : os.Started) (H : Type) (enc : TypeId × Value → H) :
    ReturnsInHanded {} Try.checked os 3 .any (Rows.fnExactThreadsSpec.pre6 enc Try.prog Try.f3 Rows.fnExactThreadsRow.domain false) (Rows.fnExactThreadsSpec.post enc Try.prog Try.f3 false true false false) := by
  refine returnsInHanded_of_change (C := Try.checked) own started (by kernel_rfl) Try.func3
    (ChangeSpec.witness6 (enc := enc) (C := Try.checked) false ⟨#[], #[.agg #[.slice none 0 0, .int .i64 0, .int .i64 0, .int .i64 0, .slice none 0 0]], []⟩ 8 (by kernel_rfl) (by kernel_rfl) (by kernel_rfl) (by kernel_rfl)) ?_
  intro W base args ds gs before hval0 hW hcnd _
  have hval : ∀ (j : Nat) t v, Try.f3.params[j]? = some t → args[j]? = some v → Value.okWide Try.prog W .any base t v := hval0
  have hW' := hW
  obtain ⟨p, q, hA0, hV, rfl, hfz, hnd⟩ := hW
  have hA : DataW.TrodAll enc Try.prog W 0 (fun _ => true) true Try.f3.params.toList args.toList ds p := hA0
  rw [Try.params3] at hA hval
  obtain ⟨v0, vs0, d0, ds0, p0, q0, hargs, rfl, rfl, h0, r0⟩ := trodAll_cons hA
  obtain ⟨rfl, rfl, rfl⟩ := trodAll_nil r0
  obtain rfl : args = #[v0] := by cases args; simp_all
  obtain ⟨rfl, rfl⟩ := trodVars_none hV
  have lt0 : ∀ x ∈ p0, x.block < W.heap.size := by obtain ⟨m, hm⟩ := h0; exact DataW.trod_lt m _ _ _ hm
  obtain ⟨c0, rfl, _⟩ := okWide_struct Try.underlying25 (hval 0 25 v0 rfl rfl)
  obtain ⟨x0, hx0⟩ : ∃ x, GrIs W 0 c0 x := by
    obtain ⟨m, hm⟩ := h0
    simpa [Value.cells] using open_Gr Gr_ty hm
  clear hA0 hval0
  refine (walk x0 c0 W hx0).mono fun e W' ⟨he, bel⟩ => ?_
  subst he
  exact ⟨_, rfl, _, _, _, [], _, [], hW', trodAll_mk1 (shut_bool Try.underlying4 _), (trodAll_cons_mk (Below.trod laidOut (by kernel_rfl) (of_decide_eq_true (by kernel_rfl)) h0 bel lt0) trodAll_mk0), rfl, bel.frame _, fun h => by cases h⟩

theorem over : Rows.fnExactThreadsRow.holds Try.pinned (OpenSpec.ofChange Rows.fnExactThreadsSpec) :=
  OpenClaim.holds_of_wide 3 Try.f3 rfl rfl rfl rfl rfl rfl rfl ⟨rfl, rfl, rfl, rfl, rfl⟩ rfl rfl rfl rfl rfl (by kernel_rfl) Try.func3 (by kernel_rfl)
    (of_decide_eq_true (by kernel_rfl)) (by unfold Func.isWrapper; first | (rw [if_pos (by decide +kernel)]; kernel_rfl) | (rw [if_neg (by decide +kernel)]; exact ⟨rfl, rfl⟩))
    (fun os started H enc _ => lifted os started H enc)
end ThreadsLaw

theorem fnExactThreads_holds : Rows.FnExactThreadsSaid := ThreadsLaw.over
#print axioms fnExactThreads_holds
end Go.Proofs.Ytobpcfelgobedab
