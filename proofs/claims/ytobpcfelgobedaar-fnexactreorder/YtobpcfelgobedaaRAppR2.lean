/- 'append([]T{}, s...)' of a row of which nothing is known but its cells (s may be nil). -/
import Derived.Test.YtobpcfelgobedaaRCloneR
import Derived.Laws.OwnMore
namespace Go.Proofs.YtobpcfelgobedaaR
open Go.ChangeShapes Go.WideShapes Go.ChangeAt Go.RowKit
theorem run_app_none {P : Program} (w : World) (t ty e : TypeId) (i : TypeInfo) (ht : P.underlying t = some (.slice e)) (hi : P.info? e = some i) (g0 cap2 : Nat) :
    (Builtin.append_ #[t, t] ty #[.slice (some ⟨g0, 0, none⟩) 0 0, .slice none 0 cap2]).run P w = .ok (.slice (some ⟨g0, 0, none⟩) 0 0) w := by
  simp [Builtin.append_, run_underlying ht, sizeOf, typeInfo, hi, Builtin.lenOf, Builtin.firstCells, storeCells]
theorem list_appR2 {ops : Array Oper} {o : Oper} {a : Act} {Q : Exit → Act → World → Prop} {rest : List Oper} (w : World) (hgd : o.guard = none) (s y : Operand) (T ST : TypeId) (ho : o.op = .call { callee := .builtin .append, args := #[s, y], argTypes := #[ST, ST] })
    (sz bys : Nat) (z : Value) (hu : Try.prog.underlying ST = some (.slice T)) (hi : (Try.prog.info? T).map (fun i => (i.zero, i.size, i.bytes)) = some (some z, sz, bys)) (hz : z.cells.size = sz) (hp : 0 < sz) (hf : bys ≤ 1000)
    (B g0 : Nat) (v1 : Value) (hs : a.eval s = v1) (hv1 : v1 = .slice (some ⟨g0, 0, none⟩) 0 0) (hg0 : w.heap[g0]? = some (.cells #[] T (0, 0))) (hB0 : B ≤ g0) (a2 : Option Addr) (n cap2 : Nat) (hx : a.eval y = .slice a2 n cap2) (vs : Nat → Array Value) (Bx : Nat)
    (hr : RowAt w Bx a2 n sz vs) (h1 : ∀ i, i < n → ∀ u ∈ (vs i).toList, u.oneCell' = true) (hn : n ≤ 8000000) (hB : B ≤ w.heap.size)
    (h : ∀ v' w', RowOf w' B T sz v' n vs → w.grownBy w' (some g0) → wpList Try.prog ops Q rest (a.put o.dst v') w') :
    wpList Try.prog ops Q (o :: rest) a w := by
  cases a2 with
  | none =>
    have hn0 : n = 0 := by rcases hr with h0 | ⟨b, o, ha, _⟩; exact h0; cases ha
    subst hn0
    refine wpList_plain hgd fun K hK => ?_
    obtain ⟨i0, hi, _, _, _⟩ := info_parts hi
    have hrun := run_app_none (P := Try.prog) w ST o.type T i0 hu hi g0 cap2
    unfold Oper.wp execOp
    rw [hv1] at hs
    simp only [ho, resolve, invoke, builtin, Sem.run_bind, Sem.run_pure, Result.andThen_ok, List.map_toArray, List.map_cons, List.map_nil, hs, hx, hrun]
    exact hK _ _ (h _ _ ⟨_, _, rfl, Or.inl rfl⟩ (World.grownBy.refl _ _))
  | some ad =>
    refine list_appR w hgd s y T ST ho sz bys z hu hi hz hp hf B g0 v1 hs hv1 hg0 hB0 ad n cap2 hx vs (fun i hi => ?_) (fun i hi r hr' => ?_) h1 hn hB h
    · rcases hr with h0 | ⟨b, o, ha, _, _, _, hc⟩
      · omega
      · exact (hc i hi).1
    · rcases hr with h0 | ⟨b, o, ha, _, _, _, hc⟩
      · omega
      · cases ha
        rw [addr_add', ← Nat.add_assoc]; exact (hc i hi).2 r hr'
end Go.Proofs.YtobpcfelgobedaaR
