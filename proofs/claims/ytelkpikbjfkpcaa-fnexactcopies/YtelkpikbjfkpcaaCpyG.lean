/- The program's Copies against the plain one. -/
import Derived.Test.YtelkpikbjfkpcaaCpyA
import Derived.Test.YtelkpikbjfkpcaaChAll
namespace Go.Proofs.Ytelkpikbjfkpcaa
open Go.ChangeShapes Go.WideShapes Go.ChangeAt Go.RowKit
theorem ofK_md (K : Kn) (y : Ins) : ofK (mdK K y) = madeX (ofK K) y := by
  unfold mdK madeX
  by_cases e : y.op = 4 ∨ y.op = 6 ∨ (y.op = 1 ∧ y.a = y.d)
  · rw [if_pos e, if_pos e]
  · rw [if_neg e, if_neg e]
    funext s
    unfold ofK
    by_cases es : s = y.d
    · subst es
      by_cases e1 : y.op = 1 <;> simp [e1]
    · simp only [if_neg es]
      cases eK : K s with
      | none => simp [es]
      | some u =>
        by_cases eu : u = y.d
        · simp [eu]
        · simp [eu]
theorem copUp_K (code : List Ins) : ∀ j, j ≤ code.length → (scanUp copF (fun s => s) code j).1 = ofK (scanUp copK s0 code j).1 ∧ (scanUp copF (fun s => s) code j).2 = (scanUp copK s0 code j).2
  | 0, _ => ⟨rfl, rfl⟩
  | j + 1, h => by
    obtain ⟨h1, h2⟩ := copUp_K code j (by omega)
    rw [scanUp_at (by omega), scanUp_at (by omega)]
    simp only [copF, copK, h1, h2, ofK_md]
    exact ⟨trivial, trivial⟩
theorem chB_cop (b : Blk) : chB copK s0 copJ b = copB b := by
  obtain ⟨h1, h2⟩ := copUp_K b.code b.code.length (Nat.le_refl _)
  unfold chB copB copJ copUp
  rw [h1, h2]
  by_cases e : b.jump = 0
  · rw [if_pos e, if_pos e]
  · rw [if_neg e, if_neg e]
theorem copK_ki {code : List Ins} (hw : ∀ x ∈ code, x.wf ∧ x.t.size ≤ maxLen) : ∀ j, (∀ s u, (scanUp copK s0 code j).1 s = some u → I64 s ∧ I64 u) ∧ ∀ y ∈ (scanUp copK s0 code j).2, y.wf ∧ y.t.size ≤ maxLen
  | 0 => ⟨fun _ _ e => (by cases e), fun y hy => (by simp [scanUp] at hy)⟩
  | j + 1 => by
    obtain ⟨h1, h2⟩ := copK_ki hw j
    by_cases h : j < code.length
    · rw [scanUp_at h]
      have hx := useX_wf h1 (hw _ (List.getElem_mem h))
      refine ⟨fun s u e => ?_, fun y hy => ?_⟩
      · simp only [copK] at e
        unfold mdK at e
        split at e
        · exact h1 s u e
        · simp only at e
          split at e
          · rename_i es
            split at e
            · cases e
              exact ⟨es ▸ hx.1.2.1, hx.1.2.2.1⟩
            · cases e
          · split at e
            · cases e
            · exact h1 s u e
      · rcases List.mem_append.1 hy with hy | hy
        · exact h2 y hy
        · rw [List.mem_singleton.1 hy]; exact hx
    · have e : scanUp copK s0 code (j + 1) = scanUp copK s0 code j := by
        show (match code[j]? with | some x => _ | none => _) = _
        rw [List.getElem?_eq_none (by omega)]
      rw [e]; exact ⟨h1, h2⟩
theorem copWn {w : World} {B : Nat} {v : Array Value} {x : Gr} (h : GrIs w B v x) : grOk x = true → ∀ b ∈ x.blocks, (chB copK s0 copJ b).wf ∧ ∀ z ∈ (chB copK s0 copJ b).code, z.wf ∧ z.t.size ≤ maxLen := fun _ b hb => by
  obtain ⟨k1, k2⟩ := gr_wf h b hb
  obtain ⟨h1, h2⟩ := copK_ki k2 b.code.length
  refine ⟨?_, h2⟩
  unfold chB copJ
  by_cases e : b.jump = 0
  · simp only [if_pos e]
    exact ⟨k1.1, k1.2.1, k1.2.2.1, k1.2.2.2⟩
  · simp only [if_neg e]
    exact ⟨k1.1, ofK_i64 h1 k1.2.1, k1.2.2.1, k1.2.2.2⟩
end Go.Proofs.Ytelkpikbjfkpcaa
