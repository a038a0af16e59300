/- The labels of two lists of statements tell the lists; sameParts over two bodies. -/
import Derived.Test.YtfoaplihindeaagSamePs
namespace Go.Proofs.Ytfoaplihindeaag
open Go.ChangeShapes Go.WideShapes Go.ChangeAt Go.RowKit

theorem stsVis_snoc : ∀ (l : List St) (x : St), stsVis (l ++ [x]) = x.vis ++ stsVis l
  | [], x => by simp [stsVis]
  | y :: l, x => by simp [stsVis, stsVis_snoc l x]
theorem st_vis_cons (x : St) : ∃ a l, x.vis = a :: l := by obtain ⟨k, n, b, exps, xs, ys⟩ := x; exact ⟨.st k n b exps.length xs.length ys.length, stsVis ys ++ (stsVis xs ++ exsVis exps), by simp only [St.vis]⟩
theorem visS_eq : ∀ (n : Nat) (a b : List St), a.length = n → allEq (stsVis a) (stsVis b) = true → a = b := by
  intro n
  induction n with
  | zero =>
    intro a b hn h
    have : a = [] := List.length_eq_zero_iff.1 hn
    subst this
    rcases List.eq_nil_or_concat b with rfl | ⟨b0, y, rfl⟩
    · rfl
    · obtain ⟨l, m, e⟩ := st_vis_cons y
      rw [List.concat_eq_append, stsVis_snoc, e] at h
      simp [stsVis, allEq] at h
  | succ n ih =>
    intro a b hn h
    rcases List.eq_nil_or_concat a with rfl | ⟨a0, x, rfl⟩
    · simp at hn
    · rcases List.eq_nil_or_concat b with rfl | ⟨b0, y, rfl⟩
      · obtain ⟨l, m, e⟩ := st_vis_cons x
        rw [List.concat_eq_append, stsVis_snoc, e] at h
        simp [stsVis, allEq] at h
      · rw [List.concat_eq_append, List.concat_eq_append, stsVis_snoc, stsVis_snoc] at h
        obtain ⟨h1, h2⟩ := decS x y _ _ h
        rw [h1, ih a0 b0 (by simpa using hn) h2]
theorem visS_iff (a b : List St) : allEq (stsVis a) (stsVis b) = true ↔ a = b :=
  ⟨visS_eq _ a b rfl, fun h => by subst h; exact allEq_refl _⟩
theorem same_body (w X : World) (a b : List St) (B1 B2 : Nat) (a1 a2 : Option Addr) (Ka Kb : Nat) (va vb : Value) (r : Bool) (hr : r = true ↔ a = b)
    (hw : Below w.heap.size w X) (ha : StsIs w B1 a1 a) (hb : StsIs w B2 a2 b) (hB1 : 0 < B1) (hB2 : 0 < B2) (sa : stsSz a ≤ 1048576) (sb : stsSz b ≤ 1048576)
    (k3 : w.heap.size ≤ Ka) (k4 : Ka ≤ Kb) (k5 : Kb ≤ X.heap.size)
    (oA : OwnPts X Ka va (rowPts .st 6 a1 a.length)) (oB : OwnPts X Kb vb (rowPts .st 6 a2 b.length)) (hne : va.ownBlock ≠ vb.ownBlock) :
    Calls Try.prog 35 #[va, vb] X fun e w' => e = .returned (.bool r) ∧ Below Ka X w' := by
  obtain ⟨_, na, hpa, hfa⟩ := ndSts w X Ka hw k3 a B1 a1 ha hB1 sa
  obtain ⟨fa, ga'⟩ := visSt hfa
  obtain ⟨ga, ega⟩ := oA.some
  obtain ⟨gb, egb⟩ := oB.some
  have va1 := vis_le_sts a
  have vb1 := vis_le_sts b
  have e : allEq (stsVis a) (stsVis b) = r := by
    cases r with
    | true => rw [hr.1 rfl]; exact allEq_refl _
    | false => rw [← Bool.not_eq_true, visS_iff]; intro h; exact Bool.noConfusion (hr.2 h)
  rw [← e]
  refine sameParts_any X Ka Kb ga gb va vb na (rowPts .st 6 a2 b.length) (stsVis a) (stsVis b) (innOf X) k4 k5 (by rw [hpa]; exact oA) oB ega egb (fun h => hne (by rw [ega, egb, h])) ga' fa ?_ (by omega) (by omega)
  intro w1 but1 bel1
  have bw1 : Below w.heap.size w w1 := hw.trans (bel1.mono k3)
  obtain ⟨_, nb, hpb, hfb⟩ := ndSts w w1 Kb bw1 (Nat.le_trans k3 k4) b B2 a2 hb hB2 sb
  obtain ⟨fb, gb'⟩ := visSt hfb
  exact ⟨nb, innOf w1, hpb, gb', fb⟩
end Go.Proofs.Ytfoaplihindeaag
