/- The contract of impl.sameParts. -/
import Derived.Test.YtfoaplihindeaagEqFn2
namespace Go.Proofs.Ytfoaplihindeaag
open Go.ChangeShapes Go.WideShapes Go.ChangeAt Go.RowKit

theorem pts_but {w w' : World} {B g : Nat} {v : Value} {l : List Pt} (h : OwnPts w B v l) (hb : But g w w') (hne : v.ownBlock ≠ some g) : OwnPts w' B v l := by
  obtain ⟨g0, cap, hv, hl, h0 | ⟨g', cap', cur, hv', hB', hh, hr⟩⟩ := h
  · exact ⟨g0, cap, hv, hl, Or.inl h0⟩
  · refine ⟨g0, cap, hv, hl, Or.inr ⟨g', cap', cur, hv', hB', (hb.block g' (Array.getElem?_eq_some_iff.1 hh).1 ?_).trans hh, hr⟩⟩
    intro e; apply hne; rw [hv', e]; rfl
set_option maxHeartbeats 4000000 in
theorem sameParts_any (w : World) (Ka Kb ga gb : Nat) (va vb : Value) (ndsA : List Nd) (ptsB : List Pt) (LA LB : List Lab) (inn : Pt → List Pt)
    (hKa : Ka ≤ Kb) (hKb : Kb ≤ w.heap.size) (hA : OwnPts w Ka va (ndsA.map Nd.pt)) (hB : OwnPts w Kb vb ptsB) (ega : va.ownBlock = some ga) (egb : vb.ownBlock = some gb) (hg : ga ≠ gb)
    (okA : ∀ x ∈ ndsA, NdAll (NodeOk w Ka inn) x) (fA : F2 (LabIn w Ka) (ndsVisit ndsA) LA)
    (trB : ∀ w1, But ga w w1 → Below Ka w w1 → ∃ ndsB inn', ndsB.map Nd.pt = ptsB ∧ (∀ x ∈ ndsB, NdAll (NodeOk w1 Kb inn') x) ∧ F2 (LabIn w1 Kb) (ndsVisit ndsB) LB)
    (nA : LA.length ≤ 2097152) (nB : LB.length ≤ 2097152) :
    Calls Try.prog 35 #[va, vb] w fun e w' => e = .returned (.bool (allEq LA LB)) ∧ Below Ka w w' := by
  have hsA : ndsSz ndsA ≤ 2097152 := by rw [← ndsVisit_len, fA.len]; exact nA
  have C1 := hideP (partsWithin_any ndsA w Ka va inn hA (Nat.le_trans hKa hKb) okA hsA)
  obtain ⟨r, hr⟩ : ∃ r, allEq LA LB = r := ⟨_, rfl⟩
  have HR := hideP hr
  have C2 : Hid (∀ w1 v1, OwnPts w1 Ka v1 (ndsVisit ndsA) → Below Ka w w1 → But ga w w1 → (∀ b, v1.ownBlock = some b → w.heap.size ≤ b) → Calls Try.prog 49 #[vb] w1 fun e w' => ∃ v2 ptsV, e = .returned (.tuple #[v2, .bool true]) ∧ Hid (OwnPts w' Ka v1 (ndsVisit ndsA) ∧ OwnPts w' Kb v2 ptsV ∧ F2 (LabIn w' Kb) ptsV LB ∧ Below Ka w w' ∧ Kb ≤ w'.heap.size)) := fun w1 v1 o1 b1 but1 hlow => by
    obtain ⟨ndsB, inn', hpts, okB, fB⟩ := trB w1 but1 b1
    have hsB : ndsSz ndsB ≤ 2097152 := by rw [← ndsVisit_len, fB.len]; exact nB
    have hB1 : OwnPts w1 Kb vb (ndsB.map Nd.pt) := by rw [hpts]; exact pts_but hB but1 (by rw [egb]; intro e; exact hg (Option.some.inj e).symm)
    have hK1 : Kb ≤ w1.heap.size := Nat.le_trans hKb but1.size
    refine (partsWithin_any ndsB w1 Kb vb inn' hB1 hK1 okB hsB).mono ?_
    rintro e w2 ⟨v2, rfl, o2, bel2, but2, _⟩
    have hgb : gb < w.heap.size := hB.lt gb egb
    exact ⟨v2, ndsVisit ndsB, rfl, pts_but o1 (but2 gb egb) (fun e => by have := hlow gb e; omega), o2, fB.mono (fun p l h => h.on bel2), b1.trans (bel2.mono hKa), Nat.le_trans hK1 bel2.size⟩
  have FA := hideP fA
  have hlA : (ndsVisit ndsA).length ≤ 2097152 := by rw [fA.len]; exact nA
  have EGA := hideP ega
  clear hA hB okA fA trB hr ega egb hg nA nB hsA
  go_enter Try.func35, Try.ntmps35
  go_wp2_with fail
  refine C1.out.mono ?_
  rintro e1 w1 ⟨v1, rfl, o1, bel1, but1, low1⟩
  have C2' := hideP (C2.out w1 v1 o1 bel1 (but1 ga EGA.out) low1)
  clear o1 bel1 but1 low1 C1 C2
  go_wp2_with fail
  refine C2'.out.mono ?_
  rintro e2 w2 ⟨v2, ptsV, rfl, hH⟩
  have EF := equalFunc_any w2 Kb Ka Kb v1 v2 (ndsVisit ndsA) ptsV LA LB hH.out.2.2.2.2 hH.out.1 hH.out.2.1 (FA.out.mono fun p l h => ⟨Nat.lt_of_lt_of_le h.1 hKa, (h.on hH.out.2.2.2.1).2⟩) hH.out.2.2.1 hlA
  rw [HR.out] at EF
  have EFH := hideP EF
  clear EF C2'
  go_wp2_with fail
  refine EFH.out.mono ?_
  rintro e3 w3 ⟨rfl, bel3⟩
  have HB3 := hideP (hH.out.2.2.2.1.trans (bel3.mono (Nat.le_trans hKa hH.out.2.2.2.2)))
  clear bel3 EFH hH
  go_wp2
  go_ret
  exact ⟨by rw [HR.out]; rfl, HB3.out⟩
end Go.Proofs.Ytfoaplihindeaag
