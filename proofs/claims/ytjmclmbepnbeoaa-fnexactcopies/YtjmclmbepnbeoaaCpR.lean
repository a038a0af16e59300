/- A block of the copy that spec.l04Copy has made is written in place: its code, its jump. -/
import Derived.Test.YtjmclmbepnbeoaaRowA
import Derived.Test.YtjmclmbepnbeoaaL04All
import Derived.Test.YtjmclmbepnbeoaaOwnA
namespace Go.Proofs.Ytjmclmbepnbeoaa
open Go.ChangeShapes Go.WideShapes Go.ChangeAt Go.RowKit
theorem OwnE.same {α : Type} {E : Elem α} {w : World} {B : Nat} {v : Value} {l : List α} (h : OwnE E w B v l) {j : Nat} {x' : α} (hj : j < l.length) (hx : E.cs x' = E.cs l[j]) : OwnE E w B v (l.set j x') := by
  obtain ⟨g, cap, hv, ho⟩ := h
  have e : (l.set j x').flatMap E.cs = l.flatMap E.cs := by
    rw [List.flatMap_def, List.flatMap_def, List.map_set, hx]
    congr 1
    have hj' : j < (l.map E.cs).length := by simpa using hj
    have : (l.map E.cs).set j ((l.map E.cs)[j]) = l.map E.cs := List.set_getElem_self hj'
    rw [List.getElem_map] at this
    exact this
  exact ⟨g, cap, by rw [List.length_set]; exact hv, by rw [e, List.length_set]; exact ho⟩
theorem RDis.set {sa : Option Addr} {ns : Nat} {rows : List BRow} (h : RDis sa ns rows) {j : Nat} (hj : j < rows.length) {x' : BRow} (h1 : x'.1 = rows[j].1) (h2 : (x'.2.2).code.length = (rows[j].2.2).code.length) : RDis sa ns (rows.set j x') := by
  have cs : ∀ i (hi : i < (rows.set j x').length), ∃ hl : i < rows.length, ((rows.set j x')[i]).1 = rows[i].1 ∧ (((rows.set j x')[i]).2.2).code.length = (rows[i].2.2).code.length := fun i hi => by
    have hl : i < rows.length := by simpa using hi
    refine ⟨hl, ?_⟩
    by_cases e : j = i
    · subst e
      rw [List.getElem_set_self]
      exact ⟨h1, h2⟩
    · rw [List.getElem_set_ne e]
      exact ⟨rfl, rfl⟩
  refine ⟨fun i k hi hk hne p1 p2 b o b' o' e1 e2 => ?_, fun i hi hn p1 b o b' o' e1 e2 => ?_⟩
  · obtain ⟨li, a1, a2⟩ := cs i hi
    obtain ⟨lk, c1, c2⟩ := cs k hk
    rw [a2] at p1
    rw [c2] at p2
    rw [a1] at e1
    rw [c1] at e2
    exact h.two i k li lk hne p1 p2 b o b' o' e1 e2
  · obtain ⟨li, a1, a2⟩ := cs i hi
    rw [a2] at p1
    rw [a1] at e2
    exact h.szs i li hn p1 b o b' o' e1 e2
/-- Its code is written in place. -/
theorem CpAt.recode {base : Nat} {x : Gr} {sa : Option Addr} {kS gq cq : Nat} {rows : List BRow} {W W' : World} (h : CpAt base x sa kS gq cq rows W) (d : RDis sa x.sizes.length rows) {j : Nat} (hj : j < x.blocks.length) (hjr : j < rows.length) {gc o : Nat} (hr : rows[j].1 = some ⟨gc, o, none⟩) {code' : List Ins} (hl : code'.length = (x.blocks[j]).code.length) (hp : 0 < code'.length) (hm : code'.length ≤ maxLen) (hw : ∀ z ∈ code', z.wf ∧ z.t.size ≤ maxLen) (hB : base ≤ gc) (hb : But gc W W') (hc : CodeF W' gc o code') :
    CpAt base { x with blocks := x.blocks.set j { x.blocks[j] with code := code' } } sa kS gq cq (rows.set j (rows[j].1, rows[j].2.1, { x.blocks[j] with code := code' })) W' ∧ RDis sa x.sizes.length (rows.set j (rows[j].1, rows[j].2.1, { x.blocks[j] with code := code' })) := by
  obtain ⟨h1, h2, _⟩ := h.code j hjr
  rw [getElem!_pos x.blocks j hj] at h1
  have hl2 : code'.length = (rows[j].2.2).code.length := by rw [h1]; exact hl
  have hq : gc ≠ gq := h.cone j hjr (by omega) gc o hr
  refine ⟨⟨?_, ?_, h.wf, h.szs.butne (fun h0 b o2 e => d.szs j hjr h0 (by omega) b o2 gc o e hr) hb, h.szne, fun i hi => ?_, fun i hi h0 => ?_⟩, d.set hjr rfl hl2⟩
  · have ho := h.own.butG hb (fun e => hq (by simpa [Value.ownBlock] using e.symm))
    have := ho.same (x' := (rows[j].1, rows[j].2.1, { x.blocks[j] with code := code' })) hjr (by simp only [BlE]; rw [hl2, ← h1])
    simp only [List.length_set]
    exact this
  · rw [List.length_set, List.length_set]; exact h.len
  · rw [List.length_set] at hi
    have hib : i < x.blocks.length := by rw [← h.len]; exact hi
    rw [getElem!_pos (x.blocks.set j _) i (by rw [List.length_set]; exact hib)]
    by_cases e : j = i
    · subst e
      rw [List.getElem_set_self, List.getElem_set_self]
      refine ⟨rfl, ?_, ?_⟩
      · rw [h1] at h2
        exact h2
      · rw [hr]
        exact hc.is hB hm hw
    · rw [List.getElem_set_ne e, List.getElem_set_ne e]
      obtain ⟨k1, k2, k3⟩ := h.code i hi
      rw [getElem!_pos x.blocks i hib] at k1
      exact ⟨k1, k2, k3.butne (fun h0 b o2 e2 => d.two i j hi hjr (fun e3 => e e3.symm) h0 (by omega) b o2 gc o e2 hr) hb⟩
  · rw [List.length_set] at hi
    by_cases e : j = i
    · subst e
      rw [List.getElem_set_self]
      intro b o2 e
      rw [hr] at e
      cases e
      exact hq
    · rw [List.getElem_set_ne e] at h0 ⊢
      exact h.cone i hi h0
/-- Its jump is written in place. -/
theorem CpAt.store {base : Nat} {x : Gr} {sa : Option Addr} {kS gq cq : Nat} {rows : List BRow} {W : World} (h : CpAt base x sa kS gq cq rows W) (d : RDis sa x.sizes.length rows) {j : Nat} (hj : j < x.blocks.length) (hjr : j < rows.length) {code : List Ins} {jump a t0 els : Int} (hcode : code = (x.blocks[j]).code) (hw : (⟨code, jump, a, t0, els⟩ : Blk).wf) :
    CpAt base { x with blocks := x.blocks.set j ⟨code, jump, a, t0, els⟩ } sa kS gq cq (rows.set j (rows[j].1, rows[j].2.1, ⟨code, jump, a, t0, els⟩)) (((((W.setCell ⟨gq, j * 5, none⟩ (.slice rows[j].1 code.length rows[j].2.1)).setCell ⟨gq, j * 5 + 1, none⟩ (.int .i64 jump)).setCell ⟨gq, j * 5 + 2, none⟩ (.int .i64 a)).setCell ⟨gq, j * 5 + 3, none⟩ (.int .i64 t0)).setCell ⟨gq, j * 5 + 4, none⟩ (.int .i64 els)) ∧ RDis sa x.sizes.length (rows.set j (rows[j].1, rows[j].2.1, ⟨code, jump, a, t0, els⟩)) := by
  obtain ⟨h1, h2, h3⟩ := h.code j hjr
  rw [getElem!_pos x.blocks j hj] at h1
  have hc1 : (rows[j].2.2).code = code := by rw [h1]; exact hcode.symm
  have hb : But gq W (((((W.setCell ⟨gq, j * 5, none⟩ (.slice rows[j].1 code.length rows[j].2.1)).setCell ⟨gq, j * 5 + 1, none⟩ (.int .i64 jump)).setCell ⟨gq, j * 5 + 2, none⟩ (.int .i64 a)).setCell ⟨gq, j * 5 + 3, none⟩ (.int .i64 t0)).setCell ⟨gq, j * 5 + 4, none⟩ (.int .i64 els)) := ((((But.refl gq W).set _ _).set _ _).set _ _).set _ _ |>.set _ _
  refine ⟨⟨?_, ?_, h.wf, h.szs.butne h.szne hb, h.szne, fun i hi => ?_, fun i hi h0 => ?_⟩, d.set hjr rfl (by rw [hc1])⟩
  · have s0 := OwnE.setR BlE_ok h.own hjr (r := 0) (by decide) (u := .slice rows[j].1 code.length rows[j].2.1) (x' := rows[j]) (by simp only [BlE]; rw [hc1]; rfl)
    have l0 : j < (rows.set j rows[j]).length := by rw [List.length_set]; exact hjr
    have s1 := OwnE.setR BlE_ok s0 l0 (r := 1) (by decide) (u := .int .i64 jump) (x' := (rows[j].1, rows[j].2.1, { rows[j].2.2 with jump := jump })) (by rw [List.getElem_set_self]; rfl)
    rw [List.set_set] at s1
    have l1 : j < (rows.set j (rows[j].1, rows[j].2.1, { rows[j].2.2 with jump := jump })).length := by rw [List.length_set]; exact hjr
    have s2 := OwnE.setR BlE_ok s1 l1 (r := 2) (by decide) (u := .int .i64 a) (x' := (rows[j].1, rows[j].2.1, { rows[j].2.2 with jump := jump, a := a })) (by rw [List.getElem_set_self]; rfl)
    rw [List.set_set] at s2
    have l2 : j < (rows.set j (rows[j].1, rows[j].2.1, { rows[j].2.2 with jump := jump, a := a })).length := by rw [List.length_set]; exact hjr
    have s3 := OwnE.setR BlE_ok s2 l2 (r := 3) (by decide) (u := .int .i64 t0) (x' := (rows[j].1, rows[j].2.1, ⟨(rows[j].2.2).code, jump, a, t0, (rows[j].2.2).els⟩)) (by rw [List.getElem_set_self]; rfl)
    rw [List.set_set] at s3
    have l3 : j < (rows.set j (rows[j].1, rows[j].2.1, ⟨(rows[j].2.2).code, jump, a, t0, (rows[j].2.2).els⟩)).length := by rw [List.length_set]; exact hjr
    have s4 := OwnE.setR BlE_ok s3 l3 (r := 4) (by decide) (u := .int .i64 els) (x' := (rows[j].1, rows[j].2.1, ⟨code, jump, a, t0, els⟩)) (by rw [List.getElem_set_self]; simp only [BlE]; rw [hc1]; rfl)
    rw [List.set_set] at s4
    simp only [List.length_set]
    exact s4
  · rw [List.length_set, List.length_set]; exact h.len
  · rw [List.length_set] at hi
    have hib : i < x.blocks.length := by rw [← h.len]; exact hi
    rw [getElem!_pos (x.blocks.set j _) i (by rw [List.length_set]; exact hib)]
    by_cases e : j = i
    · subst e
      rw [List.getElem_set_self, List.getElem_set_self]
      refine ⟨rfl, hw, ?_⟩
      have := h3.butne (h.cone j hjr) hb
      rw [hc1] at this
      exact this
    · rw [List.getElem_set_ne e, List.getElem_set_ne e]
      obtain ⟨k1, k2, k3⟩ := h.code i hi
      rw [getElem!_pos x.blocks i hib] at k1
      exact ⟨k1, k2, k3.butne (h.cone i hi) hb⟩
  · rw [List.length_set] at hi
    by_cases e : j = i
    · subst e
      rw [List.getElem_set_self] at h0 ⊢
      exact h.cone j hjr (by rw [hc1]; exact h0)
    · rw [List.getElem_set_ne e] at h0 ⊢
      exact h.cone i hi h0
end Go.Proofs.Ytjmclmbepnbeoaa
