/- The contracts of impl.placesOf and impl.hasBlock; step for any step that is right. -/
import Derived.Test.YtgiboadcfnfooabLedSt
import Derived.Test.YtgiboadcfnfooabOwnPl
import Derived.Test.YtgiboadcfnfooabJumpOkI
namespace Go.Proofs.Ytgiboadcfnfooab
open Go.ChangeShapes Go.WideShapes Go.ChangeAt Go.RowKit
theorem step_any (w : World) (L S : Nat) (l : Led) (x : Ins) (R : Int) (h : LedIs w L S l) (hn : l.slots.length + l.fresh ≤ 1000000) (hx : insOk R (l.slots.length : Nat) x = true) :
    Calls Try.prog 51 #[.pointer (some ⟨L, 0, none⟩), .agg (insV x)] w fun e w' => e = .returned (.tuple #[]) ∧ But2 L S w w' ∧ LedIs w' L S (stepP l x) := by
  have hs := insOk_slots hx
  obtain ⟨op, d, a, b, c, n, t⟩ := x
  simp only at hs
  rcases hs with ⟨rfl, hd⟩ | ⟨rfl, hd, ha⟩ | ⟨rfl, hd, ha, hb⟩ | ⟨rfl, hd, _⟩ | ⟨rfl, _⟩ | ⟨rfl, hd⟩ | rfl
  · obtain ⟨nd, rfl, hnd⟩ := vOk_nat hd
    exact step_const w L S l nd a b c n t h hnd
  · obtain ⟨nd, rfl, hnd⟩ := vOk_nat hd
    obtain ⟨na, rfl, hna⟩ := vOk_nat ha
    have := step_move w L S l nd na b c n t h hnd hna
    simpa [stepP, insV, Led.get_at hna] using this
  · obtain ⟨nd, rfl, hnd⟩ := vOk_nat hd
    obtain ⟨na, rfl, hna⟩ := vOk_nat ha
    obtain ⟨nb, rfl, hnb⟩ := vOk_nat hb
    have := step_bin w L S l nd na nb c n t h hn hnd hna hnb
    simpa [stepP, insV, Led.get_at hna, Led.get_at hnb] using this
  · obtain ⟨nd, rfl, hnd⟩ := vOk_nat hd
    have := step_load w L S l nd a b c n t h hn hnd
    simpa [stepP, insV, Led.putO] using this
  · have := step_none w L S l 4 d a b c n t h (Or.inl rfl)
    simpa [stepP, insV] using this
  · obtain ⟨nd, rfl, hnd⟩ := vOk_nat hd
    have := step_get w L S l nd a b c n t h hn hnd
    simpa [stepP, insV, Led.putO] using this
  · have := step_none w L S l 6 d a b c n t h (Or.inr rfl)
    simpa [stepP, insV] using this
theorem But2.on {a b : Nat} {w w1 w2 : World} (h : But2 a b w w1) (k : Below w1.heap.size w1 w2) : But2 a b w w2 := h.trans (But2.ofB k)
/-- All steps are right, of so many regions and slots. -/
def CodeOk (R : Int) (V : Nat) (code : List Ins) : Prop := code.length ≤ 1000 ∧ V ≤ 1000 ∧ ∀ x ∈ code, insOk R (V : Nat) x = true ∧ I64 x.n
/-- Between two rounds of placesOf. -/
structure PInv (w : World) (V : Nat) (code : List Ins) (L S : Nat) (wr : World) (o : Value) (j : Nat) : Prop where
  own : OwnE PlE wr w.heap.size o (placesUp V code j)
  led : LedIs wr L S (ledP V (code.take j))
  bel : Below w.heap.size w wr
  hL : w.heap.size ≤ L
  hS : w.heap.size ≤ S
  ne1 : o.ownBlock ≠ some L
  ne2 : o.ownBlock ≠ some S
set_option maxRecDepth 100000 in
set_option maxHeartbeats 4000000 in
theorem placesOf_any (code : List Ins) (V : Nat) (R : Int) (w : World) (B : Nat) (u : Option Addr) (cap : Nat) (hc : SlIs InsIs 7 w B u code) (ok : CodeOk R V code) :
    Calls Try.prog 39 #[.int .i64 (V : Int), .slice u code.length cap] w fun en w' => ∃ v', en = .returned v' ∧ OwnE PlE w' w.heap.size v' (placesUp V code code.length) ∧ Below w.heap.size w w' := by
  have hm := maxLen_lt
  have hl := hc.1
  obtain ⟨hlen, hV, hall⟩ := ok
  have HC := hideP hc
  have HALL := hideP hall
  clear hc hall
  have O0 := hideP (own_nil PlOk w w.heap.size rfl)
  have al := hideP ((Below.refl w.heap.size w).alloc (Nat.le_refl _) (.cells #[] 71))
  go_enter Try.func39, Try.ntmps39
  go_wp2_with fail
  refine (newLedger_any V _ hV).mono ?_
  rintro e1 w1 ⟨L, S, rfl, led, hL, hS, bel1⟩
  have IV : Hid (PInv w V code L S w1 (.slice (some ⟨w.heap.size, 0, none⟩) 0 0) 0) := by
    simp at hL hS
    exact ⟨O0.out.stays bel1, by simpa [ledP] using led, below_trans al.out bel1, by omega, by omega, by simp [Value.ownBlock]; omega, by simp [Value.ownBlock]; omega⟩
  clear O0 al led hL hS bel1
  go_wp2
  go_loopg [5, 14] code.length (fun gk o i wr => ∃ j : Nat, gk + j = code.length ∧ i = .int .i64 j ∧ Hid (PInv w V code L S wr o j))
  case atStart => exact ⟨0, rfl, rfl, IV.out⟩
  case round =>
    obtain ⟨j, hj, rfl, hv⟩ := hrel
    clear IV
    by_cases hlt : j < code.length
    · obtain ⟨b, o, op, d, a, bb, c, n, t, rfl, _, hb, hx, q0, q1, q2, q3, q4, q5, q6, _⟩ := Ins_get (HC.out.stays InsKeeps hv.out.bel) j hlt
      obtain ⟨gO, cO, rfl, _⟩ := id hv.out.own
      have HX : Hid (code[j] = ⟨op, d, a, bb, c, n, t⟩) := hx
      have hok := HALL.out _ (List.getElem_mem hlt)
      rw [hx] at hok
      have LK := ledP_ok (fun x hx => HALL.out x hx) j (by omega)
      have al := (Below.refl wr.heap.size wr).alloc (Nat.le_refl _) (.cells #[.int .i64 op, .int .i64 d, .int .i64 a, .int .i64 bb, .int .i64 c, .int .i64 n, .string t] 66)
      have LD := hideP (hv.out.led.stays al)
      have OA := hideP (hv.out.own.stays al)
      have BA := hideP (hv.out.bel.alloc hv.out.bel.size (.cells #[.int .i64 op, .int .i64 d, .int .i64 a, .int .i64 bb, .int .i64 c, .int .i64 n, .string t] 66))
      have Q := hideP (heap_alloc_new wr (.cells #[.int .i64 op, .int .i64 d, .int .i64 a, .int .i64 bb, .int .i64 c, .int .i64 n, .string t] 66))
      obtain ⟨ld, hld⟩ : ∃ ld, ledP V (code.take j) = ld := ⟨_, rfl⟩
      rw [hld] at LD LK
      have HLD := hideP hld
      have hok1 : Hid (insOk R (ld.slots.length : Nat) ⟨op, d, a, bb, c, n, t⟩ = true) := by show _ = _; rw [LK.1.1]; exact hok.1
      have hfr : Hid (ld.slots.length + ld.fresh ≤ 1000000) := by show _ ≤ _; rw [LK.1.1]; have := LK.2; omega
      clear hld LK hok al hx
      go_wp2_with fail
      refine (place_any _ L S ld ⟨op, d, a, bb, c, n, t⟩ R LD.out hok1.out).mono ?_
      rintro e2 w2 ⟨rfl, bel2⟩
      obtain ⟨p, hp⟩ : ∃ p, placeP ld ⟨op, d, a, bb, c, n, t⟩ = p := ⟨_, rfl⟩
      rw [hp]
      have UP : Hid (placesUp V code (j + 1) = placesUp V code j ++ [p]) := by show _ = _; rw [placesUp_at V hlt, HLD.out, HX.out, hp]
      clear hp
      obtain ⟨pr, pi, pj, po⟩ := p
      simp only [plaV]
      replace LD := hideP (LD.out.stays bel2)
      replace OA := hideP (OA.out.stays bel2)
      replace BA := hideP (below_trans BA.out bel2)
      replace Q := hideP (keepB Q.out bel2)
      clear bel2 q0 q1 q2 q3 q4 q5 q6
      have al := (Below.refl w2.heap.size w2).alloc (Nat.le_refl _) (.cells #[.int .i64 pr, .int .i64 pi, .int .i64 pj, .int .i64 po] 71)
      have CQ : Hid (∀ r, r < PlE.sz → (w2.alloc (.cells #[.int .i64 pr, .int .i64 pi, .int .i64 pj, .int .i64 po] 71)).cell? ⟨w2.heap.size, 0 + r, none⟩ = (PlE.cs ⟨pr, pi, pj, po⟩)[r]?) := fun r _ => by
        have := (cells_of (heap_alloc_new w2 (.cells #[.int .i64 pr, .int .i64 pi, .int .i64 pj, .int .i64 po] 71))).1 r
        rw [Nat.zero_add, this]; simp [PlE]
      replace LD := hideP (LD.out.stays al)
      replace OA := hideP (OA.out.stays al)
      replace BA := hideP (below_trans BA.out al)
      replace Q := hideP (keepB Q.out al)
      clear al
      have hpl := placesUp_len V code j (by omega)
      have hne1 := hideP hv.out.ne1
      have hne2 := hideP hv.out.ne2
      have hLS : Hid (w.heap.size ≤ L ∧ w.heap.size ≤ S) := ⟨hv.out.hL, hv.out.hS⟩
      go_upto_region 7 with (at_builtin; refine list_appE PlOk _ rfl _ _ rfl w.heap.size _ (placesUp V code j) ⟨pr, pi, pj, po⟩ w2.heap.size 0 1 rfl rfl OA.out CQ.out (by omega) BA.out.size ?_; intro v6 w6 o6 grow6 loc6)
      replace grow6 : World.grownBy _ w6 ((Value.slice (some ⟨gO, 0, none⟩) (placesUp V code j).length cO).ownBlock) := grow6
      replace loc6 : v6.ownBlock = ((Value.slice (some ⟨gO, 0, none⟩) (placesUp V code j).length cO).ownBlock) ∨ v6.ownBlock = some (w2.alloc (.cells #[.int .i64 pr, .int .i64 pi, .int .i64 pj, .int .i64 po] 71)).heap.size := loc6
      rw [← UP.out] at o6
      have O6 := hideP o6
      have B6 := hideP (BA.out.grown grow6 BA.out.size (fun b' hb' => (OA.out.low b' hb').1))
      have L6 := hideP (LD.out.kept grow6 hne1.out hne2.out)
      have Q6 : Hid (w6.heap[wr.heap.size]? = some (.cells #[.int .i64 op, .int .i64 d, .int .i64 a, .int .i64 bb, .int .i64 c, .int .i64 n, .string t] 66)) := by
        refine (grow6.block wr.heap.size (Array.getElem?_eq_some_iff.1 Q.out).1 (fun e => ?_)).trans Q.out
        have := (hv.out.own.low _ e.symm).2
        omega
      have ne6 : Hid (v6.ownBlock ≠ some L ∧ v6.ownBlock ≠ some S) := by
        rcases loc6 with e | e
        · rw [e]; exact ⟨hne1.out, hne2.out⟩
        · rw [e]
          have := LD.out.lt
          exact ⟨fun h => by injection h with h; omega, fun h => by injection h with h; omega⟩
      clear o6 grow6 loc6 hne1 hne2 LD OA BA Q CQ
      obtain ⟨g6, c6, rfl, _⟩ := id O6.out
      have p := (cells_of Q6.out).1
      have p0 := p 0
      have p1 := p 1
      have p2 := p 2
      have p3 := p 3
      have p4 := p 4
      have p5 := p 5
      have p6 := p 6
      simp at p0 p1 p2 p3 p4 p5 p6
      clear p
      go_wp2_with fail
      refine (step_any _ L S ld ⟨op, d, a, bb, c, n, t⟩ R L6.out hfr.out hok1.out).mono ?_
      rintro e7 w7 ⟨rfl, but7, led7⟩
      have IV : Hid (PInv w V code L S w7 (.slice (some ⟨g6, 0, none⟩) (placesUp V code (j + 1)).length c6) (j + 1)) := by
        refine ⟨O6.out.blk (fun k hk hlt => but7.block k hlt (fun e => ne6.out.1 (by rw [hk, e])) (fun e => ne6.out.2 (by rw [hk, e]))), ?_, B6.out.trans (but7.below hLS.out.1 hLS.out.2 B6.out.size), hLS.out.1, hLS.out.2, ne6.out.1, ne6.out.2⟩
        rw [ledP_take V code j hlt, HLD.out, HX.out]; exact led7
      clear but7 led7 p0 p1 p2 p3 p4 p5 p6 O6 B6 L6 Q6 ne6
      go_wp2
      go_roundg (code.length - (j + 1))
      case rel => exact ⟨j + 1, by omega, by go_num, IV.out⟩
      case measure => omega
    · have hjn : j = code.length := by omega
      subst hjn
      go_wp2
      go_ret
      exact ⟨_, rfl, hv.out.own, hv.out.bel⟩
end Go.Proofs.Ytgiboadcfnfooab
