/- The contract of impl.comeTo: the set of what one comes to. -/
import Derived.Test.YtfoelnblnfcaiaaAhG
import Derived.Test.YtfoelnblnfcaiaaWyL
import Derived.Lib.LazyBuf
namespace Go.Proofs.Ytfoelnblnfcaiaa
open Go.ChangeShapes Go.WideShapes Go.ChangeAt Go.RowKit Go.Maps
theorem OwnI.init {w : World} {B g n cap : Nat} {l : List Int} {a : Int} (h : OwnI w B (.slice (some ⟨g, 0, none⟩) n cap) (l ++ [a])) : OwnI w B (.slice (some ⟨g, 0, none⟩) l.length cap) l := by
  obtain ⟨g', cap', cur, hv, hB, hh, hc, hm, hs, hx⟩ := h.parts
  injection hv with e1 e2 e3
  injection e1 with e1
  injection e1 with e1
  subst e1 e3
  rw [List.length_append] at hc
  refine OwnI.of_parts hB hh (by omega) hm hs (fun j hj => ?_)
  have := hx j (by rw [List.length_append]; omega)
  rw [List.getElem_append_left hj] at this
  exact this
theorem OwnI.last {w : World} {B g n cap : Nat} {l : List Int} {a : Int} (h : OwnI w B (.slice (some ⟨g, 0, none⟩) n cap) (l ++ [a])) : w.cell? ⟨g, l.length, none⟩ = some (.int .i64 a) := by
  have := h.at l.length (by simp)
  rw [Nat.zero_add] at this
  simpa using this
theorem OwnI.capn {w : World} {B g n cap : Nat} {l : List Int} (h : OwnI w B (.slice (some ⟨g, 0, none⟩) n cap) l) : l.length ≤ cap := by
  obtain ⟨g', cap', cur, hv, hB, hh, hc, _⟩ := h.parts
  injection hv with _ _ e
  subst e
  exact hc
theorem OwnI.setNe {w : World} {B g n cap b c : Nat} {l m : List Int} (h : OwnI w B (.slice (some ⟨g, 0, none⟩) n cap) l) (hs : SetIs InK w b c m) : g ≠ b := fun e => by
  obtain ⟨g', _, cur, hv, _, hh, _⟩ := h.parts
  injection hv with e1
  injection e1 with e1
  injection e1 with e1
  subst e1 e
  obtain ⟨es, cl, h3⟩ := hs.isMap
  rw [hh] at h3
  cases h3
theorem run_appA {w : World} {B lo : Nat} {v1 u : Value} {l1 l2 : List Int} (ty : TypeId) (h1 : OwnI w B v1 l1) (h2 : NumN w lo u l2) (hn : l1.length + l2.length ≤ 8000000) (hB : B ≤ w.heap.size) :
    ∃ v' w', (Builtin.append_ #[22, 22] ty #[v1, u]).run Try.prog w = .ok v' w' ∧ OwnI w' B v' (l1 ++ l2) ∧ w.grownBy w' v1.ownBlock ∧ (v'.ownBlock = v1.ownBlock ∨ v'.ownBlock = some w.heap.size) := by
  rcases h2 with ⟨rfl, rfl⟩ | h2
  · obtain ⟨g, cap, cur, rfl, hg, hh, hc, hm, hs, hx⟩ := h1.parts
    obtain ⟨i0, hi, hz0, hz1, hz2⟩ := info_parts infoInt
    refine ⟨.slice (some ⟨g, 0, none⟩) l1.length cap, w, ?_, by simpa using h1, ⟨rfl, rfl, rfl, Nat.le_refl _, fun _ _ _ => rfl⟩, Or.inl rfl⟩
    simp [Builtin.append_, run_underlying Try.underlying22, sizeOf, typeInfo, hi, Builtin.lenOf, hc, Builtin.firstCells, storeCells]
  · obtain ⟨g, cap, rfl, _⟩ := id h2
    exact run_appI ty h1 h2.at hn hB
theorem list_appA {ops : Array Oper} {o : Oper} {a : Act} {Q : Exit → Act → World → Prop} {rest : List Oper} (w : World) (hgd : o.guard = none) (s x : Operand) (ho : o.op = .call { callee := .builtin .append, args := #[s, x], argTypes := #[22, 22] })
    (B lo : Nat) (v1 u : Value) (l1 l2 : List Int) (hs : a.eval s = v1) (hx : a.eval x = u) (h1 : OwnI w B v1 l1) (h2 : NumN w lo u l2) (hn : l1.length + l2.length ≤ 8000000) (hB : B ≤ w.heap.size)
    (h : ∀ v' w', OwnI w' B v' (l1 ++ l2) → w.grownBy w' v1.ownBlock → (v'.ownBlock = v1.ownBlock ∨ v'.ownBlock = some w.heap.size) → wpList Try.prog ops Q rest (a.put o.dst v') w') :
    wpList Try.prog ops Q (o :: rest) a w := by
  refine wpList_plain hgd fun K hK => ?_
  obtain ⟨v', w', hr, r1, r2, r3⟩ := run_appA o.type h1 h2 hn hB
  unfold Oper.wp execOp
  simp only [ho, resolve, invoke, builtin, Sem.run_bind, Sem.run_pure, Result.andThen_ok, List.map_toArray, List.map_cons, List.map_nil, hs, hx, hr]
  exact hK _ _ (h v' w' r1 r2 r3)
set_option maxRecDepth 100000 in
set_option maxHeartbeats 2000000 in
theorem cloneO (l : List Int) (w : World) (B : Nat) (v : Value) (h : OwnI w B v l) (hn : l.length ≤ 100000) :
    Calls Try.prog 55 #[v] w fun en w' => ∃ v', en = .returned v' ∧ OwnI w' w.heap.size v' l ∧ Below w.heap.size w w' := by
  obtain ⟨g, cap, rfl, _⟩ := id h
  obtain ⟨N, hN⟩ : ∃ N, l.length = N := ⟨_, rfl⟩
  have nl := fun W => Lib.run_eql_slice_nil (P := Try.prog) W 22 3 (some ⟨g, 0, none⟩) N cap 0 0 Try.underlying22
  have al := hideP ((Below.refl w.heap.size w).alloc (Nat.le_refl _) (.cells #[] 3))
  have O1 := hideP (own_lit w [] #[] w.heap.size 0 rfl rfl rfl (by simp))
  have H1 := hideP (h.stays al.out)
  have HN := hideP hN
  rw [hN] at H1 ⊢
  clear h hN
  go_enter Try.func55, Try.ntmps55
  go_wp2_with (at_builtin; refine list_appA _ rfl _ _ rfl w.heap.size B _ _ [] l rfl rfl O1.out (Or.inr H1.out) (by simp; omega) al.out.size ?_; intro v6 w6 o6 grow6 loc6)
  replace grow6 : World.grownBy _ w6 (Value.slice (some ⟨w.heap.size, 0, none⟩) 0 0).ownBlock := grow6
  have O6 : Hid (OwnI w6 w.heap.size v6 l) := by show OwnI _ _ _ _; simpa using o6
  have B6 := hideP (al.out.grown grow6 al.out.size (fun b' hb' => by have := O1.out.low b' hb'; omega))
  clear o6 grow6 loc6
  go_ret
  exact ⟨_, rfl, O6.out, B6.out⟩
set_option maxRecDepth 100000 in
set_option maxHeartbeats 4000000 in
theorem comeTo_any (n : Nat) (pre : Nat → List Int) (fs : List Int) (wo : Int) (w : World) (lo ga B : Nat) (av : Nat → Value) (v : Value) (h : AhAt lo n ga av pre w) (hv : OwnI w B v fs) (hin : ∀ i, i < n → ∀ y ∈ pre i, InR n y) (hfs : ∀ y ∈ fs, InR n y) (hn : n ≤ 6000) (hS : fs.length + restN pre [] n ≤ 100000) :
    Calls Try.prog 49 #[.slice (some ⟨ga, 0, none⟩) n n, .int .i64 wo, v] w fun e w' => SetMade w 6000 (Way pre fs wo) e w' := by
  have AL := hideP ((Below.refl w.heap.size w).alloc (Nat.le_refl _) (.map #[] 0))
  have S0 : Hid (SetIs InK (w.alloc (.map #[] 0)) w.heap.size 0 []) := SetIs.made InK_ok w
  have HA := hideP h
  have HI := hideP hin
  have hmm := @run_makeMap Try.prog
  have CL := hideP (cloneO fs (w.alloc (.map #[] 0)) B v (hv.stays AL.out) (by omega))
  have DS := hideP (dfs_start (pre := pre) (fs := fs) wo hfs)
  obtain ⟨S, hSS⟩ : ∃ S, fs.length + restN pre [] n = S := ⟨_, rfl⟩
  rw [hSS] at hS
  have HSS := hideP hSS
  clear h hv hin hfs hSS
  go_enter Try.func49, Try.ntmps49
  go_wp2_with fail
  refine CL.out.mono ?_
  rintro e1 w1 ⟨v1, rfl, o1, b1⟩
  have O1 : Hid (OwnI w1 w.heap.size v1 fs) := o1.mono AL.out.size
  have S1 := hideP (S0.out.stays b1)
  have B1 := hideP (below_trans AL.out b1)
  have hz : w.heap.size < w1.heap.size := S1.out.lt
  clear o1 b1 CL S0 AL hmm
  go_wp2
  go_loopg [8] S (fun gk o wr => ∃ (met work : List Int), gk = work.length + restN pre met n ∧ gk ≤ S ∧ Hid (Dfs pre n fs wo met work) ∧ Hid (OwnI wr w.heap.size o work) ∧ Hid (SetIs InK wr w.heap.size met.length met) ∧ Hid (Below w.heap.size w wr))
  case atStart => exact ⟨[], fs, HSS.out.symm, Nat.le_refl _, DS.out, O1.out, S1.out, B1.out⟩
  case round =>
    obtain ⟨met, work, hgk, hgS, hD, hO, hSt, hB⟩ := hrel
    clear O1 S1 B1
    obtain ⟨g5, c5, rfl, _⟩ := id hO.out
    rcases List.eq_nil_or_concat work with rfl | ⟨ws, a, rfl⟩
    · go_wp2
      go_ret
      have D := hD.out
      exact ⟨_, _, met, rfl, Nat.le_refl _, hSt.out, by have := D.few; unfold Few at this; omega, fun y => D.done y, hB.out⟩
    · rw [List.concat_eq_append] at hgk hD hO ⊢
      have hlc := hO.out.last
      have hcp := hO.out.capn
      have OI := hideP hO.out.init
      obtain ⟨M, hM⟩ : ∃ M, ws.length = M := ⟨_, rfl⟩
      have hwl : (ws ++ [a]).length = M + 1 := by simp [hM]
      have hMS : Hid (M + 1 + restN pre met n ≤ S) := by show _ ≤ _; omega
      have RI := hideP (hD.out.rin a (Or.inr (by simp)))
      have SKI := hideP (fun (h : a = wo ∨ a ∈ met) => hD.out.skip h)
      have TKE := hideP (fun (h1 : a ≠ wo) (h2 : ¬ a ∈ met) => hD.out.take h1 h2 (fun z hz => HI.out _ (by have := RI.out; unfold InR at this; omega) z hz))
      obtain ⟨k, rfl⟩ : ∃ k : Nat, a = (k : Int) := ⟨a.toNat, by have := RI.out.1; omega⟩
      have hkn : k < n := by have := RI.out.2; omega
      have I6 : Hid (I64 (k : Int)) := by show I64 _; unfold I64; omega
      have HM := hideP hM
      rw [hwl] at hcp hgk ⊢
      rw [hM] at hlc OI
      clear hwl hM hD hO
      have hM8 : M ≤ 100000 := by have := hMS.out; omega
      by_cases hw : (k : Int) = wo
      · have hwb : ((k : Int) == wo) = true := by simpa using hw
        have hwd : decide ((k : Int) = wo) = true := by simpa using hw
        have D2 := hideP (SKI.out (Or.inl hw))
        clear SKI TKE hw
        go_wp2
        go_roundg (M + restN pre met n)
        case rel => exact ⟨met, ws, by rw [HM.out], by have := hMS.out; omega, D2.out, OI.out, hSt.out, hB.out⟩
        case measure => omega
      · have hwb : ((k : Int) == wo) = false := by simpa using hw
        have hwd : decide ((k : Int) = wo) = false := by simpa using hw
        have HW := hideP hw
        have CH := hideP (hasI_any met (k : Int) wr w.heap.size met.length hSt.out I6.out)
        clear hw
        go_wp2_with fail
        refine CH.out.mono ?_
        rintro e2 w2 ⟨rfl, b2⟩
        have S2 := hideP (hSt.out.stays b2)
        have O2 := hideP (OI.out.stays b2)
        have B2 := hideP (below_trans hB.out b2)
        clear b2 CH hSt OI hB hlc
        by_cases hm : (k : Int) ∈ met
        · have D2 := hideP (SKI.out (Or.inr hm))
          have him : inL met (k : Int) = true := inL_iff.2 hm
          rw [him]
          clear him hm SKI TKE
          go_wp2
          go_roundg (M + restN pre met n)
          case rel => exact ⟨met, ws, by rw [HM.out], by have := hMS.out; omega, D2.out, O2.out, S2.out, B2.out⟩
          case measure => omega
        · have D2 := hideP (TKE.out HW.out hm)
          have him : inL met (k : Int) = false := by
            cases e : inL met (k : Int)
            · rfl
            · exact absurd (inL_iff.1 e) hm
          have RT := hideP (restN_take (pre := pre) hm n hkn)
          have FW := hideP D2.out.few
          rw [him]
          rw [Int.toNat_natCast] at D2
          have al := (Below.refl w2.heap.size w2).alloc (Nat.le_refl _) (.cells #[.int .i64 (k : Int)] 3)
          have OL := hideP (own_lit w2 [(k : Int)] #[.int .i64 (k : Int)] w2.heap.size 1 rfl rfl rfl (by simp))
          have B3 := hideP (below_trans B2.out al)
          have O3 := hideP (O2.out.stays al)
          have S3 := hideP (S2.out.stays al)
          have hml : met.length ≤ 6000 := by have := FW.out; unfold Few at this; rw [List.length_append] at this; omega
          have CA := hideP (addI_any met [(k : Int)] _ w.heap.size met.length _ _ S3.out OL.out (fun s hs => by rw [List.mem_singleton.1 hs]; exact I6.out) (by omega) (by simp))
          clear him hm SKI TKE al O2 B2 S2
          go_wp2_with fail
          refine CA.out.mono ?_
          rintro e4 w4 ⟨rfl, s4, b4⟩
          have S4 : Hid (SetIs InK w4 w.heap.size (met ++ [(k : Int)]).length (met ++ [(k : Int)])) := by show SetIs _ _ _ _ _; rw [List.length_append]; exact s4
          have hgb : g5 ≠ w.heap.size := O3.out.setNe S3.out
          have O4 := hideP (O3.out.butG b4 (by simp [Value.ownBlock]; exact hgb))
          have B4 : Hid (Below w.heap.size w w4) := B3.out.trans (b4.below (Nat.le_refl _) B3.out.size)
          have A4 := hideP (HA.out.stays B4.out)
          have hat := (A4.out.at hkn).1
          have NA := hideP (A4.out.own k hkn)
          have hsz4 : w.heap.size ≤ w4.heap.size := B4.out.size
          obtain ⟨vk, hvk⟩ : ∃ vk, av k = vk := ⟨_, rfl⟩
          rw [hvk] at hat NA
          clear s4 b4 CA B3 O3 S3 OL A4 hvk
          go_wp2_with (at_builtin; refine list_appA _ rfl _ _ rfl w.heap.size lo _ vk ws (pre k) rfl rfl O4.out NA.out (by have := RT.out; have := hMS.out; have := HM.out; omega) hsz4 ?_; intro v6 w6 o6 grow6 loc6)
          replace grow6 : World.grownBy _ w6 (Value.slice (some ⟨g5, 0, none⟩) M c5).ownBlock := grow6
          have B6 := hideP (B4.out.grown grow6 B4.out.size (fun b' hb' => by have := O4.out.low b' hb'; omega))
          have S6 := hideP (S4.out.kept grow6 (by simp [Value.ownBlock]; exact fun e => hgb e.symm))
          have O6 := hideP o6
          have ML : Hid ((ws ++ pre k).length + restN pre (met ++ [(k : Int)]) n = M + restN pre met n) := by show _ = _; rw [List.length_append, HM.out]; have := RT.out; omega
          clear o6 grow6 loc6 hat NA S4 O4 B4 hgb
          go_wp2
          go_roundg (M + restN pre met n)
          case rel => exact ⟨met ++ [(k : Int)], ws ++ pre k, ML.out.symm, by have := hMS.out; omega, D2.out, O6.out, S6.out, B6.out⟩
          case measure => omega
end Go.Proofs.Ytfoelnblnfcaiaa
