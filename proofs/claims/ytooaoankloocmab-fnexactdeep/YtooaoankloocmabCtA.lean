/- The contract of impl.comeTo: the set of what one comes to. -/
import Derived.Test.YtooaoankloocmabSetAll
import Derived.Test.YtooaoankloocmabOrdPA
import Derived.Lib.LazyBuf
import Derived.Test.YtooaoankloocmabNxA
namespace Go.Proofs.Ytooaoankloocmab
open Go.ChangeShapes Go.WideShapes Go.ChangeAt Go.RowKit Go.Maps
theorem OwnI.init {w : World} {B g n cap : Nat} {l : List Int} {a : Int} (h : OwnI w B (.slice (some ⟨g, 0, none⟩) n cap) (l ++ [a])) : OwnI w B (.slice (some ⟨g, 0, none⟩) l.length cap) l := by
  obtain ⟨g', cap', cur, hv, hB, hh, hc, hm, hs, hx⟩ := h.parts
  injection hv with e1 e2 e3
  injection e1 with e1
  injection e1 with e1
  subst e1 e3
  rw [List.length_append] at hc
  refine OwnI.of_parts hB hh (by omega) hm hs (fun j hj => ?_)
  have := hx j (by rw [List.length_append]; omega)
  rw [List.getElem_append_left hj] at this
  exact this
theorem OwnI.last {w : World} {B g n cap : Nat} {l : List Int} {a : Int} (h : OwnI w B (.slice (some ⟨g, 0, none⟩) n cap) (l ++ [a])) : w.cell? ⟨g, l.length, none⟩ = some (.int .i64 a) := by
  have := h.at l.length (by simp)
  rw [Nat.zero_add] at this
  simpa using this
theorem OwnI.capn {w : World} {B g n cap : Nat} {l : List Int} (h : OwnI w B (.slice (some ⟨g, 0, none⟩) n cap) l) : l.length ≤ cap := by
  obtain ⟨g', cap', cur, hv, hB, hh, hc, _⟩ := h.parts
  injection hv with _ _ e
  subst e
  exact hc
theorem OwnI.setNe {w : World} {B g n cap b c : Nat} {l m : List Int} (h : OwnI w B (.slice (some ⟨g, 0, none⟩) n cap) l) (hs : SetIs InK w b c m) : g ≠ b := fun e => by
  obtain ⟨g', _, cur, hv, _, hh, _⟩ := h.parts
  injection hv with e1
  injection e1 with e1
  injection e1 with e1
  subst e1 e
  obtain ⟨es, cl, h3⟩ := hs.isMap
  rw [hh] at h3
  cases h3
theorem run_appA {w : World} {B lo : Nat} {v1 u : Value} {l1 l2 : List Int} (ty : TypeId) (h1 : OwnI w B v1 l1) (h2 : NumN w lo u l2) (hn : l1.length + l2.length ≤ 8000000) (hB : B ≤ w.heap.size) :
    ∃ v' w', (Builtin.append_ #[22, 22] ty #[v1, u]).run Try.prog w = .ok v' w' ∧ OwnI w' B v' (l1 ++ l2) ∧ w.grownBy w' v1.ownBlock ∧ (v'.ownBlock = v1.ownBlock ∨ v'.ownBlock = some w.heap.size) := by
  rcases h2 with ⟨rfl, rfl⟩ | h2
  · obtain ⟨g, cap, cur, rfl, hg, hh, hc, hm, hs, hx⟩ := h1.parts
    obtain ⟨i0, hi, hz0, hz1, hz2⟩ := info_parts infoInt
    refine ⟨.slice (some ⟨g, 0, none⟩) l1.length cap, w, ?_, by simpa using h1, ⟨rfl, rfl, rfl, Nat.le_refl _, fun _ _ _ => rfl⟩, Or.inl rfl⟩
    simp [Builtin.append_, run_underlying Try.underlying22, sizeOf, typeInfo, hi, Builtin.lenOf, hc, Builtin.firstCells, storeCells]
  · obtain ⟨g, cap, rfl, _⟩ := id h2
    exact run_appI ty h1 h2.at hn hB
theorem list_appA {ops : Array Oper} {o : Oper} {a : Act} {Q : Exit → Act → World → Prop} {rest : List Oper} (w : World) (hgd : o.guard = none) (s x : Operand) (ho : o.op = .call { callee := .builtin .append, args := #[s, x], argTypes := #[22, 22] })
    (B lo : Nat) (v1 u : Value) (l1 l2 : List Int) (hs : a.eval s = v1) (hx : a.eval x = u) (h1 : OwnI w B v1 l1) (h2 : NumN w lo u l2) (hn : l1.length + l2.length ≤ 8000000) (hB : B ≤ w.heap.size)
    (h : ∀ v' w', OwnI w' B v' (l1 ++ l2) → w.grownBy w' v1.ownBlock → (v'.ownBlock = v1.ownBlock ∨ v'.ownBlock = some w.heap.size) → wpList Try.prog ops Q rest (a.put o.dst v') w') :
    wpList Try.prog ops Q (o :: rest) a w := by
  refine wpList_plain hgd fun K hK => ?_
  obtain ⟨v', w', hr, r1, r2, r3⟩ := run_appA o.type h1 h2 hn hB
  unfold Oper.wp execOp
  simp only [ho, resolve, invoke, builtin, Sem.run_bind, Sem.run_pure, Result.andThen_ok, List.map_toArray, List.map_cons, List.map_nil, hs, hx, hr]
  exact hK _ _ (h v' w' r1 r2 r3)
set_option maxRecDepth 100000 in
set_option maxHeartbeats 2000000 in
theorem cloneO (l : List Int) (w : World) (B : Nat) (v : Value) (h : OwnI w B v l) (hn : l.length ≤ 100000) :
    Calls Try.prog 59 #[v] w fun en w' => ∃ v', en = .returned v' ∧ OwnI w' w.heap.size v' l ∧ Below w.heap.size w w' := by
  obtain ⟨g, cap, rfl, _⟩ := id h
  obtain ⟨N, hN⟩ : ∃ N, l.length = N := ⟨_, rfl⟩
  have nl := fun W => Lib.run_eql_slice_nil (P := Try.prog) W 22 3 (some ⟨g, 0, none⟩) N cap 0 0 Try.underlying22
  have al := hideP ((Below.refl w.heap.size w).alloc (Nat.le_refl _) (.cells #[] 3))
  have O1 := hideP (own_lit w [] #[] w.heap.size 0 rfl rfl rfl (by simp))
  have H1 := hideP (h.stays al.out)
  have HN := hideP hN
  rw [hN] at H1 ⊢
  clear h hN
  go_enter Try.func59, Try.ntmps59
  go_wp2_with (at_builtin; refine list_appA _ rfl _ _ rfl w.heap.size B _ _ [] l rfl rfl O1.out (Or.inr H1.out) (by simp; omega) al.out.size ?_; intro v6 w6 o6 grow6 loc6)
  replace grow6 : World.grownBy _ w6 (Value.slice (some ⟨w.heap.size, 0, none⟩) 0 0).ownBlock := grow6
  have O6 : Hid (OwnI w6 w.heap.size v6 l) := by show OwnI _ _ _ _; simpa using o6
  have B6 := hideP (al.out.grown grow6 al.out.size (fun b' hb' => by have := O1.out.low b' hb'; omega))
  clear o6 grow6 loc6
  go_ret
  exact ⟨_, rfl, O6.out, B6.out⟩
set_option maxRecDepth 100000 in
set_option maxHeartbeats 4000000 in
theorem comeTo_any (n : Nat) (pre : Nat → List Int) (fs : List Int) (wo : Int) (w : World) (lo ga B : Nat) (av : Nat → Value) (v : Value) (h : AhAt lo n ga av pre w) (hv : OwnI w B v fs) (hin : ∀ i, i < n → ∀ y ∈ pre i, InR n y) (hfs : ∀ y ∈ fs, InR n y) (hn : n ≤ 300) (hS : fs.length + restN pre [] n ≤ 100000) :
    Calls Try.prog 38 #[.slice (some ⟨ga, 0, none⟩) n n, .int .i64 wo, v] w fun e w' => SetMade w 300 (Way pre fs wo) e w' := by
  have AL := hideP ((Below.refl w.heap.size w).alloc (Nat.le_refl _) (.map #[] 0))
  have S0 : Hid (SetIs InK (w.alloc (.map #[] 0)) w.heap.size 0 []) := SetIs.made InK_ok w
  have HA := hideP h
  have HI := hideP hin
  have hmm := @run_makeMap Try.prog
  have CL := hideP (cloneO fs (w.alloc (.map #[] 0)) B v (hv.stays AL.out) (by omega))
  have DS := hideP (dfs_start (pre := pre) (fs := fs) wo hfs)
  obtain ⟨S, hSS⟩ : ∃ S, fs.length + restN pre [] n = S := ⟨_, rfl⟩
  rw [hSS] at hS
  have HSS := hideP hSS
  clear h hv hin hfs hSS
  go_enter Try.func38, Try.ntmps38
  go_wp2_with fail
  refine CL.out.mono ?_
  rintro e1 w1 ⟨v1, rfl, o1, b1⟩
  have O1 : Hid (OwnI w1 w.heap.size v1 fs) := o1.mono AL.out.size
  have S1 := hideP (S0.out.stays b1)
  have B1 := hideP (below_trans AL.out b1)
  have hz : w.heap.size < w1.heap.size := S1.out.lt
  clear o1 b1 CL S0 AL hmm
  go_wp2
  go_loopg [8] S (fun gk o wr => ∃ (met work : List Int), gk = work.length + restN pre met n ∧ gk ≤ S ∧ Hid (Dfs pre n fs wo met work) ∧ Hid (OwnI wr w.heap.size o work) ∧ Hid (SetIs InK wr w.heap.size met.length met) ∧ Hid (Below w.heap.size w wr))
  case atStart => exact ⟨[], fs, HSS.out.symm, Nat.le_refl _, DS.out, O1.out, S1.out, B1.out⟩
  case round =>
    obtain ⟨met, work, hgk, hgS, hD, hO, hSt, hB⟩ := hrel
    clear O1 S1 B1
    obtain ⟨g5, c5, rfl, _⟩ := id hO.out
    rcases List.eq_nil_or_concat work with rfl | ⟨ws, a, rfl⟩
    · go_wp2
      go_ret
      have D := hD.out
      exact ⟨_, _, met, rfl, Nat.le_refl _, hSt.out, by have := D.few; unfold Few at this; omega, fun y => D.done y, hB.out⟩
    · rw [List.concat_eq_append] at hgk hD hO ⊢
      have hlc := hO.out.last
      have hcp := hO.out.capn
      have OI := hideP hO.out.init
      obtain ⟨M, hM⟩ : ∃ M, ws.length = M := ⟨_, rfl⟩
      have hwl : (ws ++ [a]).length = M + 1 := by simp [hM]
      have hMS : Hid (M + 1 + restN pre met n ≤ S) := by show _ ≤ _; omega
      have RI := hideP (hD.out.rin a (Or.inr (by simp)))
      have SKI := hideP (fun (h : a = wo ∨ a ∈ met) => hD.out.skip h)
      have TKE := hideP (fun (h1 : a ≠ wo) (h2 : ¬ a ∈ met) => hD.out.take h1 h2 (fun z hz => HI.out _ (by have := RI.out; unfold InR at this; omega) z hz))
      obtain ⟨k, rfl⟩ : ∃ k : Nat, a = (k : Int) := ⟨a.toNat, by have := RI.out.1; omega⟩
      have hkn : k < n := by have := RI.out.2; omega
      have I6 : Hid (I64 (k : Int)) := by show I64 _; unfold I64; omega
      have HM := hideP hM
      rw [hwl] at hcp hgk ⊢
      rw [hM] at hlc OI
      clear hwl hM hD hO
      have hM8 : M ≤ 100000 := by have := hMS.out; omega
      by_cases hw : (k : Int) = wo
      · have hwb : ((k : Int) == wo) = true := by simpa using hw
        have hwd : decide ((k : Int) = wo) = true := by simpa using hw
        have D2 := hideP (SKI.out (Or.inl hw))
        clear SKI TKE hw
        go_wp2
        go_roundg (M + restN pre met n)
        case rel => exact ⟨met, ws, by rw [HM.out], by have := hMS.out; omega, D2.out, OI.out, hSt.out, hB.out⟩
        case measure => omega
      · have hwb : ((k : Int) == wo) = false := by simpa using hw
        have hwd : decide ((k : Int) = wo) = false := by simpa using hw
        have HW := hideP hw
        have CH := hideP (hasI_any met (k : Int) wr w.heap.size met.length hSt.out I6.out)
        clear hw
        go_wp2_with fail
        refine CH.out.mono ?_
        rintro e2 w2 ⟨rfl, b2⟩
        have S2 := hideP (hSt.out.stays b2)
        have O2 := hideP (OI.out.stays b2)
        have B2 := hideP (below_trans hB.out b2)
        clear b2 CH hSt OI hB hlc
        by_cases hm : (k : Int) ∈ met
        · have D2 := hideP (SKI.out (Or.inr hm))
          have him : inL met (k : Int) = true := inL_iff.2 hm
          rw [him]
          clear him hm SKI TKE
          go_wp2
          go_roundg (M + restN pre met n)
          case rel => exact ⟨met, ws, by rw [HM.out], by have := hMS.out; omega, D2.out, O2.out, S2.out, B2.out⟩
          case measure => omega
        · have D2 := hideP (TKE.out HW.out hm)
          have him : inL met (k : Int) = false := by
            cases e : inL met (k : Int)
            · rfl
            · exact absurd (inL_iff.1 e) hm
          have RT := hideP (restN_take (pre := pre) hm n hkn)
          have FW := hideP D2.out.few
          rw [him]
          rw [Int.toNat_natCast] at D2
          have al := (Below.refl w2.heap.size w2).alloc (Nat.le_refl _) (.cells #[.int .i64 (k : Int)] 3)
          have OL := hideP (own_lit w2 [(k : Int)] #[.int .i64 (k : Int)] w2.heap.size 1 rfl rfl rfl (by simp))
          have B3 := hideP (below_trans B2.out al)
          have O3 := hideP (O2.out.stays al)
          have S3 := hideP (S2.out.stays al)
          have hml : met.length ≤ 300 := by have := FW.out; unfold Few at this; rw [List.length_append] at this; omega
          have CA := hideP (addI_any met [(k : Int)] _ w.heap.size met.length _ _ S3.out OL.out (fun s hs => by rw [List.mem_singleton.1 hs]; exact I6.out) (by omega) (by simp))
          clear him hm SKI TKE al O2 B2 S2
          go_wp2_with fail
          refine CA.out.mono ?_
          rintro e4 w4 ⟨rfl, s4, b4⟩
          have S4 : Hid (SetIs InK w4 w.heap.size (met ++ [(k : Int)]).length (met ++ [(k : Int)])) := by show SetIs _ _ _ _ _; rw [List.length_append]; exact s4
          have hgb : g5 ≠ w.heap.size := O3.out.setNe S3.out
          have O4 := hideP (O3.out.butG b4 (by simp [Value.ownBlock]; exact hgb))
          have B4 : Hid (Below w.heap.size w w4) := B3.out.trans (b4.below (Nat.le_refl _) B3.out.size)
          have A4 := hideP (HA.out.stays B4.out)
          have hat := (A4.out.at hkn).1
          have NA := hideP (A4.out.own k hkn)
          have hsz4 : w.heap.size ≤ w4.heap.size := B4.out.size
          obtain ⟨vk, hvk⟩ : ∃ vk, av k = vk := ⟨_, rfl⟩
          rw [hvk] at hat NA
          clear s4 b4 CA B3 O3 S3 OL A4 hvk
          go_wp2_with (at_builtin; refine list_appA _ rfl _ _ rfl w.heap.size lo _ vk ws (pre k) rfl rfl O4.out NA.out (by have := RT.out; have := hMS.out; have := HM.out; omega) hsz4 ?_; intro v6 w6 o6 grow6 loc6)
          replace grow6 : World.grownBy _ w6 (Value.slice (some ⟨g5, 0, none⟩) M c5).ownBlock := grow6
          have B6 := hideP (B4.out.grown grow6 B4.out.size (fun b' hb' => by have := O4.out.low b' hb'; omega))
          have S6 := hideP (S4.out.kept grow6 (by simp [Value.ownBlock]; exact fun e => hgb e.symm))
          have O6 := hideP o6
          have ML : Hid ((ws ++ pre k).length + restN pre (met ++ [(k : Int)]) n = M + restN pre met n) := by show _ = _; rw [List.length_append, HM.out]; have := RT.out; omega
          clear o6 grow6 loc6 hat NA S4 O4 B4 hgb
          go_wp2
          go_roundg (M + restN pre met n)
          case rel => exact ⟨met ++ [(k : Int)], ws ++ pre k, ML.out.symm, by have := hMS.out; omega, D2.out, O6.out, S6.out, B6.out⟩
          case measure => omega
end Go.Proofs.Ytooaoankloocmab

/- The contract of impl.realm: of those that one comes to the ones to which one does not come without a block. -/
namespace Go.Proofs.Ytooaoankloocmab
open Go.ChangeShapes Go.WideShapes Go.ChangeAt Go.RowKit Go.Maps
set_option maxRecDepth 100000 in
set_option maxHeartbeats 4000000 in
theorem realm_any (n : Nat) (pre : Nat → List Int) (wo : Int) (w : World) (lo ga mb mc : Nat) (ml : List Int) (av : Nat → Value) (h : AhAt lo n ga av pre w) (hs : SetIs InK w mb mc ml) (hin : ∀ i, i < n → ∀ y ∈ pre i, InR n y) (h0 : 0 < n) (hn : n ≤ 300) (hS : 1 + restN pre [] n ≤ 100000) (hmc : mc ≤ 300) :
    Calls Try.prog 68 #[.slice (some ⟨ga, 0, none⟩) n n, .map (some mb), .int .i64 wo] w fun e w' => SetMade w 300 (fun y => y ∈ ml ∧ ¬ Way pre [0] wo y) e w' := by
  have al := (Below.refl w.heap.size w).alloc (Nat.le_refl _) (.cells #[.int .i64 0] 3)
  have CT := hideP (comeTo_any n pre [0] wo _ lo ga _ av _ (h.stays al) (own_lit w [0] #[.int .i64 0] w.heap.size 1 rfl rfl rfl (by simp)) hin (fun y hy => by rw [List.mem_singleton.1 hy]; exact ⟨Int.le_refl _, by omega⟩) hn (by simpa using hS))
  have AL := hideP al
  have HS := hideP hs
  have hmm := @run_makeMap Try.prog
  have GOAL : Hid (∀ e w', SetMade w 300 (fun y => y ∈ ml ∧ ¬ Way pre [0] wo y) e w' → SetMade w 300 (fun y => y ∈ ml ∧ ¬ Way pre [0] wo y) e w') := fun _ _ h => h
  clear h hs hin al
  go_enter Try.func68, Try.ntmps68
  go_wp2_with fail
  refine CT.out.mono ?_
  rintro e1 w1 ⟨m1, n1, l1, rfl, hm1, s1, _, hl1, b1⟩
  have B1 := hideP (below_trans AL.out b1)
  have al2 := (Below.refl w1.heap.size w1).alloc (Nat.le_refl _) (.map #[] 0)
  have S2 := hideP (s1.stays al2)
  have R2 : Hid (SetIs InK (w1.alloc (.map #[] 0)) w1.heap.size 0 []) := SetIs.made InK_ok w1
  have B2 := hideP (below_trans B1.out al2)
  have M2 := hideP (HS.out.stays B2.out)
  have HL := hideP hl1
  have hmw : mb < w.heap.size := HS.out.lt
  have hm1w : m1 < w1.heap.size := s1.lt
  have hww : w.heap.size ≤ w1.heap.size := B1.out.size
  have hm1g : w.heap.size + 1 ≤ m1 := by simpa using hm1
  clear s1 hl1 b1 al2 CT AL B1 hm1
  go_wp2_with (first
    | (at_range; refine rgs_range _ rfl _ rfl mb mc ml rfl M2.out ?_; intro w3 cnt3 hrg3 hg3 hs3)
    | go_in)
  have W3 : Hid (Below w.heap.size w w3 ∧ SetIs InK w3 m1 n1 l1 ∧ SetIs InK w3 w1.heap.size 0 []) := ⟨below_trans B2.out (grown_below hg3 (fun b h => by cases h) (Nat.le_refl _)), S2.out.kept hg3 (by simp), R2.out.kept hg3 (by simp)⟩
  obtain ⟨r3, hr3⟩ : ∃ r3, (w1.alloc (Obj.map #[] 0)).heap.size = r3 := ⟨_, rfl⟩
  rw [hr3] at hrg3 ⊢
  have hr4 : r3 = w1.heap.size + 1 := by rw [← hr3]; simp
  have HR3 := hideP hr4
  have RG3 := hideP hrg3
  clear hrg3 hg3 hs3 M2 S2 R2 B2 hr3 hr4
  go_frame
  go_loopw [] (fun wr => ∃ (dn rl : List Int) (cnt : Nat), Hid (RgS wr mb r3 mc ml dn cnt) ∧ Hid (∀ y, y ∈ rl ↔ y ∈ dn ∧ ¬ y ∈ l1) ∧ Hid (SetIs InK wr w1.heap.size dn.length rl) ∧ Hid (SetIs InK wr m1 n1 l1) ∧ Hid (Below w.heap.size w wr)) (fun wr => wr.rangeLeft mb r3)
  case atStart => exact ⟨[], [], cnt3, RG3.out, by show ∀ _, _; simp, W3.out.2.2, W3.out.2.1, W3.out.1⟩
  case round =>
    obtain ⟨dn, rl, cnt, hrg, hrl, hrs, hws, hbe⟩ := hrel
    clear RG3 W3
    go_wp2_with (first
      | (at_next; refine rgs_next _ rfl _ rfl mb r3 mc ml dn cnt rfl hrg.out ?_ ?_)
      | go_in)
    · intro hall
      have HALL := hideP hall
      clear hall
      go_wp2
      go_ret
      exact ⟨_, _, rl, rfl, hww, hrs.out, by have := hrg.out.few; omega, fun y => by rw [hrl.out, HALL.out, HL.out], hbe.out⟩
    · intro x w4 cnt4 hx hxn hxi hrg4 hlt hg4 hs4 hen
      have hr := HR3.out
      have W4 : Hid (Below w.heap.size w w4 ∧ SetIs InK w4 w1.heap.size dn.length rl ∧ SetIs InK w4 m1 n1 l1) := ⟨hbe.out.grown hg4 hbe.out.size (fun b' hb' => by injection hb' with e; omega), hrs.out.kept hg4 (by simp; omega), hws.out.kept hg4 (by simp; omega)⟩
      have RG4 := hideP hrg4
      have CH := hideP (hasI_any l1 x w4 m1 n1 W4.out.2.2 hxi)
      have DN : Hid (∀ q, q ∈ dn ++ [x] ↔ q ∈ dn ∨ q = x) := fun q => by rw [List.mem_append, List.mem_singleton]
      have DL : Hid ((dn ++ [x]).length = dn.length + 1) := by show _ = _; simp
      have hfw := hrg4.few
      have LE := hideP hrg.out.left_eq
      have HLT := hideP hlt
      have XI := hideP hxi
      have hsz4 := W4.out.2.1.lt
      clear hg4 hs4 hrg4 hrg hx hxn hlt hrs hws hbe hxi hr
      go_wp2_with fail
      refine CH.out.mono ?_
      rintro e5 w5 ⟨rfl, b5⟩
      have W5 : Hid (Below w.heap.size w w5 ∧ SetIs InK w5 w1.heap.size dn.length rl ∧ SetIs InK w5 m1 n1 l1) := ⟨below_trans W4.out.1 b5, W4.out.2.1.stays b5, W4.out.2.2.stays b5⟩
      have RG5 := hideP (RG4.out.stays b5)
      clear b5 W4 RG4 CH hen
      cases hm : inL l1 x with
      | true =>
        have hml := inL_iff.1 hm
        have RL : Hid (∀ y, y ∈ rl ↔ y ∈ dn ++ [x] ∧ ¬ y ∈ l1) := fun y => by
          rw [hrl.out, DN.out]
          exact ⟨fun h => ⟨Or.inl h.1, h.2⟩, fun h => ⟨h.1.elim id (fun e => absurd (e ▸ hml) h.2), h.2⟩⟩
        clear hm hml
        go_wp2
        go_roundw
        case rel => exact ⟨dn ++ [x], rl, cnt4, RG5.out, RL.out, by rw [DL.out]; exact W5.out.2.1.up (Nat.le_succ _), W5.out.2.2, W5.out.1⟩
        case measure => rw [RG5.out.left_eq, LE.out]; exact HLT.out
      | false =>
        have hml : ¬ x ∈ l1 := fun h => by rw [inL_iff.2 h] at hm; cases hm
        have RL : Hid (∀ y, y ∈ rl ++ [x] ↔ y ∈ dn ++ [x] ∧ ¬ y ∈ l1) := fun y => by
          rw [List.mem_append, hrl.out, DN.out, List.mem_singleton]
          exact ⟨fun h => h.elim (fun h => ⟨Or.inl h.1, h.2⟩) (fun e => ⟨Or.inr e, e ▸ hml⟩), fun h => h.1.elim (fun h2 => Or.inl ⟨h2, h.2⟩) Or.inr⟩
        have al6 := (Below.refl w5.heap.size w5).alloc (Nat.le_refl _) (.cells #[.int .i64 x] 3)
        have OL := own_lit w5 [x] #[.int .i64 x] w5.heap.size 1 rfl rfl rfl (by simp)
        have CA := hideP (addI_any rl [x] _ w1.heap.size dn.length _ _ (W5.out.2.1.stays al6) OL (fun s hs => by rw [List.mem_singleton.1 hs]; exact XI.out) (by rw [DL.out] at hfw; omega) (by simp))
        have RG6 := hideP (RG5.out.stays al6)
        have W6 := hideP (And.intro (below_trans W5.out.1 al6) (W5.out.2.2.stays al6))
        clear hm hml al6 OL W5 RG5
        go_wp2_with fail
        refine CA.out.mono ?_
        rintro e7 w7 ⟨rfl, s7, b7⟩
        have S7 : Hid (SetIs InK w7 w1.heap.size (dn ++ [x]).length (rl ++ [x])) := by rw [DL.out]; exact s7
        have RG7 := hideP (RG6.out.kept b7.grow (by simp; omega) (by have := HR3.out; simp; omega))
        have W7 := hideP (And.intro (W6.out.1.trans (b7.below hww W6.out.1.size)) (W6.out.2.but b7 (by omega)))
        clear s7 b7 RG6 W6 CA
        go_wp2
        go_roundw
        case rel => exact ⟨dn ++ [x], rl ++ [x], cnt4, RG7.out, RL.out, S7.out, W7.out.2, W7.out.1⟩
        case measure => rw [RG7.out.left_eq, LE.out]; exact HLT.out
end Go.Proofs.Ytooaoankloocmab

/- The contract of impl.nexts: for each block where one can go from there. -/
namespace Go.Proofs.Ytooaoankloocmab
open Go.ChangeShapes Go.WideShapes Go.ChangeAt Go.RowKit Go.Maps
theorem make_ways (n : Nat) (hn : n ≤ 1000) (W : World) : (Instr.makeSlice 49 (.int .i64 (n : Int)) (.int .i64 (n : Int))).run Try.prog W = .ok (.slice (some ⟨W.heap.size, 0, none⟩) n n) (W.alloc (.cells (madeCells #[.slice none 0 0] n) 22)) := by
  have := make_n (P := Try.prog) Try.underlying49 infoIS n (by omega) (by omega) W
  rw [Nat.mul_one] at this
  exact this
/-- The ways of these blocks, in memory of their own. -/
def NxMade (w : World) (xs : List Blk) (e : Ending) (w' : World) : Prop := ∃ ga av, e = .returned (.slice (some ⟨ga, 0, none⟩) xs.length xs.length) ∧ AhAt w.heap.size xs.length ga av (preN xs) w' ∧ w.heap.size ≤ ga ∧ (∀ t, t < xs.length → OwnI w' w.heap.size (av t) (preN xs t)) ∧ Below w.heap.size w w'
theorem preN_get {xs : List Blk} {j : Nat} (h : j < xs.length) : preN xs j = nextP xs[j] := by
  unfold preN nxt
  rw [Int.toNat_natCast, List.getElem?_eq_getElem h]
set_option maxRecDepth 100000 in
set_option maxHeartbeats 8000000 in
theorem nexts_any (x : Gr) (w : World) (B : Nat) (v : Array Value) (h : GrIs w B v x) (hn : x.blocks.length ≤ 300) :
    Calls Try.prog 34 #[.agg v] w fun e w' => NxMade w x.blocks e w' := by
  obtain ⟨sizes, p, q, r, blocks⟩ := x
  obtain ⟨us, cs, ub, cb, rfl, _, _, hbb⟩ := h
  simp only at *
  have HBB := hideP hbb
  have AL := hideP (below2 w (.cells #[.slice us sizes.length cs, .int .i64 p, .int .i64 q, .int .i64 r, .slice ub blocks.length cb] 30) (.cells (madeCells #[.slice none 0 0] blocks.length) 22))
  have A0 : Hid (AhAt w.heap.size blocks.length (w.heap.size + 1) (fun _ => .slice none 0 0) (fun _ => []) ((w.alloc (.cells #[.slice us sizes.length cs, .int .i64 p, .int .i64 q, .int .i64 r, .slice ub blocks.length cb] 30)).alloc (.cells (madeCells #[.slice none 0 0] blocks.length) 22))) := by
    have := ahAt_made (w.alloc (.cells #[.slice us sizes.length cs, .int .i64 p, .int .i64 q, .int .i64 r, .slice ub blocks.length cb] 30)) blocks.length w.heap.size
    show AhAt _ _ _ _ _ _
    simpa using this
  have hm1 := make_ways blocks.length (by omega)
  obtain ⟨n, hnn⟩ : ∃ n, blocks.length = n := ⟨_, rfl⟩
  have HNN := hideP hnn
  have GOAL : Hid (∀ e w', (∃ ga av, e = .returned (.slice (some ⟨ga, 0, none⟩) n n) ∧ AhAt w.heap.size n ga av (preN blocks) w' ∧ w.heap.size ≤ ga ∧ (∀ t, t < n → OwnI w' w.heap.size (av t) (preN blocks t)) ∧ Below w.heap.size w w') → NxMade w blocks e w') := fun e w' hh => by rw [← hnn] at hh; exact hh
  rw [hnn] at hn hm1 AL A0 ⊢
  clear hbb hnn
  go_enter Try.func34, Try.ntmps34
  go_wp2
  go_loopg [13] n (fun gk ix wr => ∃ (j : Nat) (av : Nat → Value), gk + j = n ∧ ix = .int .i64 j ∧ Hid (AhAt w.heap.size n (w.heap.size + 1) av (fun u => if u < j then preN blocks u else []) wr) ∧ Hid (∀ t, t < j → OwnI wr w.heap.size (av t) (preN blocks t)) ∧ Hid (Below w.heap.size w wr))
  case atStart => exact ⟨0, fun _ => .slice none 0 0, by simp, rfl, A0.out.congr (fun t ht => by simp), fun t ht => absurd ht (Nat.not_lt_zero _), AL.out⟩
  case round =>
    obtain ⟨j, av, hj, rfl, hA, hR, hE⟩ := hrel
    clear A0 AL hm1
    by_cases hlt : j < n
    · have hjb : j < blocks.length := by rw [HNN.out]; exact hlt
      obtain ⟨bb, oo, code, jump, a, t0, els, uc, kc, hub, _, hbl, he, q0, q1, q2, q3, q4, hbk⟩ := Blk_get HBB.out j hjb
      subst hub
      have q0 := (hE.out.cell (p := ⟨bb, _, none⟩) hbl).trans q0
      have q1 := (hE.out.cell (p := ⟨bb, _, none⟩) hbl).trans q1
      have q2 := (hE.out.cell (p := ⟨bb, _, none⟩) hbl).trans q2
      have q3 := (hE.out.cell (p := ⟨bb, _, none⟩) hbl).trans q3
      have q4 := (hE.out.cell (p := ⟨bb, _, none⟩) hbl).trans q4
      have al := (Below.refl wr.heap.size wr).alloc (Nat.le_refl _) (.cells #[.slice uc code.length kc, .int .i64 jump, .int .i64 a, .int .i64 t0, .int .i64 els] 69)
      have A1 := hideP (hA.out.stays al)
      have R1 : Hid (∀ t, t < j → OwnI (wr.alloc (.cells #[.slice uc code.length kc, .int .i64 jump, .int .i64 a, .int .i64 t0, .int .i64 els] 69)) w.heap.size (av t) (preN blocks t)) := fun t ht => (hR.out t ht).stays al
      have E1 := hideP (below_trans hE.out al)
      have NX := hideP (impl_next ⟨code, jump, a, t0, els⟩ _ B _ (BlkKeeps.stays hbk E1.out))
      have PN := hideP (preN_get hjb)
      rw [he] at PN
      obtain ⟨nx, hnx⟩ : ∃ nx, nextP ⟨code, jump, a, t0, els⟩ = nx := ⟨_, rfl⟩
      rw [hnx] at NX PN
      clear al hA hE hR he hbk hnx
      go_wp2_with fail
      refine NX.out.mono ?_
      rintro e7 w7 ⟨v7, rfl, o7, b7⟩
      obtain ⟨gu, cu, hv7, _⟩ := id o7
      subst hv7
      have lo7 := o7.low gu rfl
      have A7 := hideP (A1.out.stays b7)
      have E7 := hideP (below_trans E1.out b7)
      obtain ⟨m1, f1⟩ := A7.out.at hlt
      have f1 := f1 j
      have hsz := E1.out.size
      have A8 := hideP (A1.out.putL hlt (Below.refl _ _) (W2 := w7) (o7.mono hsz) (grows_any b7) (Or.inr ⟨gu, rfl, lo7.1⟩))
      have B8 : Hid (But (w.heap.size + 1) w7 (w7.setCell ⟨w.heap.size + 1, j, none⟩ (.slice (some ⟨gu, 0, none⟩) nx.length cu))) := (But.refl _ _).set _ _
      have E8 := hideP (E7.out.trans (B8.out.below (Nat.le_succ _) E7.out.size))
      have R8 : Hid (∀ t, t < j + 1 → OwnI (w7.setCell ⟨w.heap.size + 1, j, none⟩ (.slice (some ⟨gu, 0, none⟩) nx.length cu)) w.heap.size (if t = j then .slice (some ⟨gu, 0, none⟩) nx.length cu else av t) (preN blocks t)) := fun t ht => by
        have key : ∀ {u : Value} {l : List Int}, OwnI w7 w.heap.size u l → OwnI (w7.setCell ⟨w.heap.size + 1, j, none⟩ (.slice (some ⟨gu, 0, none⟩) nx.length cu)) w.heap.size u l := fun {u l} hu => hu.butG B8.out (fun e => by
          obtain ⟨g', _, cur, hv, _, hh, _⟩ := hu.parts
          obtain ⟨c2, h2, _⟩ := A7.out.row
          have e1 : g' = w.heap.size + 1 := by rw [hv] at e; simpa [Value.ownBlock] using e
          rw [e1, h2] at hh
          injection hh with hh
          injection hh with _ e2
          exact absurd e2 (by decide))
        by_cases e : t = j
        · subst e
          rw [if_pos rfl, PN.out]
          exact key (o7.mono hsz)
        · rw [if_neg e]
          exact key ((R1.out t (by omega)).stays b7)
      have A9 : Hid (AhAt w.heap.size n (w.heap.size + 1) (fun u => if u = j then .slice (some ⟨gu, 0, none⟩) nx.length cu else av u) (fun u => if u < j + 1 then preN blocks u else []) (w7.setCell ⟨w.heap.size + 1, j, none⟩ (.slice (some ⟨gu, 0, none⟩) nx.length cu))) := A8.out.congr (fun t ht => by
        by_cases e : t = j
        · subst e
          rw [if_pos rfl, if_pos (by omega), PN.out]
        · rw [if_neg e]
          by_cases e2 : t < j
          · rw [if_pos e2, if_pos (by omega)]
          · rw [if_neg e2, if_neg (by omega)])
      clear A8 B8 o7 b7 lo7 A7 E7 NX A1 R1 E1 PN hsz
      go_wp2
      go_roundg (n - (j + 1))
      case rel => exact ⟨j + 1, _, by omega, by go_num, A9.out, R8.out, E8.out⟩
      case measure => omega
    · have hjn : j = n := by omega
      subst hjn
      go_wp2
      go_ret
      exact GOAL.out _ _ ⟨_, av, rfl, hA.out.congr (fun t ht => if_pos ht), Nat.le_succ _, hR.out, hE.out⟩
end Go.Proofs.Ytooaoankloocmab
