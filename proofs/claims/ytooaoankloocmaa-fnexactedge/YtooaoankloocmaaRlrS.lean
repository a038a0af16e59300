/- The contract of spec.Ruler (written by wip/mkrlrs.py). -/
import Derived.Test.YtooaoankloocmaaRlsS
import Derived.BigQuiet
namespace Go.Proofs.Ytooaoankloocmaa
open Go.ChangeShapes Go.WideShapes Go.ChangeAt Go.RowKit
def bestP (L : List (List Int)) (k b x : Int) : Int := if x ≠ k ∧ (b < 0 ∨ (L.getD b.toNat []).length < (L.getD x.toNat []).length) then x else b
def bestUp (L : List (List Int)) (k : Nat) : Nat → Int
  | 0 => -1
  | i + 1 => bestP L k (bestUp L k i) ((L.getD k []).getD i 0)
def rulerUp (L : List (List Int)) (j : Nat) : List Int := (List.range j).map (fun (k : Nat) => bestUp L k (L.getD k []).length)
noncomputable def rulerP (g : Gr) : List Int := rulerUp (rulesP g) (rulesP g).length
theorem rulerUp_succ (L : List (List Int)) (j : Nat) : rulerUp L (j + 1) = rulerUp L j ++ [bestUp L j (L.getD j []).length] := by unfold rulerUp; rw [List.range_succ, List.map_append]; rfl
theorem rulerUp_len (L : List (List Int)) (j : Nat) : (rulerUp L j).length = j := by unfold rulerUp; simp
theorem upB_in (f : Nat → Bool) : ∀ (j : Nat), ∀ x ∈ upB f j, 0 ≤ x ∧ x < (j : Int)
  | 0, x, h => by simp [upB] at h
  | j + 1, x, h => by
    unfold upB at h
    split at h
    · rcases List.mem_append.1 h with h | h
      · have := upB_in f j x h; omega
      · rw [List.mem_singleton.1 h]; omega
    · have := upB_in f j x h; omega
theorem rulesP_in (g : Gr) (k : Nat) (hk : k < (rulesP g).length) : ∀ x ∈ (rulesP g).getD k [], 0 ≤ x ∧ x < ((rulesP g).length : Int) := by
  intro x hx
  by_cases h : grOk g = true
  · have e : rulesP g = rulUp g.blocks g.blocks.length := by unfold rulesP; rw [if_pos h]
    rw [e] at hx hk ⊢
    rw [rulUp_len] at hk ⊢
    rw [List.getD_eq_getElem?_getD] at hx
    unfold rulUp at hx
    rw [List.getElem?_map, List.getElem?_range hk] at hx
    exact upB_in _ _ x hx
  · have e : rulesP g = [] := by unfold rulesP; rw [if_neg h]
    rw [e] at hk
    exact absurd hk (Nat.not_lt_zero _)
theorem rulesP_few (g : Gr) : (rulesP g).length ≤ 300 := by
  unfold rulesP
  split
  · rename_i h; rw [rulUp_len]; exact (grOk_blocks h).2
  · simp
theorem rulesP_short (g : Gr) (k : Nat) : ((rulesP g).getD k []).length ≤ 300 := by
  by_cases h : grOk g = true
  · have e : rulesP g = rulUp g.blocks g.blocks.length := by unfold rulesP; rw [if_pos h]
    rw [e, List.getD_eq_getElem?_getD]
    unfold rulUp
    rw [List.getElem?_map]
    by_cases hk : k < g.blocks.length
    · rw [List.getElem?_range hk]
      exact Nat.le_trans (upB_len _ _) (grOk_blocks h).2
    · rw [List.getElem?_eq_none (by simpa using hk)]; simp
  · have e : rulesP g = [] := by unfold rulesP; rw [if_neg h]
    rw [e]; simp
theorem below_drewR (B : Nat) (w : World) (q : Nat) : Below B w (w.drewN q) := ⟨rfl, rfl, rfl, Nat.le_refl _, fun _ _ => rfl⟩
theorem getD_mem0 {l : List Int} {i : Nat} (h : i < l.length) : l.getD i 0 ∈ l := by rw [List.getD_eq_getElem?_getD, List.getElem?_eq_getElem h]; exact List.getElem_mem _
theorem bestUp_in {L : List (List Int)} {k : Nat} (hx : ∀ x ∈ L.getD k [], 0 ≤ x ∧ x < (L.length : Int)) : ∀ i, i ≤ (L.getD k []).length → bestUp L k i = -1 ∨ (0 ≤ bestUp L k i ∧ bestUp L k i < (L.length : Int))
  | 0, _ => Or.inl rfl
  | i + 1, hi => by
    have ih := bestUp_in hx i (by omega)
    unfold bestUp bestP
    split
    · exact Or.inr (hx _ (getD_mem0 (by omega)))
    · exact ih
theorem LlAt.at {W : World} {B g n c : Nat} {rows : List (Nat × Nat × Nat)} {ls : List (List Int)} (h : LlAt W B (.slice (some ⟨g, 0, none⟩) n c) rows ls) (k : Nat) (hk : k < ls.length) : ∃ gk ck, W.cell? ⟨g, k, none⟩ = some (.slice (some ⟨gk, 0, none⟩) (ls.getD k []).length ck) ∧ ∀ i, i < (ls.getD k []).length → W.cell? ⟨gk, i, none⟩ = some (.int .i64 ((ls.getD k []).getD i 0)) := by
  have hk2 : k < rows.length := by rw [h.len]; exact hk
  have h0 := h.own.at LsOk k hk2 0 (by show 0 < 1; decide)
  simp only [LsE, Nat.zero_add, Nat.mul_one, Nat.add_zero, List.getElem?_cons_zero] at h0
  have he := h.each k hk2
  obtain ⟨g', cap, hv, _⟩ := id he
  injection hv with _ e2 e3
  rw [e2] at h0 he
  refine ⟨_, _, h0, fun i hi => ?_⟩
  obtain ⟨b', o', hb, hc⟩ := he.is.2.sees.get i hi
  cases hb
  rw [Nat.zero_add] at hc
  rw [hc, List.getD_eq_getElem?_getD (l := ls.getD k []), List.getElem?_eq_getElem hi]
  rfl
set_option maxHeartbeats 8000000 in
set_option maxRecDepth 100000 in
theorem spec_ruler (g : Gr) (w : World) (B : Nat) (v : Array Value) (h : GrIs w B v g) (GO : OkIs 36 g) :
    Calls Try.prog 18 #[.agg v] w fun en w' => ∃ v', en = .returned v' ∧ OwnI w' w.heap.size v' (rulerP g) ∧ Below w.heap.size w w' := by
  obtain ⟨L, hL⟩ : ∃ L, rulesP g = L := ⟨_, rfl⟩
  have CR : Hid (∀ W, Below w.heap.size w W → Calls Try.prog 10 #[.agg v] W fun en w' => ∃ g4 c4 rows, en = .returned (.slice (some ⟨g4, 0, none⟩) L.length c4) ∧ LlAt w' (W.heap.size + 1) (.slice (some ⟨g4, 0, none⟩) L.length c4) rows L ∧ Below W.heap.size W w') := fun W hW => by
    refine (spec_rulesL g W B v (GrKeeps.stays h hW) GO).mono ?_
    rintro en w' ⟨v', rows, he, hl, hb⟩
    rw [hL] at hl
    obtain ⟨g4, c4, rfl, _⟩ := id hl.own
    rw [hl.len] at he hl
    exact ⟨g4, c4, rows, he, hl, hb⟩
  have hLn : L.length ≤ 300 := by rw [← hL]; exact rulesP_few g
  have HIN : Hid (∀ k, k < L.length → ∀ x ∈ L.getD k [], 0 ≤ x ∧ x < (L.length : Int)) := by rw [← hL]; exact fun k hk => rulesP_in g k hk
  have HSH : Hid (∀ k, (L.getD k []).length ≤ 300) := by rw [← hL]; exact rulesP_short g
  unfold rulerP
  rw [hL]
  clear hL GO
  obtain ⟨sizes, params, vars, slots, blocks⟩ := g
  obtain ⟨us, cs, ub, cb, rfl, _, _, _⟩ := h
  simp only at *
  have hm := maxLen_lt
  have AL := hideP (below2 w (.cells #[.slice us sizes.length cs, .int .i64 params, .int .i64 vars, .int .i64 slots, .slice ub blocks.length cb] 31) (.cells #[] 3))
  have O1 : Hid (OwnI ((w.alloc (.cells #[.slice us sizes.length cs, .int .i64 params, .int .i64 vars, .int .i64 slots, .slice ub blocks.length cb] 31)).alloc (.cells #[] 3)) (w.heap.size + 1) (.slice (some ⟨w.heap.size + 1, 0, none⟩) 0 0) []) := by
    have := own_lit (w.alloc (.cells #[.slice us sizes.length cs, .int .i64 params, .int .i64 vars, .int .i64 slots, .slice ub blocks.length cb] 31)) [] #[] (w.heap.size + 1) 0 (by simp) rfl rfl (by simp)
    show OwnI _ _ _ _
    simpa using this
  go_enter Try.func18, Try.ntmps18
  go_wp2_with fail
  refine (CR.out _ AL.out).mono ?_
  rintro e1 w1 ⟨g4, c4, rows, rfl, l1, b1⟩
  have LL := hideP l1
  have OO := hideP (O1.out.stays b1)
  have BB := hideP (below_trans AL.out b1)
  have NE : Hid (∀ i (hi : i < rows.length), w.heap.size + 2 < (rows[i]).1) := fun i hi => by
    have := ((l1.each i hi).low _ rfl).1
    simp at this
    omega
  obtain ⟨lo, hlo⟩ : ∃ lo, ((w.alloc (.cells #[.slice us sizes.length cs, .int .i64 params, .int .i64 vars, .int .i64 slots, .slice ub blocks.length cb] 31)).alloc (.cells #[] 3)).heap.size + 1 = lo := ⟨_, rfl⟩
  rw [hlo] at LL
  clear b1 l1 O1 AL CR hlo
  go_wp2
  go_loopg [3, 5] L.length (fun hk o ix wr => ∃ j : Nat, hk + j = L.length ∧ ix = .int .i64 j ∧ Hid (OwnI wr (w.heap.size + 1) o (rulerUp L j)) ∧ Hid (LlAt wr lo (.slice (some ⟨g4, 0, none⟩) L.length c4) rows L) ∧ Hid (∀ i (hi : i < rows.length), o.ownBlock ≠ some (rows[i]).1) ∧ Hid (Below w.heap.size w wr) ∧ Hid (w.heap.size + 1 ≤ wr.heap.size))
  case atStart => exact ⟨0, by simp, rfl, OO.out, LL.out, fun i hi => by have := NE.out i hi; simp [Value.ownBlock]; omega, BB.out, by have := (OO.out.low (w.heap.size + 1) rfl).2; show _ ≤ _; omega⟩
  case round =>
    obtain ⟨j, hj, rfl, ho, hl, hne, hb, hz⟩ := hrel
    clear OO LL BB NE
    obtain ⟨wo, hwo⟩ : ∃ wo, wo = wr := ⟨_, rfl⟩
    subst hwo
    obtain ⟨gO, cO, hvO, _⟩ := id ho.out
    rw [rulerUp_len] at hvO
    subst hvO
    by_cases hlt : j < L.length
    · obtain ⟨gk, ck, q0, q1⟩ := hl.out.at j hlt
      have Q1 := hideP q1
      have hsh := HSH.out j
      have BI := hideP (bestUp_in (HIN.out j hlt))
      obtain ⟨X, hX⟩ : ∃ X, L.getD j [] = X := ⟨_, rfl⟩
      have HX := hideP hX
      rw [hX] at q0 Q1 hsh
      clear q1 hX
      go_wp2
      go_loopg [6, 7] X.length (fun hk bst ix W => ∃ i : Nat, hk + i = X.length ∧ ix = .int .i64 i ∧ bst = .int .i64 (bestUp L j i) ∧ Hid (Below wo.heap.size wo W))
      case atStart => exact ⟨0, by simp, rfl, rfl, Below.refl _ _⟩
      case round =>
        obtain ⟨i, hi, rfl, rfl, hW⟩ := hrel
        clear q0
        have HL := hideP (hl.out.stays hW.out)
        obtain ⟨gk2, ck2, q0, q1⟩ := HL.out.at j hlt
        have Q2 := hideP q1
        rw [HX.out] at q0 Q2
        clear q1
        by_cases hil : i < X.length
        · have c1 := Q2.out i hil
          have hmem : X.getD i 0 ∈ L.getD j [] := by rw [HX.out]; exact getD_mem0 hil
          have hxr := HIN.out j hlt _ hmem
          have ST : Hid (bestUp L j (i + 1) = bestP L j (bestUp L j i) (X.getD i 0)) := by show _ = _; rw [← HX.out]; rfl
          have hbi := BI.out i (by rw [HX.out]; omega)
          obtain ⟨x, hx⟩ : ∃ x : Nat, X.getD i 0 = (x : Int) := ⟨(X.getD i 0).toNat, by omega⟩
          obtain ⟨b, hbe⟩ : ∃ b, bestUp L j i = b := ⟨_, rfl⟩
          rw [hx] at c1 hxr ST
          rw [hbe] at ST hbi ⊢
          clear hx hmem hbe
          unfold bestP at ST
          obtain ⟨gx, cx, z0, _⟩ := HL.out.at x (by omega)
          have hsx := HSH.out x
          by_cases hxk : (x : Int) = (j : Int)
          · have E : Hid (bestUp L j (i + 1) = b) := by show _ = _; rw [ST.out, if_neg (by rintro ⟨h1, _⟩; exact h1 hxk)]
            have h1 : ((x : Int) == (j : Int)) = true := by simpa using hxk
            have h2 : ((x : Int) != (j : Int)) = false := by simp [bne, h1]
            clear ST hxk
            go_upto_region 11 with fail
            go_quiet (fail)
            go_wp2
            go_roundg (X.length - (i + 1))
            case rel => exact ⟨i + 1, by omega, by go_num, by rw [E.out], hW.out.trans (below_drewR _ _ _)⟩
            case measure => omega
          · have h1 : ((x : Int) == (j : Int)) = false := by simpa using hxk
            have h2 : ((x : Int) != (j : Int)) = true := by simp [bne, h1]
            rcases hbi with rfl | hb2
            · have E : Hid (bestUp L j (i + 1) = (x : Int)) := by show _ = _; rw [ST.out, if_pos ⟨hxk, Or.inl (by omega)⟩]
              clear ST hxk
              go_upto_region 11 with fail
              go_quiet (fail)
              go_wp2
              go_roundg (X.length - (i + 1))
              case rel => exact ⟨i + 1, by omega, by go_num, by rw [E.out], hW.out.trans (below_drewR _ _ _)⟩
              case measure => omega
            · obtain ⟨bn, rfl⟩ : ∃ bn : Nat, b = (bn : Int) := ⟨b.toNat, by omega⟩
              obtain ⟨gb, cbn, z1, _⟩ := HL.out.at bn (by omega)
              have hsb := HSH.out bn
              simp only [Int.toNat_natCast] at ST
              obtain ⟨LX, hLX⟩ : ∃ n, (L.getD x []).length = n := ⟨_, rfl⟩
              obtain ⟨LB, hLB⟩ : ∃ n, (L.getD bn []).length = n := ⟨_, rfl⟩
              rw [hLX] at z0 hsx
              rw [hLB] at z1 hsb
              simp only [hLX, hLB] at ST
              clear hLX hLB
              have h3 : decide ((bn : Int) < 0) = false := by simp
              by_cases hgt : LB < LX
              · have E : Hid (bestUp L j (i + 1) = (x : Int)) := by show _ = _; rw [ST.out, if_pos ⟨hxk, Or.inr (by omega)⟩]
                have h4 : decide (LB < LX) = true := by simpa using hgt
                have h5 : decide ((LB : Int) < (LX : Int)) = true := by simpa using hgt
                clear ST hxk
                go_upto_region 11 with fail
                go_quiet (fail)
                go_wp2
                go_roundg (X.length - (i + 1))
                case rel => exact ⟨i + 1, by omega, by go_num, by rw [E.out], hW.out.trans (below_drewR _ _ _)⟩
                case measure => omega
              · have E : Hid (bestUp L j (i + 1) = (bn : Int)) := by show _ = _; rw [ST.out, if_neg (by rintro ⟨_, h5 | h5⟩ <;> omega)]
                have h4 : decide (LB < LX) = false := by simpa using hgt
                have h5 : decide ((LB : Int) < (LX : Int)) = false := by simpa using hgt
                clear ST hxk
                go_upto_region 11 with fail
                go_quiet (fail)
                go_wp2
                go_roundg (X.length - (i + 1))
                case rel => exact ⟨i + 1, by omega, by go_num, by rw [E.out], hW.out.trans (below_drewR _ _ _)⟩
                case measure => omega
        · have hin : i = X.length := by omega
          subst hin
          have UP : Hid (rulerUp L (j + 1) = rulerUp L j ++ [bestUp L j X.length]) := by show _ = _; rw [rulerUp_succ, HX.out]
          obtain ⟨b, hbe⟩ : ∃ b, bestUp L j X.length = b := ⟨_, rfl⟩
          rw [hbe] at UP ⊢
          clear hbe
          obtain ⟨U, hU⟩ : ∃ U, rulerUp L j = U := ⟨_, rfl⟩
          have hlen : U.length = j := by rw [← hU]; exact rulerUp_len L j
          rw [hU] at UP ho
          clear hU
          have HLE := hideP hlen
          have al := (Below.refl wr.heap.size wr).alloc (Nat.le_refl _) (.cells #[.int .i64 b] 3)
          have OC := hideP ((ho.out.stays hW.out).stays al)
          have OD := hideP (own_lit wr [b] #[.int .i64 b] wr.heap.size 1 rfl rfl rfl (by simp))
          have LC := hideP (HL.out.stays al)
          have HBW := below_trans hb.out hW.out
          have BC := hideP (HBW.alloc HBW.size (.cells #[.int .i64 b] 3))
          have SC : Hid (w.heap.size + 1 ≤ (wr.alloc (.cells #[.int .i64 b] 3)).heap.size) := by have := hz.out; have := hW.out.size; show _ ≤ _; simp; omega
          clear al hlen HBW
          go_wp2_with (at_builtin; refine list_appI _ rfl _ _ rfl (w.heap.size + 1) _ U [b] wr.heap.size 0 1 1 rfl rfl rfl OC.out OD.out.at (by have := HLE.out; simp; omega) SC.out ?_; intro v6 w6 o6 grow6 loc6)
          replace grow6 : World.grownBy _ w6 (some gO) := grow6
          replace loc6 : v6.ownBlock = some gO ∨ v6.ownBlock = some (wr.alloc (.cells #[.int .i64 b] 3)).heap.size := loc6
          obtain ⟨ct, TY⟩ := OC.out.typ (g := gO) rfl
          have hgO := OC.out.low gO rfl
          have hnO : ∀ a (ha : a < rows.length), (rows[a]).1 ≠ gO := fun a ha e => hne.out a ha (by rw [e]; rfl)
          have L6 := hideP (LC.out.grown grow6 TY hnO)
          have B6 := hideP (BC.out.grown grow6 BC.out.size (fun b' hb' => by injection hb' with e; omega))
          have Z6 : Hid (w.heap.size + 1 ≤ w6.heap.size) := Nat.le_trans SC.out grow6.size
          have N6 : Hid (∀ a (ha : a < rows.length), v6.ownBlock ≠ some (rows[a]).1) := fun a ha => by
            rcases loc6 with e | e
            · rw [e]; intro e2; injection e2 with e2; exact hnO a ha e2.symm
            · rw [e]; intro e2; injection e2 with e2; have := ((LC.out.each a ha).low (rows[a]).1 rfl).2; omega
          obtain ⟨g6, c6, rfl, _⟩ := id o6
          have O6 := hideP o6
          clear o6 grow6 loc6 TY
          go_wp2
          go_roundg (L.length - (j + 1))
          case rel => exact ⟨j + 1, by omega, by go_num, by rw [UP.out]; simpa using O6, L6.out, N6.out, B6.out, Z6.out⟩
          case measure => omega
    · have hjn : j = L.length := by omega
      subst hjn
      go_wp2
      go_ret
      exact ⟨_, rfl, ho.out.mono (Nat.le_succ _), hb.out⟩
end Go.Proofs.Ytooaoankloocmaa
