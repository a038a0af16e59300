/- The contract of spec.MaxSlot. -/
import Derived.Test.YtdkdimklacblaakMaxD
import Derived.Test.YtdkdimklacblaakOwnIntL
import Derived.Deep.CutRange
import Derived.Deep.RegionHeld3
import Derived.Deep.LoopGhost
namespace Go.Proofs.Ytdkdimklacblaak
open Go.ChangeShapes Go.WideShapes Go.ChangeAt Go.RowKit
def met2 (x : Ins) : List Int := usesP x ++ [makesP x]
def lst0 (jump a : Int) : List Int := if jump = 0 then [] else [a]
theorem lst0_len (j a : Int) : (lst0 j a).length ≤ 1 := by unfold lst0; split <;> simp
theorem met2_flat (l : List Ins) : (l.flatMap met2).length ≤ 4 * l.length := by
  induction l with
  | nil => simp
  | cons y l ih => have := usesP_len y; rw [List.flatMap_cons, List.length_append, List.length_cons]; simp only [met2, List.length_append, List.length_singleton] at ih ⊢; omega
theorem code_le {bs : List Blk} {j : Nat} (h : j < bs.length) : bs[j].code.length ≤ (codeAll bs).length := by
  have e : codeAll bs = codeAll (bs.take j) ++ (bs[j].code ++ codeAll (bs.drop (j + 1))) := by
    unfold codeAll
    conv => lhs; rw [← List.take_append_drop j bs, List.flatMap_append, List.drop_eq_getElem_cons h, List.flatMap_cons]
  rw [e, List.length_append, List.length_append]
  omega
theorem top_one {o z : Int} {l : List Int} {k : Nat} (h : k < l.length) (hz : l[k] = z) : topFrom o (l.take (k + 1)) = if topFrom o (l.take k) < z then z else topFrom o (l.take k) := by
  rw [List.take_succ_eq_append_getElem h, topFrom_append, hz]; rfl
set_option maxHeartbeats 8000000 in
set_option maxRecDepth 100000 in
theorem spec_maxSlot (g : Gr) (w : World) (B : Nat) (v : Array Value) (h : GrIs w B v g) (GO : OkIs 28 g) :
    Calls Try.prog 11 #[.agg v] w fun en w' => en = .returned (.int .i64 (maxP g)) ∧ Below w.heap.size w w' := by
  have hG := hideP h
  have HGO := hideP GO
  clear GO
  obtain ⟨sizes, params, vars, slots, blocks⟩ := g
  obtain ⟨us, cs, ub, cb, rfl, _, _, hb⟩ := h
  simp only at *
  have hm := maxLen_lt
  have hlb := hb.1
  have HB := hideP hb
  clear hb
  obtain ⟨R, hR⟩ : ∃ R, maxP ⟨sizes, params, vars, slots, blocks⟩ = R := ⟨_, rfl⟩
  rw [hR]
  have HR := hideP hR
  clear hR
  obtain ⟨gok, hgok⟩ : ∃ r, grOk ⟨sizes, params, vars, slots, blocks⟩ = r := ⟨_, rfl⟩
  have GO1 : Hid (∀ W A v, GrIs W A v ⟨sizes, params, vars, slots, blocks⟩ → Calls Try.prog 28 #[.agg v] W fun en w' => en = .returned (.bool gok) ∧ Below W.heap.size W w') := fun W A v hv => hgok ▸ HGO.out W A v hv
  have HK := hideP hgok
  clear hgok HGO
  have Q1 : Hid ((w.alloc (.cells #[.slice us sizes.length cs, .int .i64 params, .int .i64 vars, .int .i64 slots, .slice ub blocks.length cb] 30)).heap[w.heap.size]? = some (.cells #[.slice us sizes.length cs, .int .i64 params, .int .i64 vars, .int .i64 slots, .slice ub blocks.length cb] 30)) := by show (w.heap.push _)[w.heap.size]? = _; exact Array.getElem?_push_size
  have BW : Hid (Below w.heap.size w (w.alloc (.cells #[.slice us sizes.length cs, .int .i64 params, .int .i64 vars, .int .i64 slots, .slice ub blocks.length cb] 30))) := (Below.refl _ _).alloc (Nat.le_refl _) _
  have E0 : Hid (gok = false → R = -1) := fun e => by rw [← HR.out]; exact if_neg (by rw [HK.out, e]; simp)
  have EE : Hid (gok = true → R = topFrom (-1) (blocks.flatMap (metS usesP makesP))) := fun e => by rw [← HR.out]; exact if_pos (by rw [HK.out, e])
  have hfew : Hid (gok = true → (codeAll blocks).length ≤ 1000) := fun e => grOk_steps (g := ⟨sizes, params, vars, slots, blocks⟩) (HK.out.trans e)
  have hbl1 : Hid (gok = true → 1 ≤ blocks.length ∧ blocks.length ≤ 300) := fun e => grOk_blocks (g := ⟨sizes, params, vars, slots, blocks⟩) (HK.out.trans e)
  clear HK HR
  go_enter Try.func11, Try.ntmps11
  go_wp2
  go_loopg [3, 4] blocks.length (fun gk o i wr => ∃ j : Nat, gk + j = blocks.length ∧ i = .int .i64 j ∧ o = .int .i64 (topFrom (-1) ((blocks.take j).flatMap (metS usesP makesP))) ∧ Hid (j = 0 ∨ gok = true) ∧ Hid (Below w.heap.size w wr) ∧ Hid (wr.heap[w.heap.size]? = some (.cells #[.slice us sizes.length cs, .int .i64 params, .int .i64 vars, .int .i64 slots, .slice ub blocks.length cb] 30)))
  case atStart => exact ⟨0, by simp, rfl, rfl, Or.inl rfl, BW.out, Q1.out⟩
  case round =>
    obtain ⟨j, hj, rfl, rfl, hj0, bw, qg⟩ := hrel
    have p0 := (cells_of qg.out).1 0
    have p1 := (cells_of qg.out).1 1
    have p2 := (cells_of qg.out).1 2
    have p3 := (cells_of qg.out).1 3
    have p4 := (cells_of qg.out).1 4
    simp at p0 p1 p2 p3 p4
    by_cases hlt : j < blocks.length
    · go_wp2_with fail
      refine (GO1.out _ B _ (GrKeeps.stays hG.out bw.out)).mono ?_
      rintro e1 w1 ⟨rfl, bel1⟩
      have bw1 := hideP (below_trans bw.out bel1)
      have qg1 := hideP ((bel1.block w.heap.size (Array.getElem?_eq_some_iff.1 qg.out).1).trans qg.out)
      clear bel1 p0 p1 p2 p3 p4
      cases gok with
      | false =>
        have hj1 : j = 0 := by rcases hj0.out with h | h; exact h; exact absurd h (by decide)
        subst hj1
        have E1 : Hid (R = -1) := E0.out rfl
        clear E0 EE hfew hbl1
        go_wp2
        go_ret
        exact ⟨ret_int (by rw [E1.out]; rfl), bw1.out⟩
      | true =>
        have few := hfew.out rfl
        have hbl := hbl1.out rfl
        clear hj0 hfew hbl1 E0 EE GO1
        obtain ⟨b, o, x0, x1, x2, x3, x4, ux, kx, rfl, _, hbb, hx, q0, q1, q2, q3, q4, hbX⟩ := Blk_get (HB.out.stays BlkKeeps bw1.out) j hlt
        have p4 := (cells_of qg1.out).1 4
        simp at p4
        have hcl : x0.length ≤ 1000 := by have := code_le hlt; rw [hx] at this; exact Nat.le_trans this few
        have TK : Hid (topFrom (-1) ((blocks.take (j + 1)).flatMap (metS usesP makesP)) = topFrom (topFrom (-1) ((blocks.take j).flatMap (metS usesP makesP))) (lst0 x1 x2 ++ x0.flatMap met2)) := by
          show _ = _
          rw [List.take_succ_eq_append_getElem hlt, hx, List.flatMap_append, topFrom_append, List.flatMap_cons, List.flatMap_nil, List.append_nil]
          rfl
        obtain ⟨o0, ho0⟩ : ∃ o0, topFrom (-1) ((blocks.take j).flatMap (metS usesP makesP)) = o0 := ⟨_, rfl⟩
        rw [ho0] at TK ⊢
        clear ho0
        have hcl2 := hbX
        obtain ⟨u', c', hv, _, hcode⟩ := hcl2
        simp at hv
        obtain ⟨⟨rfl, rfl⟩, -⟩ := hv
        have al := (Below.refl w1.heap.size w1).alloc (Nat.le_refl _) (.cells #[.slice ux x0.length kx, .int .i64 x1, .int .i64 x2, .int .i64 x3, .int .i64 x4] 42)
        have nb : (w1.alloc (.cells #[.slice ux x0.length kx, .int .i64 x1, .int .i64 x2, .int .i64 x3, .int .i64 x4] 42)).heap[w1.heap.size]? = some (.cells #[.slice ux x0.length kx, .int .i64 x1, .int .i64 x2, .int .i64 x3, .int .i64 x4] 42) := by show (w1.heap.push _)[w1.heap.size]? = _; exact Array.getElem?_push_size
        have hsb : (w1.alloc (.cells #[.slice ux x0.length kx, .int .i64 x1, .int .i64 x2, .int .i64 x3, .int .i64 x4] 42)).heap.size = w1.heap.size + 1 := by simp
        have HC := hideP (hcode.stays InsKeeps al)
        have AL := hideP al
        have qg2 := hideP ((al.block w.heap.size (Array.getElem?_eq_some_iff.1 qg1.out).1).trans qg1.out)
        have bw2 := hideP (below_trans bw1.out al)
        have HX := hideP hx
        clear hbX hx hcode al
        go_upto_region 6 with fail
        clear q0 q1 q2 q3 q4 p4
        obtain ⟨WB, hWB⟩ : ∃ WB, w1.alloc (.cells #[.slice ux x0.length kx, .int .i64 x1, .int .i64 x2, .int .i64 x3, .int .i64 x4] 42) = WB := ⟨_, rfl⟩
        rw [hWB] at nb hsb HC AL qg2 bw2 ⊢
        clear hWB
        have nb2 := (((Below.refl WB.heap.size WB).alloc (Nat.le_refl _) (.cells #[] 3)).block w1.heap.size (Array.getElem?_eq_some_iff.1 nb).1).trans nb
        have y1 := (cells_of nb2).1 1
        have y2 := (cells_of nb2).1 2
        simp at y1 y2
        have NB := hideP nb
        clear hsb nb nb2
        go_upto_if 28 with fail
        go_cut [6] from 9 to 72 (fun s6 wx => Hid (OwnI wx WB.heap.size s6 (lst0 x1 x2)) ∧ Hid (Below WB.heap.size WB wx))
        case first =>
          have OL := hideP (own_lit WB [] #[] WB.heap.size 0 rfl rfl rfl (by simp))
          by_cases hz : x1 = 0
          · have E : Hid (lst0 x1 x2 = []) := if_pos hz
            go_wp2
            go_meet
            exact ⟨by show OwnI _ _ _ _; rw [E.out]; exact OL.out, (Below.refl _ _).alloc (Nat.le_refl _) _⟩
          · have E : Hid (lst0 x1 x2 = [] ++ [x2]) := if_neg hz
            go_wp2_with (at_builtin; refine list_appI _ rfl _ _ rfl WB.heap.size _ [] [x2] (WB.heap.size + 1) 0 1 1 rfl rfl rfl (OL.out.stays ((Below.refl _ _).alloc (Nat.le_refl _) _)) ((own_lit2 WB (.cells #[] 3) [x2] _ _ _ rfl rfl rfl (by simp)).at) (by simp) (below2 WB _ _).size ?_; intro v6 w6 o6 grow6 loc6)
            replace grow6 : World.grownBy _ w6 (some WB.heap.size) := grow6
            have B6 := hideP ((below2 WB (.cells #[] 3) (.cells #[.int .i64 x2] 3)).grown grow6 (below2 WB _ _).size (fun b' hb' => by cases hb'; exact Nat.le_refl _))
            obtain ⟨n6, g6, c6, rfl⟩ := own_shape o6
            have O6 := hideP o6
            clear o6 grow6 loc6
            go_wp2
            go_meet
            exact ⟨by show OwnI _ _ _ _; rw [E.out]; exact O6.out, B6.out⟩
        case rest =>
        obtain ⟨oc, bc⟩ := hcut
        clear y1 y2
        have hlst := lst0_len x1 x2
        obtain ⟨LS, hLS⟩ : ∃ LS, lst0 x1 x2 = LS := ⟨_, rfl⟩
        rw [hLS] at oc TK hlst
        clear hLS
        go_wp2
        go_loopg [6, 7] x0.length (fun hk l k wr2 => ∃ i : Nat, hk + i = x0.length ∧ k = .int .i64 i ∧ Hid (OwnI wr2 WB.heap.size l (LS ++ (x0.take i).flatMap met2)) ∧ Hid (Below WB.heap.size WB wr2))
        case atStart => exact ⟨0, by simp, rfl, by show OwnI _ _ _ _; simpa using oc.out, bc.out⟩
        case round =>
          obtain ⟨i, hi, rfl, ho, hbr⟩ := hrel
          have nbr := (hbr.out.block w1.heap.size (Array.getElem?_eq_some_iff.1 NB.out).1).trans NB.out
          have z0 := (cells_of nbr).1 0
          simp at z0
          by_cases hil : i < x0.length
          · obtain ⟨bu, ou, i0, i1, i2, i3, i4, i5, i6, rfl, _, hbu, hxi, c0, c1, c2, c3, c4, c5, c6, hI⟩ := Ins_get HC.out i hil
            have hne : w1.heap.size < WB.heap.size := (Array.getElem?_eq_some_iff.1 NB.out).1
            have SK : Hid (∀ W', Below WB.heap.size wr W' → W'.cell? ⟨w1.heap.size, 0, none⟩ = some (.slice (some ⟨bu, ou, none⟩) x0.length kx) ∧ W'.cell? ⟨bu, ou + i * 7, none⟩ = some (.int .i64 i0) ∧ W'.cell? ⟨bu, ou + i * 7 + 1, none⟩ = some (.int .i64 i1) ∧ W'.cell? ⟨bu, ou + i * 7 + 2, none⟩ = some (.int .i64 i2) ∧ W'.cell? ⟨bu, ou + i * 7 + 3, none⟩ = some (.int .i64 i3) ∧ W'.cell? ⟨bu, ou + i * 7 + 4, none⟩ = some (.int .i64 i4) ∧ W'.cell? ⟨bu, ou + i * 7 + 5, none⟩ = some (.int .i64 i5) ∧ W'.cell? ⟨bu, ou + i * 7 + 6, none⟩ = some (.string i6)) := fun W' h => ⟨(h.cell (p := ⟨w1.heap.size, 0, none⟩) hne).trans z0, ((hbr.out.trans h).cell (p := ⟨bu, _, none⟩) hbu).trans c0, ((hbr.out.trans h).cell (p := ⟨bu, _, none⟩) hbu).trans c1, ((hbr.out.trans h).cell (p := ⟨bu, _, none⟩) hbu).trans c2, ((hbr.out.trans h).cell (p := ⟨bu, _, none⟩) hbu).trans c3, ((hbr.out.trans h).cell (p := ⟨bu, _, none⟩) hbu).trans c4, ((hbr.out.trans h).cell (p := ⟨bu, _, none⟩) hbu).trans c5, ((hbr.out.trans h).cell (p := ⟨bu, _, none⟩) hbu).trans c6⟩
            have hwB := hbr.out.size
            replace c0 := (hbr.out.cell (p := ⟨bu, _, none⟩) hbu).trans c0
            replace c1 := (hbr.out.cell (p := ⟨bu, _, none⟩) hbu).trans c1
            replace c2 := (hbr.out.cell (p := ⟨bu, _, none⟩) hbu).trans c2
            replace c3 := (hbr.out.cell (p := ⟨bu, _, none⟩) hbu).trans c3
            replace c4 := (hbr.out.cell (p := ⟨bu, _, none⟩) hbu).trans c4
            replace c5 := (hbr.out.cell (p := ⟨bu, _, none⟩) hbu).trans c5
            replace c6 := (hbr.out.cell (p := ⟨bu, _, none⟩) hbu).trans c6
            obtain ⟨U, hU⟩ : ∃ U, usesP (⟨i0, i1, i2, i3, i4, i5, i6⟩ : Ins) = U := ⟨_, rfl⟩
            obtain ⟨mk, hmk⟩ : ∃ mk, makesP (⟨i0, i1, i2, i3, i4, i5, i6⟩ : Ins) = mk := ⟨_, rfl⟩
            have UP : Hid (LS ++ (x0.take (i + 1)).flatMap met2 = LS ++ (x0.take i).flatMap met2 ++ U ++ [mk]) := by
              show _ = _
              rw [List.take_succ_eq_append_getElem hil, hxi, List.flatMap_append, List.flatMap_cons, List.flatMap_nil, List.append_nil, met2, hU, hmk]
              simp
            have hUn : Hid (U.length ≤ 3) := by rw [← hU]; exact usesP_len _
            have hLn : Hid ((LS ++ (x0.take i).flatMap met2).length ≤ 10000) := by
              have h1 := met2_flat (x0.take i)
              have h2 : (x0.take i).length ≤ i := List.length_take_le _ _
              show _ ≤ _
              rw [List.length_append]
              omega
            have US : Hid (∀ W', Calls Try.prog 29 #[.agg #[.int .i64 i0, .int .i64 i1, .int .i64 i2, .int .i64 i3, .int .i64 i4, .int .i64 i5, .string i6]] W' fun en w' => ∃ v', en = .returned v' ∧ OwnI w' W'.heap.size v' U ∧ Below W'.heap.size W' w') := fun W' => hU ▸ spec_uses (⟨i0, i1, i2, i3, i4, i5, i6⟩ : Ins) W' 0 _ ⟨rfl, hI.2⟩
            have MK : Hid (∀ W', Calls Try.prog 30 #[.agg #[.int .i64 i0, .int .i64 i1, .int .i64 i2, .int .i64 i3, .int .i64 i4, .int .i64 i5, .string i6]] W' fun en w' => en = .returned (.int .i64 mk) ∧ Below W'.heap.size W' w') := fun W' => hmk ▸ spec_makes (⟨i0, i1, i2, i3, i4, i5, i6⟩ : Ins) W' 0 _ ⟨rfl, hI.2⟩
            obtain ⟨LL, hLL⟩ : ∃ LL, LS ++ (x0.take i).flatMap met2 = LL := ⟨_, rfl⟩
            rw [hLL] at ho UP hLn
            obtain ⟨n6, g6, cap6, rfl⟩ := own_shape ho.out
            clear hLL hU hmk hxi hI nbr
            go_upto_region 12 with fail
            clear z0 c0 c1 c2 c3 c4 c5 c6
            go_region_held3 (fun W' => W'.cell? ⟨w1.heap.size, 0, none⟩ = some (.slice (some ⟨bu, ou, none⟩) x0.length kx) ∧ W'.cell? ⟨bu, ou + i * 7, none⟩ = some (.int .i64 i0) ∧ W'.cell? ⟨bu, ou + i * 7 + 1, none⟩ = some (.int .i64 i1) ∧ W'.cell? ⟨bu, ou + i * 7 + 2, none⟩ = some (.int .i64 i2) ∧ W'.cell? ⟨bu, ou + i * 7 + 3, none⟩ = some (.int .i64 i3) ∧ W'.cell? ⟨bu, ou + i * 7 + 4, none⟩ = some (.int .i64 i4) ∧ W'.cell? ⟨bu, ou + i * 7 + 5, none⟩ = some (.int .i64 i5) ∧ W'.cell? ⟨bu, ou + i * 7 + 6, none⟩ = some (.string i6)) (first | exact SK.out _ (Below.refl _ _).drew | exact SK.out _ H5.out | exact SK.out _ (H3.out.alloc (Nat.le_trans hwB H3.out.size) _) | exact SK.out _ H3.out | exact SK.out _ H2.out | exact SK.out _ H1.out) (first
              | (go_at_call 29; refine (US.out _).mono ?_; rintro e1 w3 ⟨v1, rfl, o1, bel1⟩; obtain ⟨g1, cap1, rfl, _⟩ := id o1; have O1 := hideP o1; have H0 := hideP ((Below.refl wr.heap.size wr).drew.trans (bel1.mono (Nat.le_refl _))); have H1 := hideP (H0.out.mono hwB); clear bel1 o1)
              | (refine step_appI _ rfl _ _ rfl WB.heap.size _ LL U g1 0 U.length cap1 rfl rfl rfl (ho.out.stays H0.out) O1.out.at (by have := hLn.out; have := hUn.out; omega) (Nat.le_trans hwB H0.out.size) ?_; intro v2 w4 o2 grow2 loc2; obtain ⟨n2, g2, cap2, rfl⟩ := own_shape o2; have O2 := hideP o2; have H2 := hideP (H1.out.grown grow2 (Nat.le_trans hwB H0.out.size) (fun b' hb' => (ho.out.low b' hb').1)); clear o2 grow2 loc2)
              | (go_at_call 30; refine (MK.out _).mono ?_; rintro e3 w5 ⟨rfl, bel3⟩; have O3 := hideP (O2.out.stays bel3); have H3 := hideP (H2.out.trans (bel3.mono (Nat.le_trans hwB H2.out.size))); clear bel3)
              | (refine step_appI _ rfl _ _ rfl WB.heap.size _ (LL ++ U) [mk] w5.heap.size 0 1 1 rfl rfl rfl (O3.out.stays ((Below.refl _ _).alloc (Nat.le_refl _) _)) (own_lit w5 [mk] _ _ _ rfl rfl rfl (by simp)).at (by have := hLn.out; have := hUn.out; rw [List.length_append, List.length_singleton]; omega) (Nat.le_trans (Nat.le_trans hwB H3.out.size) ((Below.refl _ _).alloc (Nat.le_refl _) _).size) ?_; intro v6 w6 o6 grow6 loc6; obtain ⟨n7, g7, cap7, rfl⟩ := own_shape o6; have O6 := hideP o6; have H5 := hideP ((H3.out.alloc (Nat.le_trans hwB H3.out.size) _).grown grow6 (Nat.le_trans (Nat.le_trans hwB H3.out.size) ((Below.refl _ _).alloc (Nat.le_refl _) _).size) (fun b' hb' => (O3.out.low b' hb').1)); clear o6 grow6 loc6))
            all_goals (go_wp2; go_roundg (x0.length - (i + 1)))
            case rel => exact ⟨i + 1, by omega, by go_num, by show OwnI _ _ _ _; rw [UP.out]; exact O6.out, hbr.out.trans H5.out⟩
            case measure => omega
          · obtain rfl : i = x0.length := by omega
            rw [List.take_length] at ho
            obtain ⟨LL, hLL⟩ : ∃ LL, LS ++ x0.flatMap met2 = LL := ⟨_, rfl⟩
            rw [hLL] at ho TK
            have hLn : LL.length ≤ 10000 := by have := met2_flat x0; rw [← hLL, List.length_append]; omega
            clear hLL
            obtain ⟨g9, cap9, rfl, _⟩ := id ho.out
            have AT := hideP ho.out.at
            have BF := hideP (bw2.out.trans (hbr.out.mono bw2.out.size))
            have QF := hideP ((hbr.out.block w.heap.size (Array.getElem?_eq_some_iff.1 qg2.out).1).trans qg2.out)
            have T0 : Hid (topFrom o0 (LL.take 0) = o0) := rfl
            clear nbr ho hbr HC NB AL qg2 bw2 qg1 bw1 qg bw oc bc
            go_wp2
            clear z0
            go_loop [3, 8] (fun q k => ∃ i : Nat, i ≤ LL.length ∧ k = .int .i64 i ∧ q = .int .i64 (topFrom o0 (LL.take i))) (fun _ k => LL.length - (intOf k).toNat)
            case atStart => exact ⟨0, Nat.zero_le _, rfl, by rw [T0.out]⟩
            case round =>
              obtain ⟨i, hi2, rfl, rfl⟩ := hrel
              by_cases hi3 : i < LL.length
              · have hc := AT.out i hi3
                obtain ⟨z, hz⟩ : ∃ z, LL[i] = z := ⟨_, rfl⟩
                have TO := hideP (top_one (o := o0) hi3 hz)
                rw [hz, Nat.zero_add] at hc
                obtain ⟨y, hy⟩ : ∃ y, topFrom o0 (LL.take i) = y := ⟨_, rfl⟩
                rw [hy] at TO ⊢
                clear hz hy
                by_cases hgt : y < z
                · rw [if_pos hgt] at TO
                  go_wp2
                  go_round
                  case rel => exact ⟨i + 1, by omega, by go_num, by rw [TO.out]⟩
                  case measure => simp [intOf]; omega
                · rw [if_neg hgt] at TO
                  go_wp2
                  go_round
                  case rel => exact ⟨i + 1, by omega, by go_num, by rw [TO.out]⟩
                  case measure => simp [intOf]; omega
              · obtain rfl : i = LL.length := by omega
                rw [List.take_length]
                go_wp2
                go_roundg (blocks.length - (j + 1))
                case rel => exact ⟨j + 1, by omega, by go_num, by rw [TK.out], Or.inr (by first | rfl | trivial), BF.out, QF.out⟩
                case measure => omega
    · obtain rfl : j = blocks.length := by omega
      have RES : Hid (R = topFrom (-1) ((blocks.take blocks.length).flatMap (metS usesP makesP))) := by
        show R = _
        rw [List.take_length]
        cases gok with
        | true => exact EE.out rfl
        | false =>
          rw [E0.out rfl]
          have h0 : blocks.length = 0 := by rcases hj0.out with h | h; exact h; exact absurd h (by decide)
          rw [List.length_eq_zero_iff.1 h0]; rfl
      go_wp2
      go_ret
      exact ⟨ret_int RES.out.symm, bw.out⟩
end Go.Proofs.Ytdkdimklacblaak
