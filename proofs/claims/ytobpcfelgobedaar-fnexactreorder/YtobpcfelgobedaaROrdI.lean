/- The contracts of impl.allBlocks and impl.OrderOk. -/
import Derived.Test.YtobpcfelgobedaaRPlR
import Derived.Test.YtobpcfelgobedaaRSetR
namespace Go.Proofs.YtobpcfelgobedaaR
open Go.ChangeShapes Go.WideShapes Go.ChangeAt Go.RowKit Go.Maps
set_option maxHeartbeats 4000000 in
set_option maxRecDepth 100000 in
theorem allBlocks_any (g : Gr) (w : World) (B : Nat) (v : Array Value) (h : GrIs w B v g) (hn : g.blocks.length ≤ 300) :
    Calls Try.prog 30 #[.agg v] w fun en w' => ∃ m, en = .returned (.map (some m)) ∧ w.heap.size ≤ m ∧ SetP w' m 300 (InQ g.blocks.length) ∧ Below w.heap.size w w' := by
  obtain ⟨sizes, params, vars, slots, blocks⟩ := g
  obtain ⟨us, cs, ub, cb, rfl, _, _, hb⟩ := h
  simp only at *
  have hm := maxLen_lt
  have hmm := @run_makeMap Try.prog
  clear hb
  have Q1 : Hid ((((w.alloc (.cells #[.slice us sizes.length cs, .int .i64 params, .int .i64 vars, .int .i64 slots, .slice ub blocks.length cb] 30)).alloc (.map #[] 0)).heap[w.heap.size]? = some (.cells #[.slice us sizes.length cs, .int .i64 params, .int .i64 vars, .int .i64 slots, .slice ub blocks.length cb] 30))) := (two (Below.refl ((w.alloc (.cells #[.slice us sizes.length cs, .int .i64 params, .int .i64 vars, .int .i64 slots, .slice ub blocks.length cb] 30)).alloc (.map #[] 0)).heap.size _)).1
  have BW := hideP (below2 w (.cells #[.slice us sizes.length cs, .int .i64 params, .int .i64 vars, .int .i64 slots, .slice ub blocks.length cb] 30) (.map #[] 0))
  have S0 : Hid (SetP ((w.alloc (.cells #[.slice us sizes.length cs, .int .i64 params, .int .i64 vars, .int .i64 slots, .slice ub blocks.length cb] 30)).alloc (.map #[] 0)) (w.heap.size + 1) 0 (fun _ => False)) := by
    have := SetP.made (w.alloc (.cells #[.slice us sizes.length cs, .int .i64 params, .int .i64 vars, .int .i64 slots, .slice ub blocks.length cb] 30))
    show SetP _ _ _ _
    simpa using this
  go_enter Try.func30, Try.ntmps30
  have p4 := (cells_of Q1.out).1 4
  simp at p4
  go_wp2
  clear p4 hmm
  go_loopg [9] blocks.length (fun gk i wr => ∃ j : Nat, gk + j = blocks.length ∧ i = .int .i64 j ∧ Hid (SetP wr (w.heap.size + 1) j (InQ j)) ∧ Hid (Below w.heap.size w wr))
  case atStart => exact ⟨0, by omega, rfl, S0.out.congr (fun q => ⟨fun h => h.elim, fun h => by unfold InQ at h; omega⟩), BW.out⟩
  case round =>
    obtain ⟨j, hgk, rfl, hS, bw⟩ := hrel
    by_cases hlt : j < blocks.length
    · have al := (Below.refl wr.heap.size wr).alloc (Nat.le_refl _) (.cells #[.int .i64 (j : Int)] 3)
      have OL := hideP (own_lit wr [(j : Int)] #[.int .i64 (j : Int)] wr.heap.size 1 rfl rfl rfl (by simp))
      have B3 := hideP (below_trans bw.out al)
      have S3 := hideP (hS.out.stays al)
      have CA := hideP (addQ_any S3.out OL.out (show I64 (j : Int) by unfold I64; omega) (by omega))
      have hsz := hS.out.lt
      clear al hS bw OL S3
      go_wp2_with fail
      refine CA.out.mono ?_
      rintro e4 w4 ⟨rfl, s4, b4⟩
      have S4 : Hid (SetP w4 (w.heap.size + 1) (j + 1) (InQ (j + 1))) := s4.congr (fun q => by unfold InQ; constructor <;> intro h <;> omega)
      have B4 : Hid (Below w.heap.size w w4) := B3.out.trans (b4.below (by omega) B3.out.size)
      clear s4 b4 B3 CA
      go_wp2
      go_roundg (blocks.length - (j + 1))
      case rel => exact ⟨j + 1, by omega, by go_num, S4.out, B4.out⟩
      case measure => omega
    · have hjn : j = blocks.length := by omega
      subst hjn
      go_wp2
      go_ret
      exact ⟨_, rfl, by omega, hS.out.up hn, bw.out⟩
set_option maxHeartbeats 4000000 in
set_option maxRecDepth 100000 in
theorem impl_orderOk (g : Gr) (L : List Int) (w : World) (B B2 : Nat) (v : Array Value) (ul : Option Addr) (kl : Nat) (h : GrIs w B v g) (hL : IntsIs w B2 ul L) (hI : ∀ z ∈ L, I64 z) (GO : OkIs 29 g) :
    Calls Try.prog 11 #[.agg v, .slice ul L.length kl] w fun en w' => en = .returned (.bool (ordP g L)) ∧ Below w.heap.size w w' := by
  have hG := hideP h
  obtain ⟨R, hR⟩ : ∃ R, ordP g L = R := ⟨_, rfl⟩
  rw [hR]
  have HR := hideP hR
  clear hR
  obtain ⟨gok, hgok⟩ : ∃ r, grOk g = r := ⟨_, rfl⟩
  have GO1 : Hid (∀ W A v, GrIs W A v g → Calls Try.prog 29 #[.agg v] W fun en w' => en = .returned (.bool gok) ∧ Below W.heap.size W w') := fun W A v hv => hgok ▸ GO W A v hv
  have AB := hideP (allBlocks_any g)
  have HK := hideP hgok
  have HL := hideP hL
  have HI := hideP hI
  have hlL := hL.1
  clear hgok GO hL hI
  obtain ⟨sizes, params, vars, slots, blocks⟩ := g
  obtain ⟨us, cs, ub, cb, rfl, _, _, hb⟩ := h
  simp only at *
  have hm := maxLen_lt
  have hlb := hb.1
  clear hb
  have BW := hideP ((Below.refl w.heap.size w).alloc (Nat.le_refl _) (.cells #[.slice us sizes.length cs, .int .i64 params, .int .i64 vars, .int .i64 slots, .slice ub blocks.length cb] 30))
  have Q1 : (w.alloc (.cells #[.slice us sizes.length cs, .int .i64 params, .int .i64 vars, .int .i64 slots, .slice ub blocks.length cb] 30)).heap[w.heap.size]? = some (.cells #[.slice us sizes.length cs, .int .i64 params, .int .i64 vars, .int .i64 slots, .slice ub blocks.length cb] 30) := by show (w.heap.push _)[w.heap.size]? = _; exact Array.getElem?_push_size
  have HQ := hideP Q1
  clear Q1
  have p4 := (cells_of HQ.out).1 4
  simp at p4
  by_cases hlen : L.length = blocks.length
  case neg =>
    have E : Hid (R = false) := by show _ = _; rw [← HR.out]; unfold ordP; rw [ordL_len hlen]; simp
    have hne : ((L.length : Int) == (blocks.length : Int)) = false := by simpa using (by omega : ¬ (L.length : Int) = (blocks.length : Int))
    go_enter Try.func11, Try.ntmps11
    go_wp2
    go_ret
    exact ⟨ret_bool (by rw [E.out]), BW.out⟩
  case pos =>
    have hle : ((L.length : Int) == (blocks.length : Int)) = true := by simpa using (by omega : (L.length : Int) = (blocks.length : Int))
    go_enter Try.func11, Try.ntmps11
    go_wp2_with fail
    refine (GO1.out _ B _ (GrKeeps.stays hG.out BW.out)).mono ?_
    rintro e1 w1 ⟨rfl, bel1⟩
    have BB := hideP (below_trans BW.out bel1)
    have QQ := hideP ((bel1.block w.heap.size (Array.getElem?_eq_some_iff.1 HQ.out).1).trans HQ.out)
    clear bel1 HQ BW GO1 p4
    cases gok with
    | false =>
      have E : Hid (R = false) := by show _ = _; rw [← HR.out]; unfold ordP; rw [HK.out]; rfl
      go_wp2
      go_ret
      exact ⟨ret_bool (by rw [E.out]), BB.out⟩
    | true =>
      have hbl := grOk_blocks HK.out
      simp only at hbl
      obtain ⟨b, o, rfl, _, hbb, c0⟩ := (HL.out.stays BB.out).get 0 (by omega)
      obtain ⟨z, hz⟩ : ∃ z, L[0]'(by omega) = z := ⟨_, rfl⟩
      rw [hz, Nat.add_zero] at c0
      have HZ : Hid (L[0]? = some z) := by show _ = _; rw [List.getElem?_eq_getElem (by omega), hz]
      have E0 : Hid (R = ordL blocks.length L) := by show _ = _; rw [← HR.out]; unfold ordP; rw [HK.out]; rfl
      clear hz
      by_cases hz0 : z = 0
      case neg =>
        have E : Hid (R = false) := E0.out.trans (ordL_zero (by rw [HZ.out]; simpa using hz0))
        have hzb : (z == 0) = false := by simpa using hz0
        go_wp2
        go_ret
        exact ⟨ret_bool (by rw [E.out]), BB.out⟩
      case pos =>
        subst hz0
        have p0 := (cells_of QQ.out).1 0
        have p1 := (cells_of QQ.out).1 1
        have p2 := (cells_of QQ.out).1 2
        have p3 := (cells_of QQ.out).1 3
        have p4 := (cells_of QQ.out).1 4
        simp at p0 p1 p2 p3 p4
        go_wp2_with fail
        refine (AB.out _ B _ (GrKeeps.stays hG.out BB.out) (by omega)).mono ?_
        rintro e2 w2 ⟨m, rfl, hm2, s2, bel2⟩
        have S2 := hideP s2
        have B2' := hideP (below_trans BB.out bel2)
        have hwm : w.heap.size ≤ m := Nat.le_trans BB.out.size hm2
        clear s2 bel2 c0 p0 p1 p2 p3 p4 AB
        go_wp2
        go_loopg [29] L.length (fun gk i wr => ∃ j : Nat, gk + j = L.length ∧ i = .int .i64 j ∧ Hid (SetP wr m 300 (fun q => InQ blocks.length q ∧ q ∉ L.take j)) ∧ Hid (But m w2 wr))
        case atStart => exact ⟨0, by omega, rfl, S2.out.congr (fun q => by simp), But.refl _ _⟩
        case round =>
          obtain ⟨j, hgk, rfl, hS, hB⟩ := hrel
          by_cases hlt : j < L.length
          · have H2 := HL.out.stays B2'.out
            obtain ⟨b', o', he, _, hbb', c1⟩ := H2.get j hlt
            cases he
            have hbm : b ≠ m := by
              have h1 := BB.out.size
              omega
            have c2 := (hB.out.cell hbb' hbm).trans c1
            obtain ⟨y, hy⟩ : ∃ y, L[j] = y := ⟨_, rfl⟩
            have HI6 : Hid (I64 y) := by show I64 _; rw [← hy]; exact HI.out _ (List.getElem_mem hlt)
            rw [hy] at c2
            have TK : Hid (L.take (j + 1) = L.take j ++ [y]) := by show _ = _; rw [List.take_succ_eq_append_getElem hlt, hy]
            clear c1 H2 hy hbb'
            go_wp2_with (at_delete; refine sq_del _ rfl _ _ 48 rfl Try.underlying48 m 300 _ y rfl rfl hS.out HI6.out ?_; intro w6 s6 b6)
            have S6 : Hid (SetP w6 m 300 (fun q => InQ blocks.length q ∧ q ∉ L.take (j + 1))) := s6.congr (fun q => by rw [TK.out]; simp [and_assoc])
            have B6 := hideP (hB.out.twice b6)
            clear s6 b6 hS hB c2
            go_wp2
            go_roundg (L.length - (j + 1))
            case rel => exact ⟨j + 1, by omega, by go_num, S6.out, B6.out⟩
            case measure => omega
          · have hjn : j = L.length := by omega
            subst hjn
            have BE : Hid (Below w.heap.size w wr) := B2'.out.trans (hB.out.below hwm B2'.out.size)
            go_wp2_with (at_len; refine sq_len _ rfl _ 48 rfl Try.underlying48 m 300 _ rfl hS.out ?_; intro k hk)
            have EE : Hid (R = decide (k = 0)) := E0.out.trans (ordL_of hlen HZ.out _ (by
              rw [decide_eq_true_iff, hk, List.take_length]
              constructor
              · intro hq i hi
                by_cases hm : (i : Int) ∈ L
                · exact hm
                · exact absurd ⟨⟨by omega, by omega⟩, hm⟩ (hq i)
              · rintro hc q ⟨hq, hnq⟩
                apply hnq
                have := hc q.toNat (by have := hq.1; have := hq.2; omega)
                rwa [show ((q.toNat : Nat) : Int) = q by have := hq.1; omega] at this))
            clear hk
            go_wp2
            go_ret
            refine ⟨ret_bool ?_, BE.out⟩
            rw [EE.out]
            first | (simp; done) | (simp; omega) | (apply decide_eq_decide.2; omega)
end Go.Proofs.YtobpcfelgobedaaR
