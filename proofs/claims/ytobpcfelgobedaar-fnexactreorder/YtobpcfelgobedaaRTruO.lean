/- Rows of truths in a block of their own. -/
import Derived.Test.YtobpcfelgobedaaRSl
import Derived.Test.YtobpcfelgobedaaRPlR
import Derived.Test.YtobpcfelgobedaaRHas
import Derived.Deep.LoopGhost
namespace Go.Proofs.YtobpcfelgobedaaR
open Go.ChangeShapes Go.WideShapes Go.ChangeAt Go.RowKit
/-- Block g is a row of truths, the first n as f says. -/
def TruIs (w : World) (g n : Nat) (f : Nat → Bool) : Prop := ∃ cur : Array Value, w.heap[g]? = some (.cells cur 4 (0, 0)) ∧ n ≤ cur.size ∧ ∀ i, i < n → cur[i]? = some (.bool (f i))
section
variable {w w' : World} {g n : Nat} {f f' : Nat → Bool}
theorem TruIs.lt (h : TruIs w g n f) : g < w.heap.size := let ⟨_, h1, _⟩ := h; (Array.getElem?_eq_some_iff.1 h1).1
theorem TruIs.keep (h : TruIs w g n f) (hk : w'.heap[g]? = w.heap[g]?) : TruIs w' g n f := let ⟨c, h1, h2⟩ := h; ⟨c, hk.trans h1, h2⟩
theorem TruIs.stays (h : TruIs w g n f) (b : Below w.heap.size w w') : TruIs w' g n f := h.keep (b.block _ h.lt)
theorem TruIs.congr (h : TruIs w g n f) (e : ∀ i, i < n → f i = f' i) : TruIs w g n f' := let ⟨c, h1, h2, h3⟩ := h; ⟨c, h1, h2, fun i hi => by rw [← e i hi]; exact h3 i hi⟩
theorem TruIs.at (h : TruIs w g n f) {i : Nat} (hi : i < n) : w.cell? ⟨g, i, none⟩ = some (.bool (f i)) ∧ w.frozen? ⟨g, i, none⟩ = false := by
  obtain ⟨cur, hh, _, hc⟩ := h
  exact ⟨by simp [World.cell?, hh, hc i hi], by simp [World.frozen?, hh]⟩
theorem TruIs.set (h : TruIs w g n f) {i : Nat} (hi : i < n) {b : Bool} (e : ∀ j, j < n → f' j = if j = i then b else f j) : TruIs (w.setCell ⟨g, i, none⟩ (.bool b)) g n f' := by
  obtain ⟨cur, hh, hs, hc⟩ := h
  refine ⟨_, heap_setCell_same w g i cur _ _ hh, by simpa using hs, fun j hj => ?_⟩
  rw [Array.getElem?_setIfInBounds, e j hj]
  by_cases he : i = j
  · subst he; rw [if_pos rfl, if_pos (by omega), if_pos rfl]
  · rw [if_neg he, hc j hj, if_neg (fun e => he e.symm)]
end
theorem infoTr : (Try.prog.info? 4).map (fun i => (i.zero, i.size, i.bytes)) = some (some (.bool false), 1, 1) := by kernel_rfl
theorem make_tru (V : Nat) (hV : V ≤ 1000) (W : World) : (Instr.makeSlice 44 (.int .i64 (V : Int)) (.int .i64 (V : Int))).run Try.prog W = .ok (.slice (some ⟨W.heap.size, 0, none⟩) V V) (W.alloc (.cells (madeCells #[.bool false] V) 4)) := by
  have := make_n (P := Try.prog) Try.underlying44 infoTr V (by omega) (by omega) W
  rw [Nat.mul_one] at this
  exact this
theorem made_tru (w : World) (n : Nat) : TruIs (w.alloc (.cells (madeCells #[.bool false] n) 4)) w.heap.size n (fun _ => false) :=
  ⟨_, by show (w.heap.push _)[w.heap.size]? = _; exact Array.getElem?_push_size, by rw [size_madeCells]; exact Nat.le_refl _, fun s hs => by simp [madeCells, hs, Nat.mod_one]⟩
end Go.Proofs.YtobpcfelgobedaaR

/- The contract of spec.OrderOk. -/
namespace Go.Proofs.YtobpcfelgobedaaR
open Go.ChangeShapes Go.WideShapes Go.ChangeAt Go.RowKit
set_option maxHeartbeats 4000000 in
set_option maxRecDepth 100000 in
theorem spec_orderOk (g : Gr) (L : List Int) (w : World) (B B2 : Nat) (v : Array Value) (ul : Option Addr) (kl : Nat) (h : GrIs w B v g) (hL : IntsIs w B2 ul L) (GO : OkIs 26 g) :
    Calls Try.prog 8 #[.agg v, .slice ul L.length kl] w fun en w' => en = .returned (.bool (ordP g L)) ∧ Below w.heap.size w w' := by
  have hG := hideP h
  obtain ⟨R, hR⟩ : ∃ R, ordP g L = R := ⟨_, rfl⟩
  rw [hR]
  have HR := hideP hR
  clear hR
  obtain ⟨gok, hgok⟩ : ∃ r, grOk g = r := ⟨_, rfl⟩
  have GO1 : Hid (∀ W A v, GrIs W A v g → Calls Try.prog 26 #[.agg v] W fun en w' => en = .returned (.bool gok) ∧ Below W.heap.size W w') := fun W A v hv => hgok ▸ GO W A v hv
  have HK := hideP hgok
  have HL := hideP hL
  have hlL := hL.1
  clear hgok GO hL
  obtain ⟨sizes, params, vars, slots, blocks⟩ := g
  obtain ⟨us, cs, ub, cb, rfl, _, _, hb⟩ := h
  simp only at *
  have hm := maxLen_lt
  have hlb := hb.1
  clear hb
  have BW := hideP ((Below.refl w.heap.size w).alloc (Nat.le_refl _) (.cells #[.slice us sizes.length cs, .int .i64 params, .int .i64 vars, .int .i64 slots, .slice ub blocks.length cb] 30))
  have Q1 : (w.alloc (.cells #[.slice us sizes.length cs, .int .i64 params, .int .i64 vars, .int .i64 slots, .slice ub blocks.length cb] 30)).heap[w.heap.size]? = some (.cells #[.slice us sizes.length cs, .int .i64 params, .int .i64 vars, .int .i64 slots, .slice ub blocks.length cb] 30) := by show (w.heap.push _)[w.heap.size]? = _; exact Array.getElem?_push_size
  have HQ := hideP Q1
  clear Q1
  go_enter Try.func8, Try.ntmps8
  go_wp2_with fail
  refine (GO1.out _ B _ (GrKeeps.stays hG.out BW.out)).mono ?_
  rintro e1 w1 ⟨rfl, bel1⟩
  have BB := hideP (below_trans BW.out bel1)
  have QQ := hideP ((bel1.block w.heap.size (Array.getElem?_eq_some_iff.1 HQ.out).1).trans HQ.out)
  clear bel1 HQ BW GO1
  cases gok with
  | false =>
    have E : Hid (R = false) := by show _ = _; rw [← HR.out]; unfold ordP; rw [HK.out]; rfl
    go_wp2
    go_ret
    exact ⟨ret_bool (by rw [E.out]), BB.out⟩
  | true =>
    have hbl := grOk_blocks HK.out
    simp only at hbl
    have p4 := (cells_of QQ.out).1 4
    simp at p4
    by_cases hlen : L.length = blocks.length
    case neg =>
      have E : Hid (R = false) := by show _ = _; rw [← HR.out]; unfold ordP; rw [ordL_len hlen]; simp
      have hne : ((L.length : Int) == (blocks.length : Int)) = false := by simpa using (by omega : ¬ (L.length : Int) = (blocks.length : Int))
      go_wp2
      go_ret
      exact ⟨ret_bool (by rw [E.out]), BB.out⟩
    case pos =>
      have hle : ((L.length : Int) == (blocks.length : Int)) = true := by simpa using (by omega : (L.length : Int) = (blocks.length : Int))
      obtain ⟨b, o, rfl, _, hbb, c0⟩ := (HL.out.stays BB.out).get 0 (by omega)
      obtain ⟨z, hz⟩ : ∃ z, L[0]'(by omega) = z := ⟨_, rfl⟩
      rw [hz, Nat.add_zero] at c0
      have HZ : Hid (L[0]? = some z) := by show _ = _; rw [List.getElem?_eq_getElem (by omega), hz]
      have E0 : Hid (R = ordL blocks.length L) := by show _ = _; rw [← HR.out]; unfold ordP; rw [HK.out]; rfl
      clear hz
      by_cases hz0 : z = 0
      case neg =>
        have E : Hid (R = false) := E0.out.trans (ordL_zero (by rw [HZ.out]; simpa using hz0))
        have hzb : (z == 0) = false := by simpa using hz0
        go_wp2
        go_ret
        exact ⟨ret_bool (by rw [E.out]), BB.out⟩
      case pos =>
        subst hz0
        obtain ⟨N, hN⟩ : ∃ N, blocks.length = N := ⟨_, rfl⟩
        have HLN : Hid (L.length = N) := hlen.trans hN
        have hN1 : N ≤ 300 := by omega
        have hN0 : 1 ≤ N := by omega
        have hmk := make_tru N (by omega)
        have S0 := hideP (made_tru w1 N)
        have B1 := hideP (BB.out.alloc BB.out.size (.cells (madeCells #[.bool false] N) 4))
        rw [hlen, hN] at hle ⊢
        rw [hN] at p4 E0
        clear hlen hlb hbl hN
        go_wp2
        clear hmk
        go_loopg [6] N (fun gk i wr => ∃ j : Nat, gk + j = N ∧ i = .int .i64 j ∧ Hid (TruIs wr w1.heap.size N (fun k => decide ((k : Int) ∈ L.take j))) ∧ Hid (Below w1.heap.size w1 wr) ∧ Hid ((∀ y ∈ L.take j, InQ N y) ∧ (L.take j).Nodup))
        case atStart => exact ⟨0, by omega, rfl, S0.out.congr (fun i _ => by simp), (Below.refl _ _).alloc (Nat.le_refl _) _, by simp, by simp⟩
        case round =>
          obtain ⟨j, hgk, rfl, hS, hB, hU⟩ := hrel
          by_cases hlt : j < N
          · have hjL : j < L.length := by rw [HLN.out]; exact hlt
            obtain ⟨b', o', he, _, hbb', c1⟩ := ((HL.out.stays BB.out).stays hB.out).get j hjL
            cases he
            obtain ⟨y, hy⟩ : ∃ y, L[j] = y := ⟨_, rfl⟩
            rw [hy] at c1
            have TK : Hid (L.take (j + 1) = L.take j ++ [y]) := by show _ = _; rw [List.take_succ_eq_append_getElem hjL, hy]
            have BAD : Hid (¬ InQ N y ∨ y ∈ L.take j → R = false) := fun h => by
              rw [E0.out]
              refine ordL_of HLN.out HZ.out false ⟨fun h2 => absurd h2 (by decide), fun hc => absurd hc (cover_bad HLN.out hjL (by rw [hy]; exact h))⟩
            have BE := hideP (below_trans BB.out hB.out)
            clear hy hbb'
            by_cases hin : InQ N y
            case neg =>
              have hib : inB y 0 ((N : Int) - 1) = false := by unfold inB; unfold InQ at hin; simp; omega
              have E := hideP (BAD.out (Or.inl hin))
              clear hin BAD
              go_wp2_with (go_at_call 27; refine (l01In_any _ _ _ _).mono ?_; rintro y1 w2 ⟨rfl, hw1⟩; have hw2 := hw1.symm; clear hw1; subst hw2; rw [hib])
              go_ret
              exact ⟨ret_bool (by rw [E.out]), BE.out⟩
            case pos =>
              have hib : inB y 0 ((N : Int) - 1) = true := by unfold inB; unfold InQ at hin; simp; omega
              obtain ⟨k, rfl⟩ : ∃ k : Nat, y = (k : Int) := ⟨y.toNat, by have := hin.1; omega⟩
              have hkN : k < N := by have := hin.2; omega
              obtain ⟨t0, tf⟩ := hS.out.at hkN
              by_cases hmem : (k : Int) ∈ L.take j
              · have E := hideP (BAD.out (Or.inr hmem))
                rw [decide_eq_true hmem] at t0
                clear hmem hin BAD
                go_wp2_with (go_at_call 27; refine (l01In_any _ _ _ _).mono ?_; rintro y1 w2 ⟨rfl, hw1⟩; have hw2 := hw1.symm; clear hw1; subst hw2; rw [hib])
                go_ret
                exact ⟨ret_bool (by rw [E.out]), BE.out⟩
              · rw [decide_eq_false hmem] at t0
                have S1 : Hid (TruIs (wr.setCell ⟨w1.heap.size, k, none⟩ (.bool true)) w1.heap.size N (fun q => decide ((q : Int) ∈ L.take (j + 1)))) := hS.out.set hkN (fun q _ => by
                  simp only [TK.out, List.mem_append, List.mem_singleton]
                  by_cases hq : q = k
                  · subst hq; simp
                  · have : ¬ (q : Int) = (k : Int) := by omega
                    simp [hq, this])
                have U1 : Hid ((∀ y ∈ L.take (j + 1), InQ N y) ∧ (L.take (j + 1)).Nodup) := by
                  show _ ∧ _
                  rw [TK.out]
                  refine ⟨fun q hq => ?_, List.nodup_append.2 ⟨hU.out.2, by simp, fun a ha c hc => ?_⟩⟩
                  · rcases List.mem_append.1 hq with hq | hq
                    · exact hU.out.1 q hq
                    · rw [List.mem_singleton.1 hq]; exact hin
                  · rw [List.mem_singleton.1 hc]; exact fun e => hmem (e ▸ ha)
                have BS := hideP (hB.out.setCell (p := ⟨w1.heap.size, k, none⟩) (Nat.le_refl _) (.bool true))
                clear hmem hin BAD hS hU hB TK
                go_wp2_with (go_at_call 27; refine (l01In_any _ _ _ _).mono ?_; rintro y1 w2 ⟨rfl, hw1⟩; have hw2 := hw1.symm; clear hw1; subst hw2; rw [hib])
                go_roundg (N - (j + 1))
                case rel => exact ⟨j + 1, by omega, by go_num, S1.out, BS.out, U1.out⟩
                case measure => omega
          · have hjn : j = N := by omega
            subst hjn
            have E : Hid (R = true) := by
              show _ = _
              rw [E0.out]
              have hU2 := hU.out
              rw [← HLN.out, List.take_length] at hU2
              exact ordL_of HLN.out HZ.out true ⟨fun _ => by rw [← HLN.out]; exact cover_good rfl hU2.2 hU2.1, fun _ => rfl⟩
            have BE := hideP (below_trans BB.out hB.out)
            go_wp2
            go_ret
            exact ⟨ret_bool (by rw [E.out]), BE.out⟩
end Go.Proofs.YtobpcfelgobedaaR
