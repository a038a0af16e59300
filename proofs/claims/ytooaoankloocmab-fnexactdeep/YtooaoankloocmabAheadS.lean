/- The contract of spec.Ahead. -/
import Derived.Test.YtooaoankloocmabAheadP
import Derived.Test.YtooaoankloocmabAddO
import Derived.Test.YtooaoankloocmabNxA
namespace Go.Proofs.Ytooaoankloocmab
open Go.ChangeShapes Go.WideShapes Go.ChangeAt Go.RowKit
theorem ahead_no {g : Gr} {n : Int} (h : ¬ (grOk g = true ∧ 0 ≤ n ∧ n < (g.blocks.length : Nat))) : aheadP g n = [] := if_neg h
/-- What the inner loop has made behind k of the blocks that block j goes to. -/
def inUp (xs : List Blk) (n : Int) (j : Nat) (next : List Int) (k : Nat) : List Int := if n ∈ next.take k then aheadUp xs n j ++ [(j : Int)] else aheadUp xs n j
theorem inUp_step {xs : List Blk} {n : Int} {j : Nat} {next : List Int} {k : Nat} (h : k < next.length) (he : next[k] = n) : addTo (inUp xs n j next k) (j : Int) = inUp xs n j next (k + 1) := by
  have hm : n ∈ next.take (k + 1) := by rw [List.take_succ_eq_append_getElem h, he]; simp
  unfold inUp
  rw [if_pos hm]
  split
  · exact add_same _ _ (aheadUp_lt xs n j)
  · exact add_new _ _ (aheadUp_lt xs n j)
theorem inUp_not {xs : List Blk} {n : Int} {j : Nat} {next : List Int} {k : Nat} (h : k < next.length) (he : ¬ next[k] = n) : inUp xs n j next (k + 1) = inUp xs n j next k := by
  have hm : n ∈ next.take (k + 1) ↔ n ∈ next.take k := by
    rw [List.take_succ_eq_append_getElem h, List.mem_append, List.mem_singleton]
    exact ⟨fun hh => hh.resolve_right (fun e => he e.symm), Or.inl⟩
  simp only [inUp, hm]
theorem inUp_end {xs : List Blk} {n : Int} {j : Nat} (h : j < xs.length) : inUp xs n j (nextP xs[j]) (nextP xs[j]).length = aheadUp xs n (j + 1) := by
  unfold inUp
  rw [List.take_length]
  show _ = if goesTo xs n j = true then _ else _
  rw [goesTo_at h]
  simp
theorem inUp_len (xs : List Blk) (n : Int) (j : Nat) (next : List Int) (k : Nat) : (inUp xs n j next k).length ≤ j + 1 := by
  have := aheadUp_len xs n j
  unfold inUp
  split
  · rw [List.length_append]; simp; omega
  · omega
set_option maxHeartbeats 4000000 in
set_option maxRecDepth 100000 in
theorem spec_ahead (g : Gr) (n : Int) (w : World) (B : Nat) (v : Array Value) (h : GrIs w B v g) (GO : OkIs 18 g) :
    Calls Try.prog 44 #[.agg v, .int .i64 n] w fun en w' => ∃ v', en = .returned v' ∧ OwnI w' w.heap.size v' (aheadP g n) ∧ Below w.heap.size w w' := by
  have hG := hideP h
  have HGO := hideP GO
  clear GO
  obtain ⟨sizes, params, vars, slots, blocks⟩ := g
  obtain ⟨us, cs, ub, cb, rfl, _, _, hb⟩ := h
  simp only at *
  have hm := maxLen_lt
  have hlb := hb.1
  have HB := hideP hb
  clear hb
  obtain ⟨R, hR⟩ : ∃ R, aheadP ⟨sizes, params, vars, slots, blocks⟩ n = R := ⟨_, rfl⟩
  rw [hR]
  have HR := hideP hR
  clear hR
  obtain ⟨gok, hgok⟩ : ∃ r, grOk ⟨sizes, params, vars, slots, blocks⟩ = r := ⟨_, rfl⟩
  have GO1 : Hid (∀ W A v, GrIs W A v ⟨sizes, params, vars, slots, blocks⟩ → Calls Try.prog 18 #[.agg v] W fun en w' => en = .returned (.bool gok) ∧ Below W.heap.size W w') := fun W A v hv => hgok ▸ HGO.out W A v hv
  have HK := hideP hgok
  clear hgok HGO
  have Q1 := hideP (two (Below.refl ((w.alloc (.cells #[.slice us sizes.length cs, .int .i64 params, .int .i64 vars, .int .i64 slots, .slice ub blocks.length cb] 30)).alloc (.cells #[] 3)).heap.size _)).1
  have O1 := hideP (own_lit2 w (.cells #[.slice us sizes.length cs, .int .i64 params, .int .i64 vars, .int .i64 slots, .slice ub blocks.length cb] 30) [] #[] (w.heap.size + 1) 0 rfl rfl rfl (by simp))
  have BW := hideP (below2 w (.cells #[.slice us sizes.length cs, .int .i64 params, .int .i64 vars, .int .i64 slots, .slice ub blocks.length cb] 30) (.cells #[] 3))
  cases gok with
  | false =>
    go_enter Try.func44, Try.ntmps44
    go_wp2_with fail
    refine (GO1.out _ B _ (GrKeeps.stays hG.out BW.out)).mono ?_
    rintro e1 w1 ⟨rfl, bel1⟩
    have E : Hid (R = []) := by rw [← HR.out]; exact ahead_no (by simp [HK.out])
    have OO := hideP (O1.out.stays bel1)
    have BB := hideP (below_trans BW.out bel1)
    clear bel1
    go_wp2
    go_ret
    exact ⟨_, rfl, by rw [E.out]; exact OO.out, BB.out⟩
  | true =>
    have hbl := grOk_blocks HK.out
    simp only at hbl
    go_enter Try.func44, Try.ntmps44
    go_wp2_with fail
    refine (GO1.out _ B _ (GrKeeps.stays hG.out BW.out)).mono ?_
    rintro e1 w1 ⟨rfl, bel1⟩
    have OO := hideP (O1.out.stays bel1)
    have BB := hideP (below_trans BW.out bel1)
    have QQ := hideP ((bel1.block w.heap.size (Array.getElem?_eq_some_iff.1 Q1.out).1).trans Q1.out)
    have p4 := (cells_of QQ.out).1 4
    simp at p4
    clear bel1 O1 Q1 BW GO1
    by_cases hn : 0 ≤ n ∧ n < (blocks.length : Nat)
    · obtain ⟨n1, n2⟩ := hn
      have ER : Hid (R = aheadUp blocks n blocks.length) := by rw [← HR.out]; exact if_pos ⟨HK.out, n1, n2⟩
      go_wp2_with (go_at_call 41; refine (l01In_any _ _ _ _).mono ?_; rintro y1 w2 ⟨rfl, hw1⟩; have hw2 := hw1.symm; clear hw1; subst hw2; rw [show inB n 0 ((blocks.length : Int) - 1) = true by simp [inB]; omega])
      clear p4
      go_loopw [5, 6] (fun o i wr => ∃ j : Nat, j ≤ blocks.length ∧ i = .int .i64 j ∧ Hid (OwnI wr w.heap.size o (aheadUp blocks n j)) ∧ Hid (Below w1.heap.size w1 wr)) (fun _ i _ => blocks.length - (intOf i).toNat)
      case atStart => exact ⟨0, Nat.zero_le _, rfl, OO.out, Below.refl _ _⟩
      case round =>
        obtain ⟨j, hj, rfl, ho, hbr⟩ := hrel
        have r1 := (hbr.out.block _ (Array.getElem?_eq_some_iff.1 QQ.out).1).trans QQ.out
        have p4 := (cells_of r1).1 4
        simp at p4
        have bw := hideP (below_trans BB.out hbr.out)
        by_cases hlt : j < blocks.length
        · obtain ⟨b, o, x0, x1, x2, x3, x4, ux, kx, rfl, _, hbb, hx, q0, q1, q2, q3, q4, hbX⟩ := Blk_get (HB.out.stays BlkKeeps bw.out) j hlt
          have HX := hideP hbX
          have HE := hideP hx
          clear hbX hx
          go_wp2_with fail
          refine (spec_l05Next _ _ B _ HX.out).mono ?_
          rintro e2 w2 ⟨v2, rfl, o2, bel2⟩
          obtain ⟨g2, c2, rfl, _⟩ := id o2
          have NX : Hid (nextP ⟨x0, x1, x2, x3, x4⟩ = nextP blocks[j]) := by rw [HE.out]; rfl
          obtain ⟨L, hL⟩ : ∃ L, nextP ⟨x0, x1, x2, x3, x4⟩ = L := ⟨_, rfl⟩
          rw [hL] at o2 NX ⊢
          have N2 := hideP o2.is.2.sees
          have hL2 : L.length ≤ 2 := by rw [← hL]; exact nextP_len _
          have OA := hideP (ho.out.stays bel2)
          have BA := hideP (below_trans hbr.out bel2)
          clear o2 hL bel2 q0 q1 q2 q3 q4 p4 r1 HX
          go_wp2
          go_loopw [5, 8] (fun q i wr2 => ∃ k : Nat, k ≤ L.length ∧ i = .int .i64 k ∧ Hid (OwnI wr2 w.heap.size q (inUp blocks n j L k)) ∧ Hid (Below w2.heap.size w2 wr2)) (fun _ i _ => L.length - (intOf i).toNat)
          case atStart => exact ⟨0, Nat.zero_le _, rfl, (show inUp blocks n j L 0 = aheadUp blocks n j by simp [inUp]) ▸ OA.out, Below.refl _ _⟩
          case round =>
            obtain ⟨k, hk, rfl, hq, hbq⟩ := hrel
            by_cases hkl : k < L.length
            · obtain ⟨b', o', he, hc⟩ := N2.out.get k hkl
              cases he
              obtain ⟨z, hz⟩ : ∃ z, L[k] = z := ⟨_, rfl⟩
              rw [hz] at hc
              have hc' := (hbq.out.cell (p := ⟨g2, 0 + k, none⟩) (World.block_lt_of_cell? w2 _ hc)).trans hc
              rw [Nat.zero_add] at hc'
              clear hc
              by_cases hzn : z = n
              · have ST := hideP (inUp_step (xs := blocks) (n := n) (j := j) hkl (hz.trans hzn))
                have hle := inUp_len blocks n j L k
                clear hz
                go_wp2_with fail
                refine (l02Add_own _ _ _ _ _ hq.out (by omega) (by have := BB.out.size; have := BA.out.size; have := hbq.out.size; omega)).mono ?_
                rintro e3 w3 ⟨v3, rfl, o3, bel3⟩
                rw [ST.out] at o3
                have O3 := hideP o3
                have B3 := hideP (below_trans hbq.out bel3)
                clear o3 bel3 hc'
                go_wp2
                go_roundw
                case rel => exact ⟨k + 1, by omega, by go_num, O3.out, B3.out⟩
                case measure => simp [intOf]; omega
              · have ST := hideP (inUp_not (xs := blocks) (n := n) (j := j) hkl (by rw [hz]; exact hzn))
                clear hz
                go_wp2
                go_roundw
                case rel => exact ⟨k + 1, by omega, by go_num, by rw [ST.out]; exact hq.out, hbq.out⟩
                case measure => simp [intOf]; omega
            · have hkn : k = L.length := by omega
              subst hkn
              have EN := hideP (inUp_end (n := n) hlt)
              go_wp2
              go_roundw
              case rel => exact ⟨j + 1, by omega, by go_num, by have := hq.out; rw [NX.out] at this; rw [EN.out] at this; exact this, below_trans BA.out hbq.out⟩
              case measure => simp [intOf]; omega
        · have hjn : j = blocks.length := by omega
          subst hjn
          go_wp2
          go_ret
          exact ⟨_, rfl, by rw [ER.out]; exact ho.out, bw.out⟩
    · have E : Hid (R = []) := by rw [← HR.out]; exact ahead_no (fun hh => hn hh.2)
      go_wp2_with (go_at_call 41; refine (l01In_any _ _ _ _).mono ?_; rintro y1 w2 ⟨rfl, hw1⟩; have hw2 := hw1.symm; clear hw1; subst hw2; rw [show inB n 0 ((blocks.length : Int) - 1) = false by simp [inB]; omega])
      go_ret
      exact ⟨_, rfl, by rw [E.out]; exact OO.out, BB.out⟩
end Go.Proofs.Ytooaoankloocmab
