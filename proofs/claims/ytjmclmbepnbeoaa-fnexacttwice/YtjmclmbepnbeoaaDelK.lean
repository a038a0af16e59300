/- The contract of slices.DeleteFunc of steps that name a slot (the closure of impl.reckoningOnce). -/
import Derived.Test.YtjmclmbepnbeoaaDelJ
import Derived.Test.YtjmclmbepnbeoaaOwnA
namespace Go.Proofs.Ytjmclmbepnbeoaa
open Go.ChangeShapes Go.WideShapes Go.ChangeAt Go.RowKit
theorem info_zero {t : TypeId} {z : Value} {sz by' : Nat} (h : (Try.prog.info? t).map (fun i => (i.zero, i.size, i.bytes)) = some (some z, sz, by')) (w : World) : (zeroValue t).run Try.prog w = .ok z w := by
  obtain ⟨i, hi, hz, _, _⟩ := info_parts h
  simp [zeroValue, typeInfo, hi, hz]
theorem zeroCells_len (z : Array Value) (n : Nat) : (Builtin.zeroCells z n).toList.length = n * z.size := by simp [Builtin.zeroCells]
/-- clear of the end of a row of steps: what stands ahead stays. -/
theorem run_clearE (w : World) (ty : TypeId) {g p k c : Nat} {cur : Array Value} (hk : 0 < k) (hh : w.heap[g]? = some (.cells cur 48 (0, 0))) (hfit : p + k * 7 ≤ cur.size) :
    ∃ w', (Builtin.clear_ #[42] ty #[.slice (some ⟨g, p, none⟩) k c]).run Try.prog w = .ok (.tuple #[]) w' ∧ (∃ cur', w'.heap[g]? = some (.cells cur' 48 (0, 0)) ∧ cur'.size = cur.size ∧ ∀ q, q < p → cur'[q]? = cur[q]?) ∧ But g w w' := by
  have hz := info_zero InOk.info
  have hl : (Builtin.zeroCells InE.z.cells k).toList.length = k * 7 := by rw [zeroCells_len]; rfl
  obtain ⟨l, hl0⟩ : ∃ l, (Builtin.zeroCells InE.z.cells k).toList = l := ⟨_, rfl⟩
  have h1 : ∀ v ∈ l, v.oneCell' = true := fun v hv => by
    rw [← hl0] at hv
    simp only [Builtin.zeroCells, Array.toList_map, List.mem_map] at hv
    obtain ⟨i, _, rfl⟩ := hv
    have : i % 7 < 7 := Nat.mod_lt _ (by omega)
    show (InE.z.cells[i % 7]!).oneCell' = true
    match i % 7, this with
    | 0, _ | 1, _ | 2, _ | 3, _ | 4, _ | 5, _ | 6, _ => rfl
  rw [hl0] at hl
  have hst := run_storeCells_at Try.prog g p 48 l 0 cur w hh (by omega) h1
  obtain ⟨m, rfl⟩ : ∃ m, k = m + 1 := ⟨k - 1, by omega⟩
  obtain ⟨cu, hcu⟩ : ∃ cu, (cur.toList.take (p + 0) ++ l ++ cur.toList.drop (p + 0 + l.length)).toArray = cu := ⟨_, rfl⟩
  rw [hcu] at hst
  refine ⟨w.setRow g cu, ?_, ⟨cu, setRow_heap w g cur _ _ _ hh, ?_, fun q hq => ?_⟩, ⟨rfl, rfl, rfl, by simp, fun k' _ hne => setRow_other w g k' _ hne⟩⟩
  · have hu : (underlying 42).run Try.prog w = .ok (.slice 48) w := run_underlying Try.underlying42 w
    have hz2 : ∀ w, (zeroValue 48).run Try.prog w = .ok InE.z w := hz
    simp [Builtin.clear_, hu, hz2, hl0, hst]
  · rw [← hcu]
    simp
    omega
  · rw [← hcu]
    simp only [Nat.add_zero, List.getElem?_toArray, List.append_assoc]
    rw [List.getElem?_append_left (by simp; omega), List.getElem?_take_of_lt hq]
    simp
theorem list_clearE {ops : Array Oper} {o : Oper} {a : Act} {Q : Exit → Act → World → Prop} {rest : List Oper} (w : World) (hgd : o.guard = none) (m : Operand) (hop : o.op = Op.call { callee := Callee.builtin Builtin.clear, args := #[m], argTypes := #[42] })
    (g p k c : Nat) (cur : Array Value) (hm : a.eval m = .slice (some ⟨g, p, none⟩) k c) (hk : 0 < k) (hh : w.heap[g]? = some (.cells cur 48 (0, 0))) (hfit : p + k * 7 ≤ cur.size)
    (hK : ∀ w', (∃ cur', w'.heap[g]? = some (.cells cur' 48 (0, 0)) ∧ cur'.size = cur.size ∧ ∀ q, q < p → cur'[q]? = cur[q]?) → But g w w' → wpList Try.prog ops Q rest (a.put o.dst (.tuple #[])) w') :
    wpList Try.prog ops Q (o :: rest) a w := by
  refine wpList_plain hgd fun K' hK' => ?_
  obtain ⟨w', hrun, r1, r2⟩ := run_clearE w o.type (c := c) hk hh hfit
  unfold Oper.wp
  simp [execOp, hop, resolve, invoke, builtin, hm, hrun, Result.andThen]
  exact hK' _ _ (hK w' r1 r2)
/-- One step of a list that a call owns is written whole. -/
theorem own_set7 {w : World} {B g n cap : Nat} {M : List Ins} (h : OwnE InE w B (.slice (some ⟨g, 0, none⟩) n cap) M) {i : Nat} (hi : i < M.length) (y : Ins) : OwnE InE (sets g w (i * 7) (InE.cs y)) B (.slice (some ⟨g, 0, none⟩) n cap) (M.set i y) ∧ But g w (sets g w (i * 7) (InE.cs y)) := by
  refine ⟨?_, sets_but _ _ _ (But.refl g w)⟩
  obtain ⟨g', cap', cur, hv, hB, hh, hc, hm, hs, hx⟩ := h.parts InOk
  cases hv
  rw [show InE.sz = 7 from rfl] at hs hx
  have hlen : (M.set i y).length = M.length := List.length_set
  have h7 : (InE.cs y).length = 7 := rfl
  have hmi := mul_stepE i M.length 7 hi
  have := OwnE.of_parts InOk (l := M.set i y) hB (sets_heap (InE.cs y) w (i * 7) cur hh) (by rw [hlen]; exact hc) hm (by rw [setsA_size]; exact hs) (fun k hk r hr => by
    rw [hlen] at hk
    rw [show InE.sz = 7 from rfl] at hr ⊢
    have hmk := mul_stepE k M.length 7 hk
    by_cases e : i = k
    · subst e
      rw [setsA_in _ _ _ _ (by omega) (by omega)]
      simp
    · rw [setsA_out _ _ _ _ (by omega), List.getElem_set_ne e]
      exact hx k hk r hr)
  rw [hlen] at this
  exact this
/-- Those that are kept of the first j. -/
def kpN (L : List Ins) (s : Int) (j : Nat) : List Ins := (L.take j).filter (fun y => !decide (NmP y s))
theorem kpN_at {L : List Ins} {s : Int} {j : Nat} (h : j < L.length) : kpN L s (j + 1) = kpN L s j ++ (if NmP L[j] s then [] else [L[j]]) := by
  unfold kpN
  rw [List.take_succ_eq_append_getElem h, List.filter_append, List.filter_cons]
  by_cases c : NmP L[j] s
  · simp [c]
  · simp [c]
theorem kpN_few (L : List Ins) (s : Int) (j : Nat) : (kpN L s j).length ≤ j := by
  unfold kpN
  refine Nat.le_trans (List.length_filter_le _ _) ?_
  rw [List.length_take]; omega
theorem kpN_none {L : List Ins} {s : Int} {k : Nat} (hk : k ≤ L.length) (h : ∀ j (hj : j < L.length), j < k → ¬ NmP L[j] s) : kpN L s k = L.take k := by
  unfold kpN
  refine List.filter_eq_self.2 (fun y hy => ?_)
  obtain ⟨j, hj, rfl⟩ := List.getElem_of_mem hy
  rw [List.length_take] at hj
  rw [List.getElem_take]
  simp [h j (by omega) (by omega)]
/-- How far the deletion has come. -/
structure DfAt (w : World) (B g N cap : Nat) (L : List Ins) (s : Int) (j : Nat) (M : List Ins) (W : World) : Prop where
  own : OwnE InE W B (.slice (some ⟨g, 0, none⟩) N cap) M
  len : M.length = L.length
  hd : M.take (kpN L s j).length = kpN L s j
  tl : M.drop j = L.drop j
  bt : But g w W
theorem DfAt.stays {w W W' : World} {B g N cap : Nat} {L M : List Ins} {s : Int} {j : Nat} (h : DfAt w B g N cap L s j M W) (b : Below W.heap.size W W') : DfAt w B g N cap L s j M W' := ⟨h.own.stays b, h.len, h.hd, h.tl, ⟨b.os.trans h.bt.os, b.tape.trans h.bt.tape, b.output.trans h.bt.output, Nat.le_trans h.bt.size b.size, fun k hk hne => (b.block k (Nat.lt_of_lt_of_le hk h.bt.size)).trans (h.bt.block k hk hne)⟩⟩
/-- One is passed over. -/
theorem DfAt.pass {w W : World} {B g N cap : Nat} {L M : List Ins} {s : Int} {j : Nat} (h : DfAt w B g N cap L s j M W) (hj : j < L.length) (hn : NmP L[j] s) : DfAt w B g N cap L s (j + 1) M W ∧ kpN L s (j + 1) = kpN L s j := by
  have e : kpN L s (j + 1) = kpN L s j := by rw [kpN_at hj, if_pos hn, List.append_nil]
  refine ⟨⟨h.own, h.len, by rw [e]; exact h.hd, ?_, h.bt⟩, e⟩
  rw [← List.drop_drop, ← List.drop_drop, h.tl]
/-- One is kept. -/
theorem DfAt.keep {w W : World} {B g N cap : Nat} {L M : List Ins} {s : Int} {j : Nat} (h : DfAt w B g N cap L s j M W) (hj : j < L.length) (hn : ¬ NmP L[j] s) : DfAt w B g N cap L s (j + 1) (M.set (kpN L s j).length L[j]) (sets g W ((kpN L s j).length * 7) (InE.cs L[j])) ∧ (kpN L s (j + 1)).length = (kpN L s j).length + 1 := by
  have e : kpN L s (j + 1) = kpN L s j ++ [L[j]] := by rw [kpN_at hj, if_neg hn]
  have hf := kpN_few L s j
  have hi : (kpN L s j).length < M.length := by rw [h.len]; omega
  obtain ⟨o1, b1⟩ := own_set7 h.own hi L[j]
  have el : (kpN L s (j + 1)).length = (kpN L s j).length + 1 := by rw [e, List.length_append, List.length_singleton]
  refine ⟨⟨o1, by rw [List.length_set]; exact h.len, ?_, ?_, ⟨b1.os.trans h.bt.os, b1.tape.trans h.bt.tape, b1.output.trans h.bt.output, Nat.le_trans h.bt.size b1.size, fun k hk hne => (b1.block k (Nat.lt_of_lt_of_le hk h.bt.size) hne).trans (h.bt.block k hk hne)⟩⟩, el⟩
  · rw [el, e, List.take_succ_eq_append_getElem (by rw [List.length_set]; exact hi), List.getElem_set_self, List.take_set_of_le (Nat.le_refl _), h.hd]
  · rw [List.drop_set_of_lt (by omega), ← List.drop_drop, ← List.drop_drop, h.tl]
theorem DfAt.at {w W : World} {B g N cap : Nat} {L M : List Ins} {s : Int} {j : Nat} (h : DfAt w B g N cap L s j M W) (hj : j < L.length) : ∃ hm : j < M.length, M[j] = L[j] := by
  have hm : j < M.length := by rw [h.len]; exact hj
  refine ⟨hm, ?_⟩
  have h1 : (M.drop j)[0]? = (L.drop j)[0]? := by rw [h.tl]
  rw [List.getElem?_drop, List.getElem?_drop, Nat.add_zero, List.getElem?_eq_getElem hm, List.getElem?_eq_getElem hj] at h1
  exact Option.some.inj h1
set_option maxRecDepth 100000 in
set_option maxHeartbeats 8000000 in
theorem delF_any (L : List Ins) (x : Ins) (w : World) (B g cap bx : Nat) (h : OwnE InE w B (.slice (some ⟨g, 0, none⟩) L.length cap) L) (hx : WfX x) (hb : w.heap[bx]? = some (.cells (insV x) 48 (0, 0))) (hne : bx ≠ g) (hl : L.length ≤ 1000) :
    Calls Try.prog 91 #[.slice (some ⟨g, 0, none⟩) L.length cap, .func (.func 92) #[] #[.pointer (some ⟨bx, 0, none⟩)]] w fun e w' => ∃ n, e = .returned (.slice (some ⟨g, 0, none⟩) n cap) ∧ OwnE InE w' B (.slice (some ⟨g, 0, none⟩) n cap) (kpN L (makesP x) L.length) ∧ But g w w' := by
  have H := hideP h
  have D1 : Hid (∀ W y, But g w W → Calls Try.prog 92 #[.agg (insV y), .pointer (some ⟨bx, 0, none⟩)] W fun e w' => e = .returned (.bool (decide (NmP y (makesP x)))) ∧ Below W.heap.size W w') := fun W y hW => del1_any x y bx W hx (keepQ hW hb hne)
  have IX : Hid (Calls Try.prog 121 #[.slice (some ⟨g, 0, none⟩) L.length cap, .func (.func 92) #[] #[.pointer (some ⟨bx, 0, none⟩)]] w fun e w' => ∃ i : Int, e = .returned (.int .i64 i) ∧ FirstIx L (makesP x) i ∧ Below w.heap.size w w') := idxF_any L x w B g cap bx h hx hb hl
  obtain ⟨s, hs⟩ : ∃ s, makesP x = s := ⟨_, rfl⟩
  rw [hs] at D1 IX ⊢
  obtain ⟨N, hN⟩ : ∃ N, L.length = N := ⟨_, rfl⟩
  have HN := hideP hN
  have hcap : N ≤ cap ∧ cap ≤ 9223372036854775807 := by
    obtain ⟨g', cap', cur, hv, _, _, hc, hm, _⟩ := h.parts InOk
    cases hv
    exact ⟨by rw [← hN]; exact hc, hm⟩
  rw [hN] at hl IX ⊢
  rw [hN] at H
  clear h hx hb hs hN
  go_enter Try.func91, Try.ntmps91
  go_wp2_with fail
  refine IX.out.mono ?_
  rintro e1 w1 ⟨i, rfl, hi, b1⟩
  have B1 := hideP b1
  clear IX b1
  rcases hi with ⟨rfl, hno⟩ | ⟨k, hk, rfl, hno, hyes⟩
  · have EQ : Hid (kpN L s N = L) := by
      show _ = _
      have := HN.out
      subst this
      rw [kpN_none (Nat.le_refl _) (fun j hj _ => hno _ (List.getElem_mem hj)), List.take_length]
    go_wp2
    go_ret
    exact ⟨N, rfl, by rw [EQ.out]; exact H.out.stays B1.out, ⟨B1.out.os, B1.out.tape, B1.out.output, B1.out.size, fun k hk _ => B1.out.block k hk⟩⟩
  · have K0 : Hid (kpN L s (k + 1) = L.take k) := by
      show _ = _
      rw [kpN_at hk, if_pos hyes, List.append_nil, kpN_none (Nat.le_of_lt hk) hno]
    have hkN : k < N := by rw [← HN.out]; exact hk
    have K0l : Hid ((kpN L s (k + 1)).length = k) := by show _ = _; rw [K0.out, List.length_take]; omega
    have I0 : Hid (DfAt w B g N cap L s (k + 1) L w1) := ⟨H.out.stays B1.out, rfl, by rw [K0l.out, K0.out], rfl, ⟨B1.out.os, B1.out.tape, B1.out.output, B1.out.size, fun k hk _ => B1.out.block k hk⟩⟩
    clear hno hyes K0 B1 H
    go_wp2
    go_loopg [5, 6] (N - (k + 1)) (fun gk si sj wr => ∃ (j i : Nat) (M : List Ins), gk + j = N ∧ sj = .int .i64 j ∧ si = .int .i64 i ∧ i < j ∧ Hid (i = (kpN L s j).length) ∧ Hid (DfAt w B g N cap L s j M wr))
    case atStart => exact ⟨k + 1, k, L, by omega, by go_num, rfl, by omega, K0l.out.symm, I0.out⟩
    case round =>
      obtain ⟨j, i, M, hgk, rfl, rfl, hij, hiL, hD⟩ := hrel
      clear I0 K0l
      by_cases hjN : j < N
      · have hjL : j < L.length := by rw [HN.out]; exact hjN
        obtain ⟨hjM, hMj⟩ := hD.out.at hjL
        obtain ⟨op1, d1, a1, b1, c1, m1, t1, hz, q0, q1, q2, q3, q4, q5, q6⟩ := own_ins hD.out.own j hjM
        have HZ : Hid (L[j] = ⟨op1, d1, a1, b1, c1, m1, t1⟩) := hMj.symm.trans hz
        obtain ⟨r, hr⟩ : ∃ r, decide (NmP ⟨op1, d1, a1, b1, c1, m1, t1⟩ s) = r := ⟨_, rfl⟩
        have HR := hideP hr
        have al := (Below.refl wr.heap.size wr).alloc (Nat.le_refl _) (.cells #[.int .i64 op1, .int .i64 d1, .int .i64 a1, .int .i64 b1, .int .i64 c1, .int .i64 m1, .string t1] 48)
        have D2 := hideP (hD.out.stays al)
        have V7 := hideP (newI wr #[.int .i64 op1, .int .i64 d1, .int .i64 a1, .int .i64 b1, .int .i64 c1, .int .i64 m1, .string t1])
        have hgw : Hid (g < wr.heap.size) := (hD.out.own.low g rfl).2
        clear hMj hz hr al hD hjM
        go_upto_region 8 with fail
        obtain ⟨w2, hw2⟩ : ∃ w2, wr.alloc (.cells #[.int .i64 op1, .int .i64 d1, .int .i64 a1, .int .i64 b1, .int .i64 c1, .int .i64 m1, .string t1] 48) = w2 := ⟨_, rfl⟩
        obtain ⟨bv, hbv⟩ : ∃ bv, wr.heap.size = bv := ⟨_, rfl⟩
        rw [hw2] at D2 V7 ⊢
        rw [hbv] at V7 hgw ⊢
        clear hw2 hbv q0 q1 q2 q3 q4 q5 q6
        have CL : Hid (Calls Try.prog 92 #[.agg #[.int .i64 op1, .int .i64 d1, .int .i64 a1, .int .i64 b1, .int .i64 c1, .int .i64 m1, .string t1], .pointer (some ⟨bx, 0, none⟩)] w2 fun e w' => e = .returned (.bool r) ∧ Below w2.heap.size w2 w') := by rw [← HR.out]; exact D1.out w2 ⟨op1, d1, a1, b1, c1, m1, t1⟩ D2.out.bt
        have fc := (cells_of V7.out).1
        have x0 := fc 0
        have x1 := fc 1
        have x2 := fc 2
        have x3 := fc 3
        have x4 := fc 4
        have x5 := fc 5
        have x6 := fc 6
        simp at x0 x1 x2 x3 x4 x5 x6
        clear fc
        go_wp2_with fail
        refine CL.out.mono ?_
        rintro e3 w3 ⟨rfl, b3⟩
        have D3 := hideP (D2.out.stays b3)
        have V73 := hideP ((b3.block _ (hltP V7.out)).trans V7.out)
        clear CL D2 V7 b3 x0 x1 x2 x3 x4 x5 x6
        cases r with
        | true =>
          obtain ⟨P1, P2⟩ := D3.out.pass hjL (by rw [HZ.out]; exact of_decide_eq_true HR.out)
          have D4 := hideP P1
          have IL : Hid (i = (kpN L s (j + 1)).length) := by show _ = _; rw [P2]; exact hiL.out
          clear P1 P2 D3
          go_wp2
          go_roundg (N - (j + 1))
          case rel => exact ⟨j + 1, i, M, by omega, by go_num, rfl, by omega, IL.out, D4.out⟩
          case measure => omega
        | false =>
          obtain ⟨P1, P2⟩ := D3.out.keep hjL (by rw [HZ.out]; exact of_decide_eq_false HR.out)
          have D4 : Hid (DfAt w B g N cap L s (j + 1) (M.set i L[j]) (sets g w3 (i * 7) [.int .i64 op1, .int .i64 d1, .int .i64 a1, .int .i64 b1, .int .i64 c1, .int .i64 m1, .string t1])) := by
            show DfAt _ _ _ _ _ _ _ _ _ _
            have := P1
            rw [← hiL.out] at this
            have e : InE.cs L[j] = [.int .i64 op1, .int .i64 d1, .int .i64 a1, .int .i64 b1, .int .i64 c1, .int .i64 m1, .string t1] := by rw [HZ.out]; rfl
            rw [e] at this
            exact this
          have IL : Hid (i + 1 = (kpN L s (j + 1)).length) := by show _ = _; rw [P2, ← hiL.out]
          have hiM : i < M.length := by rw [D3.out.len, HN.out]; omega
          obtain ⟨_, _, _, _, _, _, _, hz9, z0, z1, z2, z3, z4, z5, z6⟩ := own_ins D3.out.own i hiM
          obtain ⟨g9, c9, cur, hv, _, hh, _⟩ := D3.out.own.parts InOk
          injection hv with e1 e2 e3
          injection e1 with e1
          injection e1 with e1
          subst e1 e3
          clear e2
          have zf := (cells_of hh).2
          have fc := (cells_of V73.out).1
          have x0 := fc 0
          have x1 := fc 1
          have x2 := fc 2
          have x3 := fc 3
          have x4 := fc 4
          have x5 := fc 5
          have x6 := fc 6
          simp at x0 x1 x2 x3 x4 x5 x6
          clear fc P1 P2 D3 V73 hh hz9 hiM
          have hiN : (i : Int) < (N : Int) := by omega
          go_wp2
          go_roundg (N - (j + 1))
          case rel => exact ⟨j + 1, i + 1, M.set i L[j], by omega, by go_num, by go_num, by omega, IL.out, D4.out⟩
          case measure => omega
      · have hjn : j = N := by omega
        subst hjn
        obtain ⟨g9, c9, cur, hv, hBg, hh, hc, hm, hs7, hx7⟩ := hD.out.own.parts InOk
        injection hv with e1 e2 e3
        injection e1 with e1
        injection e1 with e1
        subst e1 e3
        clear e2
        rw [show InE.sz = 7 from rfl] at hs7 hx7
        have hMl : M.length = j := hD.out.len.trans HN.out
        have hfit : i * 7 + (j - i) * 7 ≤ cur.size := by rw [hs7]; omega
        have HX := hideP hx7
        have FIN : Hid (∀ w9 : World, (∃ cur', w9.heap[g]? = some (.cells cur' 48 (0, 0)) ∧ cur'.size = cur.size ∧ ∀ q, q < i * 7 → cur'[q]? = cur[q]?) → But g wr w9 → OwnE InE w9 B (.slice (some ⟨g, 0, none⟩) i cap) (kpN L s j) ∧ But g w w9) := fun w9 ⟨cur', g1, g2, g3⟩ hb9 => by
          have hkl := hiL.out
          have := OwnE.of_parts InOk (l := kpN L s j) hBg g1 (cap := cap) (by rw [← hkl]; omega) hm (by rw [g2]; exact hs7) (fun k2 hk2 r hr => by
            rw [show InE.sz = 7 from rfl] at hr ⊢
            have hk2M : k2 < M.length := by omega
            have hmk := mul_stepE k2 i 7 (by omega)
            rw [g3 _ (by omega), HX.out k2 hk2M r hr]
            have e : M[k2] = (kpN L s j)[k2] := by
              have h1 : (M.take (kpN L s j).length)[k2]? = (kpN L s j)[k2]? := by rw [hD.out.hd]
              rw [List.getElem?_take_of_lt hk2, List.getElem?_eq_getElem hk2M, List.getElem?_eq_getElem hk2] at h1
              exact Option.some.inj h1
            rw [e])
          rw [← hkl] at this
          exact ⟨this, ⟨hb9.os.trans hD.out.bt.os, hb9.tape.trans hD.out.bt.tape, hb9.output.trans hD.out.bt.output, Nat.le_trans hD.out.bt.size hb9.size, fun k hk hne => (hb9.block k (Nat.lt_of_lt_of_le hk hD.out.bt.size) hne).trans (hD.out.bt.block k hk hne)⟩⟩
        have hne2 : ¬ cap = i := by omega
        have i1 : (0 : Int) ≤ (i : Int) := by omega
        have i2 : (i : Int) ≤ (j : Int) := by omega
        have i3 : (j : Int) ≤ (cap : Int) := by omega
        have i4 : (i : Int) ≤ (cap : Int) := by omega
        have HH := hideP hh
        clear hx7 hs7 hh hMl hm hc
        go_upto_region 12 with (refine list_clearE _ rfl _ rfl g (i * 7) (j - i) _ cur rfl (by omega) HH.out hfit ?_; intro w9 hc9 hb9)
        have F9 := hideP (FIN.out w9 hc9 hb9)
        clear hc9 hb9 FIN HH HX
        go_wp2
        go_ret
        exact ⟨i, rfl, F9.out.1, F9.out.2⟩
end Go.Proofs.Ytjmclmbepnbeoaa
