/- The contract of impl.Asm. -/
import Derived.Test.YtheholgdfmipbaaDoorAmA
import Derived.Test.YtheholgdfmipbaaDoorAmT
import Derived.Test.YtheholgdfmipbaaDoorAmQ
namespace Go.Proofs.YtheholgdfmipbaaDoor
open Go.ChangeShapes Go.WideShapes Go.ChangeAt Go.RowKit
/-- Texts as the elements of a list. -/
def TxE : Elem ByteArray := { T := 9, ST := 50, sz := 1, bys := 16, z := .string ⟨#[]⟩, cs := fun s => [.string s] }
theorem TxOk : TxE.Ok where
  und := Tryd.underlying50
  info := by kernel_rfl
  zs := rfl
  pos := by decide
  few := by decide
  len := fun _ => rfl
  one := fun x u hu => by simp [TxE] at hu; subst hu; rfl
theorem tx_at {w : World} {B : Nat} {v : Value} {l : List ByteArray} (h : OwnE TxE w B v l) : ∃ g cap, v = .slice (some ⟨g, 0, none⟩) l.length cap ∧ l.length ≤ cap ∧ g < w.heap.size ∧ ∀ (j : Nat) x, l[j]? = some x → w.cell? ⟨g, 0 + j, none⟩ = some (.string x) := by
  obtain ⟨g, cap, cur, hv, _, hh, hc, _, _, hx⟩ := h.parts TxOk
  refine ⟨g, cap, hv, hc, (Array.getElem?_eq_some_iff.1 hh).1, fun j x hj => ?_⟩
  obtain ⟨hj', hjx⟩ := List.getElem?_eq_some_iff.1 hj
  have h1 := hx j hj' 0 (by decide)
  rw [(cells_of hh).1]
  have e : j * TxE.sz + 0 = 0 + j := by show j * 1 + 0 = 0 + j; omega
  rw [e] at h1
  rw [h1, hjx]; rfl
theorem tx_lit (w : World) (B : Nat) (hB : B ≤ w.heap.size) (l : List ByteArray) (hl : l.length ≤ 1000) : OwnE TxE (w.alloc (.cells (l.map Value.string).toArray 9)) B (.slice (some ⟨w.heap.size, 0, none⟩) l.length l.length) l :=
  OwnE.of_parts TxOk hB (show (w.heap.push _)[w.heap.size]? = _ from Array.getElem?_push_size) (Nat.le_refl _) (by unfold maxLen; omega) (by show _ = l.length * 1; simp) (fun j hj r hr => by
    have hr0 : r = 0 := by have : r < 1 := hr; omega
    subst hr0
    have e : j * TxE.sz + 0 = j := by show j * 1 + 0 = j; omega
    rw [e]
    simp [hj, TxE])
/-- Where the forms lie. -/
def FmAt (tb g : Nat) (W : World) : Prop := W.heap[tb]? = some (.cells (tokA.map Value.string).toArray 9 (0, 0)) ∧ ∃ cur : Array Value, W.heap[g]? = some (.cells cur 50 (0, 0)) ∧ ∀ q, q < 12 → cur[q]? = some (.slice (some ⟨tb, offT.getD q 0, none⟩) (lenT.getD q 0) (lenT.getD q 0))
theorem FmAt.stays {tb g : Nat} {W W' : World} (h : FmAt tb g W) (bel : Below W.heap.size W W') : FmAt tb g W' := by
  obtain ⟨h1, cur, h2, h3⟩ := h
  exact ⟨keepA h1 bel, cur, keepA h2 bel, h3⟩
theorem FmAt.cell {tb g : Nat} {W : World} (h : FmAt tb g W) (q : Nat) (hq : q < 12) : W.cell? ⟨g, q, none⟩ = some (.slice (some ⟨tb, offT.getD q 0, none⟩) (lenT.getD q 0) (lenT.getD q 0)) := by
  obtain ⟨_, cur, h2, h3⟩ := h
  rw [(cells_of h2).1]; exact h3 q hq
theorem FmAt.of {tb g c B : Nat} {W : World} (h1 : W.heap[tb]? = some (.cells (tokA.map Value.string).toArray 9 (0, 0))) (h2 : OwnE (FmE tb) W B (.slice (some ⟨g, 0, none⟩) 12 c) fmsT) : FmAt tb g W := by
  obtain ⟨g', cap, cur, hv, _, hh, _, _, _, hx⟩ := h2.parts (FmOk tb)
  injection hv with e1 _ _
  injection e1 with e1
  injection e1 with e1
  subst e1
  refine ⟨h1, cur, hh, fun q hq => ?_⟩
  have hql : q < fmsT.length := hq
  have h3 := hx q hql 0 (show 0 < 1 by decide)
  have h4 : fmsT[q] = (offT.getD q 0, lenT.getD q 0) := by
    have := fmsT_at q hq
    rw [List.getElem?_eq_getElem hql] at this
    exact Option.some.inj this
  rw [h4] at h3
  have e : q * (FmE tb).sz + 0 = q := by show q * 1 + 0 = q; omega
  rw [e] at h3
  exact h3
/-- A list of texts of one's own has grown: the forms stay. -/
theorem FmAt.grown {tb g B : Nat} {W W' : World} {v : Value} {l : List ByteArray} (h : FmAt tb g W) (o : OwnE TxE W B v l) (hne : ∀ x, v.ownBlock = some x → x ≠ tb) (gr : W.grownBy W' v.ownBlock) : FmAt tb g W' := by
  obtain ⟨h1, cur, h2, h3⟩ := h
  exact ⟨(gr.block tb (Array.getElem?_eq_some_iff.1 h1).1 (fun e => hne tb e.symm rfl)).trans h1, cur, o.boxF TxOk (show 50 ≠ 9 by decide) h2 gr, h3⟩
theorem nl_len (ps : List ByteArray) (h : ∀ p ∈ ps, p.size ≤ 200) : ((ps.map (fun b : ByteArray => b.data.toList)).map (· ++ [10])).flatten.length ≤ 201 * ps.length := by
  induction ps with
  | nil => simp
  | cons p ps ih =>
    have h1 := h p List.mem_cons_self
    have h2 := ih (fun q hq => h q (List.mem_cons_of_mem _ hq))
    have h3 : p.data.toList.length ≤ 200 := by simpa using h1
    rw [List.map_cons, List.map_cons, List.flatten_cons, List.length_append, List.length_cons, List.length_append]
    simp only [List.length_cons, List.length_nil]
    omega
theorem tail_nl (r : List (List UInt8)) : Lib.joinTail [10] r ++ [10] = [10] ++ (r.map (· ++ [10])).flatten := by
  induction r with
  | nil => rfl
  | cons y r ih =>
    unfold Lib.joinTail at ih ⊢
    rw [List.map_cons, List.flatten_cons, List.append_assoc, ih, List.map_cons, List.flatten_cons]
    simp
theorem join_nl (x : List UInt8) (r : List (List UInt8)) : Lib.join (x :: r) [10] ++ [10] = ((x :: r).map (· ++ [10])).flatten := by
  rw [Lib.join_cons, List.append_assoc, tail_nl, List.map_cons, List.flatten_cons]
  simp
theorem nums_join (l : List Int) : Lib.joinTail [32] (l.map Lib.itoa) = numsL l := by
  induction l with
  | nil => rfl
  | cons z l ih =>
    unfold Lib.joinTail at ih ⊢
    rw [List.map_cons, List.map_cons, List.flatten_cons, ih]
    rfl
end Go.Proofs.YtheholgdfmipbaaDoor

/- The contract of impl.Asm. -/
namespace Go.Proofs.YtheholgdfmipbaaDoor
open Go.ChangeShapes Go.WideShapes Go.ChangeAt Go.RowKit
theorem newTx (w : World) (s : ByteArray) : ∀ r, r < TxE.sz → (w.alloc (.cells #[.string s] 9)).cell? ⟨w.heap.size, 0 + r, none⟩ = (TxE.cs s)[r]? := fun r hr => by
  have hr0 : r = 0 := by have : r < 1 := hr; omega
  subst hr0
  rw [(cells_of (newA w (.cells #[.string s] 9))).1]; rfl
set_option maxHeartbeats 16000000 in
set_option maxRecDepth 100000 in
theorem impl_asm (m : Img) (w : World) (B : Nat) (v : Array Value) (h : ImgIs w B v m) (ht : TabA w) (ml : Int) (hml : w.cell? ⟨4, 0, none⟩ = some (.int .i64 ml)) :
    Calls Tryd.prog 12 #[.agg v] w fun en w' => en = .returned (.string ⟨(asmL m).toArray⟩) ∧ Below w.heap.size w w' := by
  obtain ⟨y, hy⟩ : ∃ y, imgOk m = y := ⟨_, rfl⟩
  have CY : Hid (∀ W, Below w.heap.size w W → Calls Tryd.prog 27 #[.agg v] W fun en w' => en = .returned (.bool y) ∧ Below W.heap.size W w') := fun W hW => by rw [← hy]; exact impl_imageOk _ W B v (ImgKeeps.stays h hW)
  have HD : Hid (y = true → _) := fun e => imgOk_head (m := m) (by rw [hy]; exact e)
  have HQ : Hid (y = true → ∀ x ∈ m.code, (∃ q : Nat, x.op = (q : Int) ∧ q < 12) ∧ (x.op = 3 → ∃ k : Nat, x.n = (k : Int) ∧ k < 6)) := fun e x hx => ⟨imgOk_word (by rw [hy]; exact e) hx, imgOk_sign (by rw [hy]; exact e) hx⟩
  have EP : Hid (asmL m = if y = true then headA m ++ linesL m.code m.code.length else []) := by show _ = _; unfold asmL; rw [hy]
  obtain ⟨P, hP⟩ : ∃ P, asmL m = P := ⟨_, rfl⟩
  rw [hP] at EP ⊢
  clear hy hP
  obtain ⟨sizes, params, slots, code⟩ := m
  obtain ⟨us, cs, ub, cb, rfl, _, hsz, hb⟩ := h
  simp only at *
  have hm := maxLen_lt
  have hl := hb.1
  have hls := hsz.1
  have HB := hideP hb
  have HZ := hideP hsz
  have HT := hideP ht
  have lM := World.block_lt_of_cell? _ _ hml
  have HM := hideP hml
  clear hb hsz ht hml
  have AL : Hid (Below w.heap.size w (w.alloc (.cells #[.slice us sizes.length cs, .int .i64 params, .int .i64 slots, .slice ub code.length cb] 33))) := (Below.refl _ _).alloc (Nat.le_refl _) _
  have BX1 := hideP (newA w (.cells #[.slice us sizes.length cs, .int .i64 params, .int .i64 slots, .slice ub code.length cb] 33))
  obtain ⟨W0, hW0⟩ : ∃ W0, w.alloc (.cells #[.slice us sizes.length cs, .int .i64 params, .int .i64 slots, .slice ub code.length cb] 33) = W0 := ⟨_, rfl⟩
  obtain ⟨bi, hbi⟩ : ∃ bi, w.heap.size = bi := ⟨_, rfl⟩
  rw [hW0, hbi] at BX1
  rw [hW0] at AL
  have HW0 := hideP hW0
  have HBI := hideP hbi
  have p0 := (cells_of BX1.out).1 0
  have p1 := (cells_of BX1.out).1 1
  have p2 := (cells_of BX1.out).1 2
  have p3 := (cells_of BX1.out).1 3
  simp at p0 p1 p2 p3
  clear hW0 hbi
  go_enter Tryd.func12, Tryd.ntmps12
  go_upto_region 1 with fail
  rw [HW0.out, HBI.out]
  go_wp2_with fail
  refine (CY.out _ AL.out).mono ?_
  rintro e2 w2 ⟨rfl, b2⟩
  have BB := hideP (below_trans AL.out b2)
  have BX := hideP (keepA BX1.out b2)
  clear b2 BX1 AL p0 p1 p2 p3
  cases y
  · go_wp2
    go_ret
    exact ⟨ret_str (by rw [EP.out, if_neg (by simp)]), BB.out⟩
  obtain ⟨h4, hz64, hp64, hs64, hc6, hc1⟩ := HD.out rfl
  have EQ : Hid (P = headA ⟨sizes, params, slots, code⟩ ++ linesL code code.length) := by show _ = _; rw [EP.out, if_pos rfl]
  have hnl := numsL_len sizes (fun z hz => hz64 z hz)
  have HZ64 := hideP hz64
  have DP : Hid (∀ W, Below w.heap.size w W → _) := fun W hW => decA params hp64 W (HT.out.stays hW)
  have DS : Hid (∀ W, Below w.heap.size w W → _) := fun W hW => decA slots hs64 W (HT.out.stays hW)
  have DZ : Hid (∀ z, I64 z → ∀ W, Below w.heap.size w W → _) := fun z hz W hW => decA z hz W (HT.out.stays hW)
  clear EP HD hz64 hp64 hs64
  have al1 : Hid (Below w2.heap.size w2 (w2.alloc (.cells #[.string ⟨#[109, 101, 109]⟩] 9))) := (Below.refl w2.heap.size w2).alloc (Nat.le_refl _) _
  obtain ⟨W1, hW1⟩ : ∃ W1, w2.alloc (.cells #[.string ⟨#[109, 101, 109]⟩] 9) = W1 := ⟨_, rfl⟩
  have Z2 : Hid (bi + 1 ≤ w2.heap.size) := by have := (Array.getElem?_eq_some_iff.1 BX.out).1; show _ ≤ _; omega
  have O1 : Hid (OwnE TxE W1 (bi + 1) (.slice (some ⟨w2.heap.size, 0, none⟩) 1 1) [⟨#[109, 101, 109]⟩]) := hW1 ▸ tx_lit w2 (bi + 1) Z2.out [⟨#[109, 101, 109]⟩] (by simp)
  rw [hW1] at al1
  have B1 := hideP (below_trans BB.out al1.out)
  have BX2 := hideP (keepA BX.out al1.out)
  have Z1 : Hid (bi + 1 ≤ W1.heap.size) := Nat.le_trans Z2.out al1.out.size
  have HW1 := hideP hW1
  clear hW1 al1 BB BX Z2
  go_upto_region 4 with fail
  rw [HW1.out]
  have p0 := (cells_of BX2.out).1 0
  simp at p0
  obtain ⟨NS, hNS⟩ : ∃ NS, sizes.length = NS := ⟨_, rfl⟩
  have HNS := hideP hNS
  rw [hNS] at h4 hls hnl BX2 p0 ⊢
  clear HW1 hNS
  go_wp2
  go_loopg [3, 17] NS (fun gk l i wr => ∃ (j : Nat) (ps : List ByteArray), gk + j = NS ∧ i = .int .i64 j ∧ Hid (ps.map (fun b : ByteArray => b.data.toList) = [109, 101, 109] :: (sizes.take j).map Lib.itoa) ∧ Hid (OwnE TxE wr (bi + 1) l ps) ∧ Hid (Below w.heap.size w wr) ∧ Hid (bi + 1 ≤ wr.heap.size) ∧ Hid (wr.heap[bi]? = some (.cells #[.slice us NS cs, .int .i64 params, .int .i64 slots, .slice ub code.length cb] 33 (0, 0))))
  case atStart => exact ⟨0, _, by simp, rfl, by show _ = _; simp, O1.out, B1.out, Z1.out, BX2.out⟩
  case round =>
    obtain ⟨j, ps, hj, rfl, hps, ho, bw, hz, hbx⟩ := hrel
    have hpl : ps.length = j + 1 := by
      have h1 := congrArg List.length hps.out
      have h2 := HNS.out
      rw [List.length_map, List.length_cons, List.length_map, List.length_take] at h1
      omega
    clear O1 B1 Z1 BX2
    by_cases hlt : j < NS
    · have hjl : j < sizes.length := by rw [HNS.out]; exact hlt
      obtain ⟨b, o, rfl, _, hbl, c0⟩ := (HZ.out.stays bw.out).get j hjl
      have i1 := HZ64.out _ (List.getElem_mem hjl)
      have UP : Hid ((sizes.take (j + 1)).map Lib.itoa = (sizes.take j).map Lib.itoa ++ [Lib.itoa sizes[j]]) := by
        show _ = _
        rw [List.take_succ_eq_append_getElem hjl, List.map_append]; rfl
      obtain ⟨z, hzz⟩ : ∃ z, sizes[j] = z := ⟨_, rfl⟩
      rw [hzz] at c0 i1 UP
      clear hzz
      go_wp2_with fail
      refine (DZ.out z i1 _ bw.out).mono ?_
      rintro e3 w3 ⟨ds, rfl, hds, hd21, b3⟩
      have BX3 := hideP (keepA hbx.out b3)
      have O3 := hideP (ho.out.stays b3)
      have BW3 := hideP (below_trans bw.out b3)
      have Z3 : Hid (bi + 1 ≤ w3.heap.size) := Nat.le_trans hz.out b3.size
      have al := (Below.refl w3.heap.size w3).alloc (Nat.le_refl _) (.cells #[.string ds] 9)
      have OA := hideP (O3.out.stays al)
      have BA := hideP (below_trans BW3.out al)
      have XA := hideP (keepA BX3.out al)
      have ZA : Hid (bi + 1 ≤ (w3.alloc (.cells #[.string ds] 9)).heap.size) := Nat.le_trans Z3.out al.size
      have CQ := hideP (newTx w3 ds)
      clear b3 al ho bw hz hbx c0 i1 O3 BX3
      go_upto_region 8 with (at_builtin; refine list_appE TxOk _ rfl _ _ rfl (bi + 1) _ ps ds w3.heap.size 0 1 rfl rfl OA.out CQ.out (by omega) ZA.out ?_; intro v9 w9 o9 grow9 loc9)
      have O9 := hideP o9
      have H9 := hideP (OA.out.boxF TxOk (show 33 ≠ 9 by decide) XA.out grow9)
      have B9 := hideP (BA.out.trans (grown_below grow9 (fun x e => by have h1 := (OA.out.low x e).1; have h2 := HBI.out; omega) BA.out.size))
      have Z9 : Hid (bi + 1 ≤ w9.heap.size) := Nat.le_trans ZA.out grow9.size
      clear o9 grow9 loc9 OA CQ BA XA ZA
      go_wp2
      go_roundg (NS - (j + 1))
      case rel => exact ⟨j + 1, _, by omega, by go_num, by show _ = _; rw [List.map_append, hps.out, UP.out, ← hds.out]; simp, O9.out, B9.out, Z9.out, H9.out⟩
      case measure => omega
    · have hjn : j = NS := by omega
      subst hjn
      obtain ⟨gv, cv, rfl, hcv, hgv, hcells⟩ := tx_at ho.out
      have JT : Hid (Lib.join (ps.map (fun b : ByteArray => b.data.toList)) [32] = [109, 101, 109] ++ numsL sizes) := by
        show _ = _
        rw [hps.out, ← HNS.out, List.take_length, Lib.join_cons, nums_join]
      have JC : Hid (∀ W, Below wr.heap.size wr W → Calls Tryd.prog 29 #[.slice (some ⟨gv, 0, none⟩) ps.length cv, .string ⟨#[32]⟩] W fun e w' => ∃ s0 : ByteArray, e = .returned (.string s0) ∧ Hid (s0.data.toList = [109, 101, 109] ++ numsL sizes) ∧ s0.size ≤ 100 ∧ Below W.heap.size W w') := fun W hW => by
        have hjl : (Lib.join (ps.map (fun b : ByteArray => b.data.toList)) [32]).length ≤ 100 := by rw [JT.out, List.length_append]; simp only [List.length_cons, List.length_nil]; omega
        refine (Tryd.strings_Join gv 0 cv ps ⟨#[32]⟩ W (fun j x hx => (hW.cell (p := ⟨gv, 0 + j, none⟩) hgv).trans (hcells j x hx)) (Nat.lt_of_lt_of_le hgv hW.size) (by omega) hcv (by show (Lib.join _ [32]).length ≤ _; omega)).mono ?_
        rintro e w' ⟨rfl, bel⟩
        exact ⟨_, rfl, by show _ = _; exact JT.out, hjl, bel⟩
      have p1 := (cells_of hbx.out).1 1
      have p2 := (cells_of hbx.out).1 2
      simp at p1 p2
      have SK : Hid (∀ W' : World, Below wr.heap.size wr W' → W'.cell? ⟨bi, 1, none⟩ = some (.int .i64 params) ∧ W'.cell? ⟨bi, 2, none⟩ = some (.int .i64 slots)) := fun W' hb => by
        have f := (cells_of (keepA hbx.out hb)).1
        exact ⟨f 1, f 2⟩
      obtain ⟨n9, hn9⟩ : ∃ n9, ps.length = n9 := ⟨_, rfl⟩
      rw [hn9] at JC ⊢
      clear hcells hgv hcv hps hpl hn9 JT ho p1 p2
      go_upto_region 9 with fail
      go_region_held3 (fun W' => W'.cell? ⟨bi, 1, none⟩ = some (.int .i64 params) ∧ W'.cell? ⟨bi, 2, none⟩ = some (.int .i64 slots)) (first | with_reducible exact SK.out _ AD.out | with_reducible exact SK.out _ F2.out | with_reducible exact SK.out _ F1.out | with_reducible exact SK.out _ F0.out | with_reducible exact SK.out _ (Below.refl _ _).drew) (first
        | (go_at_call 29; refine (JC.out _ (Below.refl _ _).drew).mono ?_; rintro e0 w0 ⟨s0, rfl, S0, z0, b0⟩; have F0 := hideP ((Below.refl wr.heap.size wr).drew.trans (b0.mono (Nat.le_refl _))); clear b0)
        | (go_at_call_of 28 (Value.int .i64 params); refine (DP.out _ (below_trans bw.out F0.out)).mono ?_; rintro e1 w1 ⟨s1, rfl, S1, z1, b1⟩; have F1 := hideP (below_trans F0.out b1); have n1 : ¬ 9223372036854775807 < 7 + s1.size := (by omega); clear b1)
        | (go_at_call_of 28 (Value.int .i64 slots); refine (DS.out _ (below_trans bw.out F1.out)).mono ?_; rintro e2 w2 ⟨s2, rfl, S2, z2, b2⟩; have F2 := hideP (below_trans F1.out b2); have n2 : ¬ 9223372036854775807 < 6 + s2.size := (by omega); have AD := hideP (below_trans F2.out ((Below.refl w2.heap.size w2).alloc (Nat.le_refl _) (.cells #[.string s0, .string (⟨#[112, 97, 114, 97, 109, 115, 32]⟩ ++ s1), .string (⟨#[115, 108, 111, 116, 115, 32]⟩ ++ s2)] 9))); clear b2))
      obtain ⟨W3, hW3⟩ : ∃ W3, w2.alloc (.cells #[.string s0, .string (⟨#[112, 97, 114, 97, 109, 115, 32]⟩ ++ s1), .string (⟨#[115, 108, 111, 116, 115, 32]⟩ ++ s2)] 9) = W3 := ⟨_, rfl⟩
      have Z2 : bi + 1 ≤ w2.heap.size := Nat.le_trans hz.out F2.out.size
      have O3 : Hid (OwnE TxE W3 (bi + 1) (.slice (some ⟨w2.heap.size, 0, none⟩) 3 3) ([s0, (⟨#[112, 97, 114, 97, 109, 115, 32]⟩ : ByteArray) ++ s1, (⟨#[115, 108, 111, 116, 115, 32]⟩ : ByteArray) ++ s2] : List ByteArray)) := hW3 ▸ tx_lit w2 (bi + 1) Z2 ([s0, (⟨#[112, 97, 114, 97, 109, 115, 32]⟩ : ByteArray) ++ s1, (⟨#[115, 108, 111, 116, 115, 32]⟩ : ByteArray) ++ s2] : List ByteArray) (by simp)
      have G3 : Hid (w2.heap.size < W3.heap.size) := by show _ < _; rw [← hW3]; simp
      have HL0 : Hid (headA ⟨sizes, params, slots, code⟩ = ((([s0, (⟨#[112, 97, 114, 97, 109, 115, 32]⟩ : ByteArray) ++ s1, (⟨#[115, 108, 111, 116, 115, 32]⟩ : ByteArray) ++ s2] : List ByteArray).map (fun b : ByteArray => b.data.toList)).map (· ++ [10])).flatten) := by
        show _ = _
        unfold headA
        simp [S0.out, S1.out, S2.out]
      have zz1 : (⟨#[112, 97, 114, 97, 109, 115, 32]⟩ ++ s1 : ByteArray).size ≤ 200 := by rw [ByteArray.size_append]; show 7 + s1.size ≤ 200; omega
      have zz2 : (⟨#[115, 108, 111, 116, 115, 32]⟩ ++ s2 : ByteArray).size ≤ 200 := by rw [ByteArray.size_append]; show 6 + s2.size ≤ 200; omega
      rw [hW3] at AD ⊢
      obtain ⟨a1, ha1⟩ : ∃ a1 : ByteArray, (⟨#[112, 97, 114, 97, 109, 115, 32]⟩ ++ s1 : ByteArray) = a1 := ⟨_, rfl⟩
      obtain ⟨a2, ha2⟩ : ∃ a2 : ByteArray, (⟨#[115, 108, 111, 116, 115, 32]⟩ ++ s2 : ByteArray) = a2 := ⟨_, rfl⟩
      rw [ha1, ha2] at O3 HL0
      rw [ha1] at zz1
      rw [ha2] at zz2
      have B3 := hideP (below_trans bw.out AD.out)
      obtain ⟨g3, hg3⟩ : ∃ g3, w2.heap.size = g3 := ⟨_, rfl⟩
      have X3 := hideP (keepA hbx.out AD.out)
      have Z3 : Hid (bi + 1 ≤ W3.heap.size) := Nat.le_trans hz.out AD.out.size
      rw [hg3] at O3 G3 ⊢
      clear F0 F1 F2 SK JC DP DS S0 S1 S2 n1 n2 hW3 Z2 AD hz hbx bw ha1 ha2 hg3
      go_wp2_with fail
      refine (wordForms_any ml _ ((B3.out.cell (p := ⟨4, 0, none⟩) lM).trans HM.out)).mono ?_
      rintro ea X1 ⟨tb, g, c, rfl, ow, htb, hh, ba⟩
      have FM := hideP (FmAt.of hh ow)
      have O4 := hideP (O3.out.stays ba)
      have B4 := hideP (below_trans B3.out ba)
      have X4 := hideP (keepA X3.out ba)
      have Z4 : Hid (bi + 1 ≤ X1.heap.size) := Nat.le_trans Z3.out ba.size
      have NE4 : Hid (∀ x, (Value.slice (some ⟨g3, 0, none⟩) 3 3).ownBlock = some x → x ≠ tb) := fun x e => by
        have h1 : g3 = x := by simpa [Value.ownBlock] using e
        have h2 := G3.out
        omega
      have p3 := (cells_of X4.out).1 3
      simp at p3
      have SZ4 : Hid (∀ p ∈ [s0, a1, a2], p.size ≤ 200) := fun p hp => by
        simp only [List.mem_cons, List.mem_nil_iff, or_false] at hp
        rcases hp with rfl | rfl | rfl
        · omega
        · exact zz1
        · exact zz2
      clear ow htb hh ba O3 B3 X3 Z3 G3 zz1 zz2
      go_wp2
      clear p3 X4
      go_loopg [6, 42] code.length (fun gk l i wr => ∃ (j : Nat) (ps : List ByteArray), gk + j = code.length ∧ i = .int .i64 j ∧ Hid (ps.map (fun b : ByteArray => b.data.toList) = [s0, a1, a2].map (fun b : ByteArray => b.data.toList) ++ (code.take j).map wordL) ∧ Hid (∀ p ∈ ps, p.size ≤ 200) ∧ Hid (OwnE TxE wr (bi + 1) l ps) ∧ Hid (∀ x, l.ownBlock = some x → x ≠ tb) ∧ Hid (FmAt tb g wr) ∧ Hid (Below w.heap.size w wr) ∧ Hid (bi + 1 ≤ wr.heap.size))
      case atStart => exact ⟨0, [s0, a1, a2], by simp, rfl, by show _ = _; simp, SZ4.out, O4.out, NE4.out, FM.out, B4.out, Z4.out⟩
      case round =>
        obtain ⟨j, ps, hj, rfl, hps, hpz, ho, hne, hfm, bw, hz⟩ := hrel
        have hpl : ps.length = 3 + j := by
          have h1 := congrArg List.length hps.out
          rw [List.length_map, List.length_append, List.length_map, List.length_map, List.length_take] at h1
          simp only [List.length_cons, List.length_nil] at h1
          omega
        clear SZ4 O4 NE4 FM B4 Z4
        by_cases hlt : j < code.length
        · obtain ⟨b, o, y0, y1, y2, y3, y4, rfl, _, hbb, hy, r0, r1, r2, r3, r4, hxx⟩ := Wrd_get (HB.out.stays WrdKeeps bw.out) j hlt
          obtain ⟨⟨q, hq1, hq2⟩, hq3⟩ := HQ.out (by first | rfl | trivial) _ (List.getElem_mem hlt)
          have hxw := hxx.2
          have UP : Hid ((code.take (j + 1)).map wordL = (code.take j).map wordL ++ [wordL ⟨y0, y1, y2, y3, y4⟩]) := by
            show _ = _
            rw [List.take_succ_eq_append_getElem hlt, List.map_append, hy]; rfl
          rw [hy] at hq1 hq3
          have hwl := wordL_len hxw hq1 hq2 hq3
          simp only at hq1 hq3
          subst hq1
          have WL0 : Hid (∀ W, FmAt tb g W → TabA W → Calls Tryd.prog 31 #[.slice (some ⟨tb, offT.getD q 0, none⟩) (lenT.getD q 0) (lenT.getD q 0), .agg #[.int .i64 (q : Int), .int .i64 y1, .int .i64 y2, .int .i64 y3, .int .i64 y4]] W fun e w' => ∃ wl : ByteArray, e = .returned (.string wl) ∧ Hid (wl.data.toList = wordL ⟨(q : Int), y1, y2, y3, y4⟩) ∧ wl.size ≤ 100 ∧ Below W.heap.size W w') := fun W hg hT => by
            have h1 := (frmT_ok q hq2).1
            have h2 := wordLine_any ⟨(q : Int), y1, y2, y3, y4⟩ q rfl hq2 hxw (fun e => hq3 (by omega)) W tb (offT.getD q 0) (fun j t hj => frm_cells hg.1 q j t hj) (Array.getElem?_eq_some_iff.1 hg.1).1 hT
            rw [h1] at h2
            refine h2.mono ?_
            rintro e w' ⟨rfl, bel⟩
            exact ⟨_, rfl, by show _ = _; simp, by simpa [ByteArray.size] using hwl, bel⟩
          have FC : Hid (∀ W, FmAt tb g W → W.cell? ⟨g, q, none⟩ = some (.slice (some ⟨tb, offT.getD q 0, none⟩) (lenT.getD q 0) (lenT.getD q 0))) := fun W hf => hf.cell q hq2
          obtain ⟨fo, hfo⟩ : ∃ fo, offT.getD q 0 = fo := ⟨_, rfl⟩
          obtain ⟨fl, hfl⟩ : ∃ fl, lenT.getD q 0 = fl := ⟨_, rfl⟩
          rw [hfo, hfl] at WL0 FC
          have hq4 : (q : Int) < 12 := by omega
          have al := (Below.refl wr.heap.size wr).alloc (Nat.le_refl _) (.cells #[.int .i64 (q : Int), .int .i64 y1, .int .i64 y2, .int .i64 y3, .int .i64 y4] 47)
          have X5 := hideP (newA wr (.cells #[.int .i64 (q : Int), .int .i64 y1, .int .i64 y2, .int .i64 y3, .int .i64 y4] 47))
          have OA0 := hideP (ho.out.stays al)
          have FA0 := hideP (hfm.out.stays al)
          have BA0 := hideP (below_trans bw.out al)
          have ZA0 : Hid (bi + 1 ≤ (wr.alloc (.cells #[.int .i64 (q : Int), .int .i64 y1, .int .i64 y2, .int .i64 y3, .int .i64 y4] 47)).heap.size) := Nat.le_trans hz.out al.size
          clear hy hxx hq3 hxw hwl hfo hfl al
          go_upto_region 14 with fail
          obtain ⟨wa, hwa⟩ : ∃ wa, wr.alloc (.cells #[.int .i64 (q : Int), .int .i64 y1, .int .i64 y2, .int .i64 y3, .int .i64 y4] 47) = wa := ⟨_, rfl⟩
          obtain ⟨b5, hb5⟩ : ∃ b5, wr.heap.size = b5 := ⟨_, rfl⟩
          rw [hwa] at X5 OA0 FA0 BA0 ZA0 ⊢
          rw [hb5] at X5 ⊢
          clear hwa hb5 r0 r1 r2 r3 r4 ho hfm bw hz
          obtain ⟨gl, cl, rfl, _⟩ := id OA0.out
          have SK : Hid (∀ W' : World, Below wa.heap.size wa W' → W'.cell? ⟨b5, 0, none⟩ = some (.int .i64 (q : Int)) ∧ W'.cell? ⟨b5, 1, none⟩ = some (.int .i64 y1) ∧ W'.cell? ⟨b5, 2, none⟩ = some (.int .i64 y2) ∧ W'.cell? ⟨b5, 3, none⟩ = some (.int .i64 y3) ∧ W'.cell? ⟨b5, 4, none⟩ = some (.int .i64 y4) ∧ W'.cell? ⟨g, q, none⟩ = some (.slice (some ⟨tb, fo, none⟩) fl fl)) := fun W' hb => by
            have f := (cells_of (keepA X5.out hb)).1
            exact ⟨f 0, f 1, f 2, f 3, f 4, FC.out W' (FA0.out.stays hb)⟩
          have WL : Hid (∀ W, Below wa.heap.size wa W → Calls Tryd.prog 31 #[.slice (some ⟨tb, fo, none⟩) fl fl, .agg #[.int .i64 (q : Int), .int .i64 y1, .int .i64 y2, .int .i64 y3, .int .i64 y4]] W fun e w' => ∃ wl : ByteArray, e = .returned (.string wl) ∧ Hid (wl.data.toList = wordL ⟨(q : Int), y1, y2, y3, y4⟩) ∧ wl.size ≤ 100 ∧ Below W.heap.size W w') := fun W hW => WL0.out W (FA0.out.stays hW) (HT.out.stays (below_trans BA0.out hW))
          have HP8 : Hid (ps.length + 1 ≤ 8000000) := by show _ ≤ _; omega
          obtain ⟨NP, hNP⟩ : ∃ NP, ps.length = NP := ⟨_, rfl⟩
          rw [hNP] at OA0 hne ⊢
          clear WL0 hNP
          go_region_held3 (fun W' => W'.cell? ⟨b5, 0, none⟩ = some (.int .i64 (q : Int)) ∧ W'.cell? ⟨b5, 1, none⟩ = some (.int .i64 y1) ∧ W'.cell? ⟨b5, 2, none⟩ = some (.int .i64 y2) ∧ W'.cell? ⟨b5, 3, none⟩ = some (.int .i64 y3) ∧ W'.cell? ⟨b5, 4, none⟩ = some (.int .i64 y4) ∧ W'.cell? ⟨g, q, none⟩ = some (.slice (some ⟨tb, fo, none⟩) fl fl)) (first | with_reducible exact S6.out | with_reducible exact SK.out _ AD.out | with_reducible exact SK.out _ F5.out | with_reducible exact SK.out _ (Below.refl _ _).drew) (first
            | (go_at_call 31; refine (WL.out _ (Below.refl _ _).drew).mono ?_; rintro e5 w5 ⟨wl, rfl, HWL, zwl, bel5⟩; have F5 := hideP ((Below.refl wa.heap.size wa).drew.trans (bel5.mono (Nat.le_refl _))); have AD := hideP (below_trans F5.out ((Below.refl w5.heap.size w5).alloc (Nat.le_refl _) (.cells #[.string wl] 9))); have OA := hideP (OA0.out.stays AD.out); have FA := hideP (FA0.out.stays AD.out); have XA := hideP (keepA X5.out AD.out); have BA := hideP (below_trans BA0.out AD.out); have ZA := hideP (Nat.le_trans ZA0.out AD.out.size); have CQ := hideP (newTx w5 wl); have TBL := hideP (show tb < w5.heap.size from Nat.lt_of_lt_of_le (Array.getElem?_eq_some_iff.1 FA0.out.1).1 F5.out.size); clear bel5)
            | (refine step_appE TxOk _ rfl _ _ rfl (bi + 1) _ ps wl w5.heap.size 0 1 rfl rfl OA.out CQ.out HP8.out ZA.out ?_; intro v6 w6 o6 grow6 loc6; have FA6 := hideP (FA.out.grown OA.out hne.out grow6); have S6 : Hid (w6.cell? ⟨b5, 0, none⟩ = some (.int .i64 (q : Int)) ∧ w6.cell? ⟨b5, 1, none⟩ = some (.int .i64 y1) ∧ w6.cell? ⟨b5, 2, none⟩ = some (.int .i64 y2) ∧ w6.cell? ⟨b5, 3, none⟩ = some (.int .i64 y3) ∧ w6.cell? ⟨b5, 4, none⟩ = some (.int .i64 y4) ∧ w6.cell? ⟨g, q, none⟩ = some (.slice (some ⟨tb, fo, none⟩) fl fl)) := (by (have f := (cells_of (OA.out.boxF TxOk (show 47 ≠ 9 by decide) XA.out grow6)).1); exact ⟨f 0, f 1, f 2, f 3, f 4, FC.out _ FA6.out⟩); have O6 := hideP o6; have B6 := hideP (BA.out.trans (grown_below grow6 (fun x e => by have h1 := (OA.out.low x e).1; have h2 := HBI.out; omega) BA.out.size)); have Z6 := hideP (Nat.le_trans ZA.out grow6.size); have NE6 : Hid (∀ x, v6.ownBlock = some x → x ≠ tb) := (fun x e => loc6.elim (fun h => hne.out x (h.symm.trans e)) (fun h => by (have e2 := Option.some.inj (h.symm.trans e); have h3 := TBL.out; simp at e2; omega))); obtain ⟨g6, c6, rfl, _⟩ := id o6; clear o6 grow6 loc6))
          go_wp2
          go_roundg (code.length - (j + 1))
          case rel => exact ⟨j + 1, ps ++ [wl], by omega, by go_num, by show _ = _; rw [List.map_append, hps.out, UP.out, ← HWL.out]; simp, fun p hp => by
              rcases List.mem_append.1 hp with h | h
              · exact hpz.out p h
              · rw [List.mem_singleton.1 h]; omega, by have h := O6.out; rw [show (ps ++ [wl]).length = 3 + j + 1 by rw [List.length_append, hpl]; rfl] at h; exact h, by have h := NE6.out; rw [show (ps ++ [wl]).length = 3 + j + 1 by rw [List.length_append, hpl]; rfl] at h; exact h, FA6.out, B6.out, Z6.out⟩
          case measure => omega
        · have hjn : j = code.length := by omega
          subst hjn
          obtain ⟨gv, cv, rfl, hcv, hgv, hcells⟩ := tx_at ho.out
          have JT : Hid (Lib.join (ps.map (fun b : ByteArray => b.data.toList)) [10] ++ [10] = P) := by
            show _ = _
            rw [hps.out, List.take_length]
            show Lib.join (s0.data.toList :: _) [10] ++ [10] = _
            rw [join_nl, EQ.out, HL0.out]
            unfold linesL
            rw [List.take_length]
            simp [Function.comp_def]
          have JL : Hid ((Lib.join (ps.map (fun b : ByteArray => b.data.toList)) [10]).length ≤ 2000000) := by
            have h1 := nl_len ps hpz.out
            have h2 : Lib.join (ps.map (fun b : ByteArray => b.data.toList)) [10] ++ [10] = ((ps.map (fun b : ByteArray => b.data.toList)).map (· ++ [10])).flatten := by
              cases hpp : ps.map (fun b : ByteArray => b.data.toList) with
              | nil => have := congrArg List.length hpp; rw [List.length_map, List.length_nil] at this; omega
              | cons x r => exact join_nl x r
            rw [← h2, List.length_append] at h1
            simp only [List.length_cons, List.length_nil] at h1
            show _ ≤ _
            omega
          have JC := hideP (Tryd.strings_Join gv 0 cv ps ⟨#[10]⟩ wr hcells hgv (by omega) hcv (by show (Lib.join _ [10]).length ≤ _; have := JL.out; omega))
          obtain ⟨n9, hn9⟩ : ∃ n9, ps.length = n9 := ⟨_, rfl⟩
          rw [hn9] at JC ⊢
          clear hn9 hpl hcv hgv hcells ho
          go_wp2_with fail
          refine JC.out.mono ?_
          rintro e7 w7 ⟨rfl, b7⟩
          have B7 := hideP (below_trans bw.out b7)
          obtain ⟨s7, hs7⟩ : ∃ s7 : ByteArray, ⟨(Lib.join (ps.map (fun b : ByteArray => b.data.toList)) (⟨#[10]⟩ : ByteArray).data.toList).toArray⟩ = s7 := ⟨_, rfl⟩
          rw [hs7]
          have S7 : Hid (s7.data.toList ++ [10] = P) := by rw [← hs7]; exact JT.out
          have z7 : s7.size ≤ 2000000 := by rw [← hs7]; exact JL.out
          have m7 : ¬ 9223372036854775807 < s7.size + 1 := by omega
          clear hs7 b7 JC
          go_wp2
          go_ret
          exact ⟨ret_str (mk_ofA (by rw [← S7.out]; simp)), B7.out⟩
end Go.Proofs.YtheholgdfmipbaaDoor

/- Asm, both sides, as the law asks. -/
namespace Go.Proofs.YtheholgdfmipbaaDoor
open Go.ChangeShapes Go.WideShapes Go.ChangeAt Go.RowKit
theorem impl_asmQ (m : Img) (w : World) (B : Nat) (v : Array Value) (h : ImgIs w B v m) (ht : TabM w) :
    Calls Tryd.prog 12 #[.agg v] w fun en w' => en = .returned (.string ⟨(asmL m).toArray⟩) ∧ Below w.heap.size w w' := by
  obtain ⟨h1, ml, h2⟩ := ht
  exact impl_asm m w B v h h1 ml h2
end Go.Proofs.YtheholgdfmipbaaDoor
