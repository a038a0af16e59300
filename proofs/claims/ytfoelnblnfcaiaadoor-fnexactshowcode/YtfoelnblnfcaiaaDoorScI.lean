/- The contract of impl.ShowCode. -/
import Derived.Test.YtfoelnblnfcaiaaDoorScP
import Derived.Test.YtfoelnblnfcaiaaDoorImplDec
import Derived.Test.YtfoelnblnfcaiaaDoorShelfJ
import Derived.Test.YtfoelnblnfcaiaaDoorOwnSt
import Derived.Deep.RegionHeld3
import Derived.Deep.RegionWith
namespace Go.Proofs.YtfoelnblnfcaiaaDoor
open Go.ChangeShapes Go.WideShapes Go.ChangeAt Go.RowKit
/-- The two tables that the text is told by. -/
def TabW (w : World) : Prop := Lib.TabIs Tryd.prog w "internal/strconv.uint64pow10" .u64 Lib.pow10Tab ∧ w.var? Tryd.prog "loop.example/g00385/impl.opNames" = some opV
theorem gN : Tryd.prog.globalNamed "loop.example/g00385/impl.opNames" = some 0 := by kernel_rfl
theorem tabW_below {w w' : World} (h : TabW w) (hb : Below w.heap.size w w') : TabW w' := ⟨tab_below h.1 hb, var_below h.2 hb⟩
theorem namW {w : World} (h : TabW w) (q : Nat) (hq : q < 12) : w.cell? ⟨0, q, none⟩ = some (.string (nmB q)) := by
  have := World.var?_cell gN h.2 q
  rw [this, opV_at q hq]
theorem decW (n : Int) (h : I64 n) (w : World) (ht : TabW w) :
    Calls Tryd.prog 16 #[.int .i64 n] w fun e w' => ∃ s : ByteArray, e = .returned (.string s) ∧ Hid (s.data.toList = Lib.itoa n) ∧ s.size ≤ 21 ∧ Below w.heap.size w w' :=
  (impl_dec n w h.1 h.2 ht.1).mono fun e w' ⟨he, hw⟩ => ⟨_, he, by show _ = _; simp, by have := itoa_len h.1 h.2; simpa [ByteArray.size] using this, hw⟩
theorem flatW_len (ps : List ByteArray) (h : ∀ p ∈ ps, p.size ≤ 200) : (ps.map (fun b : ByteArray => b.data.toList)).flatten.length ≤ 200 * ps.length := by
  induction ps with
  | nil => simp
  | cons p ps ih =>
    have h1 := h p List.mem_cons_self
    have h2 := ih (fun q hq => h q (List.mem_cons_of_mem _ hq))
    have h3 : p.data.toList.length ≤ 200 := by simpa using h1
    rw [List.map_cons, List.flatten_cons, List.length_append, List.length_cons]
    omega
theorem newW (w : World) (o : Obj) : (w.alloc o).heap[w.heap.size]? = some o := by show (w.heap.push o)[w.heap.size]? = _; exact Array.getElem?_push_size
theorem six_at {w : World} {g : Nat} {t : TypeId} {a0 a1 a2 a3 a4 a5 : ByteArray} (h : w.heap[g]? = some (.cells #[.string a0, .string a1, .string a2, .string a3, .string a4, .string a5] t (0, 0))) : ∀ (j : Nat) x, [a0, a1, a2, a3, a4, a5][j]? = some x → w.cell? ⟨g, 0 + j, none⟩ = some (.string x) := fun j x hx => by
  rw [Nat.zero_add, (cells_of h).1]
  match j, hx with
  | 0, hx => simp at hx; subst hx; rfl
  | 1, hx => simp at hx; subst hx; rfl
  | 2, hx => simp at hx; subst hx; rfl
  | 3, hx => simp at hx; subst hx; rfl
  | 4, hx => simp at hx; subst hx; rfl
  | 5, hx => simp at hx; subst hx; rfl
  | j + 6, hx => simp at hx
set_option maxHeartbeats 16000000 in
set_option maxRecDepth 100000 in
theorem impl_showCode (m : Img) (w : World) (B : Nat) (v : Array Value) (h : ImgIs w B v m) (GO : ImOk 15 m) (ht : TabW w) :
    Calls Tryd.prog 7 #[.agg v] w fun en w' => en = .returned (.string ⟨(showL m).toArray⟩) ∧ Below w.heap.size w w' := by
  have HT := hideP ht
  obtain ⟨y, hy⟩ : ∃ y, imgOk m = y := ⟨_, rfl⟩
  have CY : Hid (∀ W, Below w.heap.size w W → Calls Tryd.prog 15 #[.agg v] W fun en w' => en = .returned (.bool y) ∧ Below W.heap.size W w') := fun W hW => by rw [← hy]; exact GO W B v (ImgKeeps.stays h hW)
  have HN : Hid (y = true → m.code.length ≤ 6000 ∧ 1 ≤ m.code.length) := fun e => (imgOk_few (by rw [hy]; exact e))
  have HQ : Hid (y = true → ∀ x ∈ m.code, ∃ q : Nat, x.op = (q : Int) ∧ q < 12) := fun e x hx => imgOk_word (by rw [hy]; exact e) hx
  have EP : Hid (showL m = if y = true then (scUp m.code m.code.length).flatten else []) := by show _ = _; unfold showL; rw [hy]
  obtain ⟨P, hP⟩ : ∃ P, showL m = P := ⟨_, rfl⟩
  rw [hP] at EP ⊢
  clear hy hP GO ht
  obtain ⟨sizes, params, slots, code⟩ := m
  obtain ⟨us, cs, ub, cb, rfl, _, _, hb⟩ := h
  simp only at *
  have hm := maxLen_lt
  have hl := hb.1
  have HB := hideP hb
  clear hb
  have AL : Hid (Below w.heap.size w (w.alloc (.cells #[.slice us sizes.length cs, .int .i64 params, .int .i64 slots, .slice ub code.length cb] 30))) := (Below.refl _ _).alloc (Nat.le_refl _) _
  have BX1 := hideP (newW w (.cells #[.slice us sizes.length cs, .int .i64 params, .int .i64 slots, .slice ub code.length cb] 30))
  go_enter Tryd.func7, Tryd.ntmps7
  go_wp2_with fail
  refine (CY.out _ AL.out).mono ?_
  rintro e1 w1 ⟨rfl, b1⟩
  have BB := hideP (below_trans AL.out b1)
  have BX := hideP (keepW BX1.out b1)
  have hlt1 : w.heap.size < w1.heap.size := (Array.getElem?_eq_some_iff.1 BX.out).1
  clear b1 BX1 AL
  cases y
  · go_wp2
    go_ret
    exact ⟨ret_str (by rw [EP.out, if_neg (by simp)]), BB.out⟩
  · obtain ⟨hn6, hn1⟩ := HN.out rfl
    have al1 := (Below.refl w1.heap.size w1).alloc (Nat.le_refl _) (.cells #[] 9)
    have p3 := (cells_of (keepW BX.out al1)).1 3
    simp at p3
    have O1 : Hid (OwnS (w1.alloc (.cells #[] 9)) (w.heap.size + 1) (.slice (some ⟨w1.heap.size, 0, none⟩) 0 0) []) := World.ownsRow_made (base := w.heap.size + 1) (e := 9) (size := 1) w1 #[] 0 (by omega) (Nat.zero_le _) rfl
    have B1 := hideP (below_trans BB.out al1)
    have Z1 : Hid (w.heap.size + 1 ≤ (w1.alloc (.cells #[] 9)).heap.size) := by show _ ≤ _; simp; omega
    clear al1 BX
    go_wp2
    clear p3
    go_loopg [3, 14] code.length (fun gk l i wr => ∃ (j : Nat) (ps : List ByteArray), gk + j = code.length ∧ i = .int .i64 j ∧ Hid (ps.map (fun b : ByteArray => b.data.toList) = scUp code j) ∧ Hid (∀ p ∈ ps, p.size ≤ 200) ∧ Hid (OwnS wr (w.heap.size + 1) l ps) ∧ Hid (Below w.heap.size w wr) ∧ Hid (w.heap.size + 1 ≤ wr.heap.size))
    case atStart => exact ⟨0, [], by simp, rfl, rfl, by show ∀ p ∈ _, _; simp, O1.out, B1.out, Z1.out⟩
    case round =>
      obtain ⟨j, ps, hj, rfl, hps, hsz, ho, bw, hzr⟩ := hrel
      have hpl : ps.length = j := by have := congrArg List.length hps.out; rw [List.length_map, scUp_len code j (by omega)] at this; exact this
      clear O1 B1 Z1
      by_cases hlt : j < code.length
      · obtain ⟨b, o, y0, y1, y2, y3, y4, rfl, _, hbi, hy, r0, r1, r2, r3, r4, hxx⟩ := Wrd_get (HB.out.stays WrdKeeps bw.out) j hlt
        obtain ⟨q, hq1, hq2⟩ := HQ.out trivial _ (List.getElem_mem hlt)
        have hwl := lineW_len (i := j) (by omega) hxx.2 (by rw [hy] at hq1; exact ⟨q, hq1, hq2⟩)
        rw [hy] at hq1
        simp only at hq1
        subst hq1
        have UP := hideP (scUp_at hlt hy)
        have WL := hideP hwl
        have LP := hideP (line_parts j ⟨(q : Int), y1, y2, y3, y4⟩)
        have hwf := hxx.2
        obtain ⟨_, i1, i2, i3, i4⟩ := hwf
        have D0 : Hid (∀ W, Below w.heap.size w W → _) := fun W hW => decW (j : Int) (by unfold I64; omega) W (tabW_below HT.out hW)
        have D1 : Hid (∀ W, Below w.heap.size w W → _) := fun W hW => decW y1 i1 W (tabW_below HT.out hW)
        have D2 : Hid (∀ W, Below w.heap.size w W → _) := fun W hW => decW y2 i2 W (tabW_below HT.out hW)
        have D3 : Hid (∀ W, Below w.heap.size w W → _) := fun W hW => decW y3 i3 W (tabW_below HT.out hW)
        have D4 : Hid (∀ W, Below w.heap.size w W → _) := fun W hW => decW y4 i4 W (tabW_below HT.out hW)
        have NM : Hid (∀ W, Below w.heap.size w W → W.cell? ⟨0, q, none⟩ = some (.string (nmB q))) := fun W hW => namW (tabW_below HT.out hW) q hq2
        have zn := nmB_size q hq2
        have PW : Hid (partsW j ⟨(q : Int), y1, y2, y3, y4⟩ = [Lib.itoa (j : Int) ++ [58], (nmB q).data.toList, Lib.itoa y1, Lib.itoa y2, Lib.itoa y3, Lib.itoa y4]) := by show _ = _; simp only [partsW, Int.toNat_natCast]
        obtain ⟨nm, hnm⟩ : ∃ nm, nmB q = nm := ⟨_, rfl⟩
        rw [hnm] at NM zn PW
        have al := (Below.refl wr.heap.size wr).alloc (Nat.le_refl _) (.cells #[.int .i64 (q : Int), .int .i64 y1, .int .i64 y2, .int .i64 y3, .int .i64 y4] 39)
        have X5 := hideP (newW wr (.cells #[.int .i64 (q : Int), .int .i64 y1, .int .i64 y2, .int .i64 y3, .int .i64 y4] 39))
        have OA := hideP (ho.out.stays al)
        have BA := hideP (below_trans bw.out al)
        have ZA : Hid (w.heap.size + 1 ≤ (wr.alloc (.cells #[.int .i64 (q : Int), .int .i64 y1, .int .i64 y2, .int .i64 y3, .int .i64 y4] 39)).heap.size) := Nat.le_trans hzr.out al.size
        have hq3 : (q : Int) < 12 := by omega
        clear hy hxx hnm i1 i2 i3 i4 hwl al
        go_upto_region 7 with fail
        obtain ⟨wa, hwa⟩ : ∃ wa, wr.alloc (.cells #[.int .i64 (q : Int), .int .i64 y1, .int .i64 y2, .int .i64 y3, .int .i64 y4] 39) = wa := ⟨_, rfl⟩
        obtain ⟨b5, hb5⟩ : ∃ b5, wr.heap.size = b5 := ⟨_, rfl⟩
        rw [hwa] at X5 OA BA ZA ⊢
        rw [hb5] at X5 ⊢
        clear hwa hb5 r0 r1 r2 r3 r4
        have SK : Hid (∀ W' : World, Below wa.heap.size wa W' → W'.cell? ⟨b5, 0, none⟩ = some (.int .i64 (q : Int)) ∧ W'.cell? ⟨b5, 1, none⟩ = some (.int .i64 y1) ∧ W'.cell? ⟨b5, 2, none⟩ = some (.int .i64 y2) ∧ W'.cell? ⟨b5, 3, none⟩ = some (.int .i64 y3) ∧ W'.cell? ⟨b5, 4, none⟩ = some (.int .i64 y4) ∧ W'.cell? ⟨0, q, none⟩ = some (.string nm)) := fun W' hb => by
          have f := (cells_of (keepW X5.out hb)).1
          exact ⟨f 0, f 1, f 2, f 3, f 4, NM.out W' (below_trans BA.out hb)⟩
        go_region_held3 (fun W' => W'.cell? ⟨b5, 0, none⟩ = some (.int .i64 (q : Int)) ∧ W'.cell? ⟨b5, 1, none⟩ = some (.int .i64 y1) ∧ W'.cell? ⟨b5, 2, none⟩ = some (.int .i64 y2) ∧ W'.cell? ⟨b5, 3, none⟩ = some (.int .i64 y3) ∧ W'.cell? ⟨b5, 4, none⟩ = some (.int .i64 y4) ∧ W'.cell? ⟨0, q, none⟩ = some (.string nm)) (first | with_reducible exact SK.out _ AD.out | with_reducible exact SK.out _ F4.out | with_reducible exact SK.out _ F3.out | with_reducible exact SK.out _ F2.out | with_reducible exact SK.out _ F1.out | with_reducible exact SK.out _ F0.out | with_reducible exact SK.out _ (Below.refl _ _).drew) (first
          | (go_at_call_of 16 (Value.int .i64 (j : Int)); refine (D0.out _ (below_trans BA.out (Below.refl _ _).drew)).mono ?_; rintro e0 w0 ⟨s0, rfl, S0, z0, b0⟩; have F0 := hideP ((Below.refl wa.heap.size wa).drew.trans (b0.mono (Nat.le_refl _))); have n1 : ¬ 9223372036854775807 < s0.size + 1 := (by omega); clear b0)
          | (go_at_call_of 16 (Value.int .i64 y1); refine (D1.out _ (below_trans BA.out F0.out)).mono ?_; rintro e1 w1 ⟨s1, rfl, S1, z1, b1⟩; have F1 := hideP (below_trans F0.out b1); clear b1)
          | (go_at_call_of 16 (Value.int .i64 y2); refine (D2.out _ (below_trans BA.out F1.out)).mono ?_; rintro e2 w2 ⟨s2, rfl, S2, z2, b2⟩; have F2 := hideP (below_trans F1.out b2); clear b2)
          | (go_at_call_of 16 (Value.int .i64 y3); refine (D3.out _ (below_trans BA.out F2.out)).mono ?_; rintro e3 w3 ⟨s3, rfl, S3, z3, b3⟩; have F3 := hideP (below_trans F2.out b3); clear b3)
          | (go_at_call_of 16 (Value.int .i64 y4); refine (D4.out _ (below_trans BA.out F3.out)).mono ?_; rintro e4 w4 ⟨s4, rfl, S4, z4, b4⟩; have F4 := hideP (below_trans F3.out b4); have AD := hideP (below_trans F4.out ((Below.refl w4.heap.size w4).alloc (Nat.le_refl _) (.cells #[.string (s0 ++ ⟨#[58]⟩), .string nm, .string s1, .string s2, .string s3, .string s4] 9))); clear b4))
        have OB := hideP (OA.out.stays AD.out)
        have BD := hideP (below_trans BA.out AD.out)
        have ZD : Hid (w.heap.size + 1 ≤ (w4.alloc (.cells #[.string (s0 ++ ⟨#[58]⟩), .string nm, .string s1, .string s2, .string s3, .string s4] 9)).heap.size) := Nat.le_trans ZA.out AD.out.size
        have N6 := hideP (newW w4 (.cells #[.string (s0 ++ ⟨#[58]⟩), .string nm, .string s1, .string s2, .string s3, .string s4] 9))
        have JT : Hid (Lib.join ([s0 ++ ⟨#[58]⟩, nm, s1, s2, s3, s4].map (fun b : ByteArray => b.data.toList)) [32] = Lib.join (partsW j ⟨(q : Int), y1, y2, y3, y4⟩) [32]) := by
          show _ = _
          rw [PW.out]
          simp [S0.out, S1.out, S2.out, S3.out, S4.out]
        have JL : Hid ((Lib.join (partsW j ⟨(q : Int), y1, y2, y3, y4⟩) [32]).length ≤ 149) := by
          show _ ≤ _
          have h1 := WL.out
          rw [← LP.out, List.length_append, List.length_singleton] at h1
          omega
        obtain ⟨g6, hg6⟩ : ∃ g6, w4.heap.size = g6 := ⟨_, rfl⟩
        obtain ⟨w6, hw6⟩ : ∃ w6, w4.alloc (.cells #[.string (s0 ++ ⟨#[58]⟩), .string nm, .string s1, .string s2, .string s3, .string s4] 9) = w6 := ⟨_, rfl⟩
        rw [hw6] at OB BD ZD N6 ⊢
        rw [hg6] at N6 ⊢
        have JC := hideP (Tryd.strings_Join g6 0 6 [s0 ++ ⟨#[58]⟩, nm, s1, s2, s3, s4] ⟨#[32]⟩ w6 (six_at N6.out) (Array.getElem?_eq_some_iff.1 N6.out).1 (by simp) (by simp) (by have := JT.out; show (Lib.join _ [32]).length ≤ _; rw [this]; have := JL.out; omega))
        clear hw6 hg6 AD F0 F1 F2 F3 F4 SK D0 D1 D2 D3 D4 NM X5 OA BA ZA N6 S0 S1 S2 S3 S4 n1 PW
        go_wp2_with fail
        refine JC.out.mono ?_
        rintro e7 w7 ⟨rfl, b7⟩
        obtain ⟨s7, hs7⟩ : ∃ s7 : ByteArray, ⟨(Lib.join ([s0 ++ ⟨#[58]⟩, nm, s1, s2, s3, s4].map (fun b : ByteArray => b.data.toList)) (⟨#[32]⟩ : ByteArray).data.toList).toArray⟩ = s7 := ⟨_, rfl⟩
        rw [hs7]
        have S7 : Hid (s7.data.toList ++ [10] = lineW j ⟨(q : Int), y1, y2, y3, y4⟩) := by rw [← hs7, ← LP.out]; show Lib.join _ [32] ++ [10] = _; rw [JT.out]
        have z7 : s7.size ≤ 149 := by rw [← hs7]; show (Lib.join _ [32]).length ≤ _; rw [JT.out]; exact JL.out
        have O7 := hideP (OB.out.stays b7)
        have B7 := hideP (below_trans BD.out b7)
        have Z7 : Hid (w.heap.size + 1 ≤ w7.heap.size) := Nat.le_trans ZD.out b7.size
        have AL := hideP (fun o : Obj => (Below.refl w7.heap.size w7).alloc (Nat.le_refl _) o)
        have m7 : ¬ 9223372036854775807 < s7.size + 1 := by omega
        have PS1 : Hid ((ps ++ [s7 ++ ⟨#[10]⟩]).map (fun b : ByteArray => b.data.toList) = scUp code (j + 1)) := by
          show _ = _
          rw [List.map_append, hps.out, UP.out, ← S7.out]
          simp
        have SZ1 : Hid (∀ p ∈ ps ++ [s7 ++ ⟨#[10]⟩], p.size ≤ 200) := fun p hp => by
          rcases List.mem_append.1 hp with h | h
          · exact hsz.out p h
          · rw [List.mem_singleton.1 h, ByteArray.size_append]; show s7.size + 1 ≤ 200; omega
        clear hs7 b7 JC JT JL OB BD ZD
        go_upto_region 9 with (at_builtin; refine list_appS _ rfl _ _ rfl (w.heap.size + 1) _ ps (s7 ++ ⟨#[10]⟩) w7.heap.size rfl rfl (O7.out.stays (AL.out _)) (by simp) (by omega) (Nat.le_trans Z7.out (AL.out _).size) ?_; intro v9 w9 o9 grow9)
        have O9 := hideP o9
        have B9 := hideP ((below_trans B7.out (AL.out _)).grown grow9 (Nat.le_trans (Nat.le_of_succ_le Z7.out) (AL.out _).size) (fun b' hb' => by have := (O7.out.low b' hb').1; omega))
        have Z9 : Hid (w.heap.size + 1 ≤ w9.heap.size) := Nat.le_trans Z7.out (Nat.le_trans (AL.out _).size grow9.size)
        clear o9 grow9 AL O7 B7 Z7
        go_wp2
        go_roundg (code.length - (j + 1))
        case rel => exact ⟨j + 1, _, by omega, by go_num, PS1.out, SZ1.out, O9.out, B9.out, Z9.out⟩
        case measure => omega
      · have hjn : j = code.length := by omega
        subst hjn
        obtain ⟨gv, cv, rfl, hcv, hgv, hcells⟩ := ho.out.at (by omega)
        have FL : Hid ((ps.map (fun b : ByteArray => b.data.toList)).flatten.length ≤ 1200000) := by have h1 := flatW_len ps hsz.out; show _ ≤ _; omega
        have JT : Hid (Lib.join (ps.map (fun b : ByteArray => b.data.toList)) [] = P) := by
          show _ = _
          rw [EP.out, if_pos trivial, joinW_empty, hps.out]
        have JC := hideP (Tryd.strings_Join gv 0 cv ps ⟨#[]⟩ wr hcells hgv (by omega) hcv (by show (Lib.join _ []).length ≤ _; rw [joinW_empty]; have := FL.out; omega))
        obtain ⟨n9, hn9⟩ : ∃ n9, ps.length = n9 := ⟨_, rfl⟩
        rw [hn9] at JC ⊢
        clear hn9 hpl hcv hgv hcells ho
        go_wp2_with fail
        refine JC.out.mono ?_
        rintro e7 w7 ⟨rfl, b7⟩
        have B7 := hideP (below_trans bw.out b7)
        obtain ⟨s7, hs7⟩ : ∃ s7 : ByteArray, ⟨(Lib.join (ps.map (fun b : ByteArray => b.data.toList)) (⟨#[]⟩ : ByteArray).data.toList).toArray⟩ = s7 := ⟨_, rfl⟩
        rw [hs7]
        have S7 : Hid (s7.data.toList = P) := by rw [← hs7]; exact JT.out
        clear hs7 b7 JC
        go_wp2
        go_ret
        exact ⟨ret_str (mk_of S7.out), B7.out⟩
end Go.Proofs.YtfoelnblnfcaiaaDoor
