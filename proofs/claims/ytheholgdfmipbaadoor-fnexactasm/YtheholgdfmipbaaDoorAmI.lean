/- The contracts of impl.formField and impl.wordLine. -/
import Derived.Test.YtheholgdfmipbaaDoorAmS
import Derived.Test.YtheholgdfmipbaaDoorAmF
import Derived.Test.YtheholgdfmipbaaDoorImplDec
import Derived.Test.YtheholgdfmipbaaDoorOwnSt
namespace Go.Proofs.YtheholgdfmipbaaDoor
open Go.ChangeShapes Go.WideShapes Go.ChangeAt Go.RowKit
/-- What the package variables hold that a line is told by. -/
structure TabA (w : World) : Prop where
  pow : Lib.TabIs Tryd.prog w "internal/strconv.uint64pow10" .u64 Lib.pow10Tab
  nam : w.var? Tryd.prog "loop.example/g00385/impl.opNames" = some opV
  alu : w.var? Tryd.prog "loop.example/g00385/impl.aluSigns" = some aluV
theorem gNA : Tryd.prog.globalNamed "loop.example/g00385/impl.opNames" = some 0 := by kernel_rfl
theorem gAA : Tryd.prog.globalNamed "loop.example/g00385/impl.aluSigns" = some 1 := by kernel_rfl
theorem TabA.stays {w w' : World} (h : TabA w) (hb : Below w.heap.size w w') : TabA w' := ⟨tab_below h.pow hb, var_below h.nam hb, var_below h.alu hb⟩
theorem TabA.namAt {w : World} (h : TabA w) (q : Nat) (hq : q < 12) : w.cell? ⟨0, q, none⟩ = some (.string (nmB q)) := by
  have := World.var?_cell gNA h.nam q
  rw [this, opV_at q hq]
theorem TabA.aluAt {w : World} (h : TabA w) (q : Nat) (hq : q < 6) : w.cell? ⟨1, q, none⟩ = some (.string (aluB q)) := by
  have := World.var?_cell gAA h.alu q
  rw [this, aluV_at q hq]
theorem decA (n : Int) (h : I64 n) (w : World) (ht : TabA w) :
    Calls Tryd.prog 28 #[.int .i64 n] w fun e w' => ∃ s : ByteArray, e = .returned (.string s) ∧ Hid (s.data.toList = Lib.itoa n) ∧ s.size ≤ 21 ∧ Below w.heap.size w w' :=
  (impl_dec n w h.1 h.2 ht.pow).mono fun e w' ⟨he, hw⟩ => ⟨_, he, by show _ = _; simp, by have := itoa_len h.1 h.2; simpa [ByteArray.size] using this, hw⟩
theorem lastB_at (p : ByteArray) (n : Nat) (h : n < p.size) (hn : p.size = n + 1) : lastB p = p[n] := by
  unfold lastB
  have hl : p.data.toList.length = n + 1 := by rw [← hn]; simp
  rw [List.getLast?_eq_getElem?, hl, Nat.add_sub_cancel, List.getElem?_eq_getElem (by omega)]
  rfl
set_option maxHeartbeats 4000000 in
theorem formField_any (p : ByteArray) (bx n : Nat) (hn : p.size = n + 1) (hp : p.size ≤ 4) (w : World) :
    Calls Tryd.prog 49 #[.pointer (some ⟨bx, 0, none⟩), .string p] w fun e w' => e = .returned (.tuple #[.string (p.extract 0 n), .pointer (some ⟨bx, fieldN (lastB p), none⟩)]) ∧ Below w.heap.size w w' := by
  have hlt : n < p.size := by omega
  have hl := lastB_at p n hlt hn
  have e1 : ((p.size : Int) - 1) = (n : Int) := by omega
  have LB := hideP hl
  have DR : Hid (∀ m, Below w.heap.size w (w.drewN m)) := fun m => ⟨rfl, rfl, rfl, Nat.le_refl _, fun _ _ => rfl⟩
  have DR0 : Hid (Below w.heap.size w w) := Below.refl _ _
  clear hl
  have hc0 : (0 : Int) ≤ p[n].toNat := by omega
  have hc1 : (p[n].toNat : Int) ≤ 255 := by have := p[n].toNat_lt; omega
  by_cases h1 : p[n] = 82
  · have hc : p[n].toNat = 82 := by rw [h1]; rfl
    have EF : Hid (fieldN (lastB p) = 1) := by show _ = _; rw [LB.out, h1]; rfl
    clear h1 hc0 hc1
    go_enter Tryd.func49, Tryd.ntmps49
    go_upto_region 4 with fail
    go_quiet (fail)
    go_wp2
    go_ret2
    exact ⟨by rw [EF.out]; rfl, DR.out _⟩
  by_cases h2 : p[n] = 65
  · have hc : p[n].toNat = 65 := by rw [h2]; rfl
    have EF : Hid (fieldN (lastB p) = 2) := by show _ = _; rw [LB.out, h2]; rfl
    clear h1 h2 hc0 hc1
    go_enter Tryd.func49, Tryd.ntmps49
    go_upto_region 6 with fail
    go_quiet (fail)
    go_wp2
    go_ret2
    exact ⟨by rw [EF.out]; rfl, DR.out _⟩
  by_cases h3 : p[n] = 66
  · have hc : p[n].toNat = 66 := by rw [h3]; rfl
    have EF : Hid (fieldN (lastB p) = 3) := by show _ = _; rw [LB.out, h3]; rfl
    clear h1 h2 h3 hc0 hc1
    go_enter Tryd.func49, Tryd.ntmps49
    go_upto_region 8 with fail
    go_quiet (fail)
    go_wp2
    go_ret2
    exact ⟨by rw [EF.out]; rfl, DR.out _⟩
  have EF : Hid (fieldN (lastB p) = 4) := by show _ = _; rw [LB.out]; unfold fieldN; rw [if_neg h1, if_neg h2, if_neg h3]
  have n1 : ((p[n].toNat : Int) == 82) = false := by rw [beq_eq_false_iff_ne]; intro e; apply h1; apply UInt8.toNat_inj.1; show p[n].toNat = 82; omega
  have n2 : ((p[n].toNat : Int) == 65) = false := by rw [beq_eq_false_iff_ne]; intro e; apply h2; apply UInt8.toNat_inj.1; show p[n].toNat = 65; omega
  have n3 : ((p[n].toNat : Int) == 66) = false := by rw [beq_eq_false_iff_ne]; intro e; apply h3; apply UInt8.toNat_inj.1; show p[n].toNat = 66; omega
  clear h1 h2 h3
  go_enter Tryd.func49, Tryd.ntmps49
  go_upto_region 9 with fail
  go_quiet (fail)
  go_wp2
  go_ret2
  exact ⟨by rw [EF.out]; rfl, DR.out _⟩
theorem own_oneS (w : World) (B : Nat) (hB : B ≤ w.heap.size) (s : ByteArray) : OwnS (w.alloc (.cells #[.string s] 9)) B (.slice (some ⟨w.heap.size, 0, none⟩) 1 1) [s] :=
  ⟨by simp, .inr ⟨w.heap.size, 1, #[.string s], rfl, hB, heap_alloc_new w _, Nat.le_refl _, by unfold maxLen; decide, rfl, by simp⟩⟩
/-- The cells of a word's box. -/
theorem fieldA_at {w : World} {bx : Nat} {x : Wrd} (h : w.heap[bx]? = some (.cells #[.int .i64 x.op, .int .i64 x.r, .int .i64 x.a, .int .i64 x.b, .int .i64 x.n] 47 (0, 0))) (c : UInt8) : w.cell? ⟨bx, fieldN c, none⟩ = some (.int .i64 (fieldI x c)) := by
  rw [(cells_of h).1]
  unfold fieldN fieldI
  by_cases h1 : c = 82
  · rw [if_pos h1, if_pos h1]; rfl
  rw [if_neg h1, if_neg h1]
  by_cases h2 : c = 65
  · rw [if_pos h2, if_pos h2]; rfl
  rw [if_neg h2, if_neg h2]
  by_cases h3 : c = 66
  · rw [if_pos h3, if_pos h3]; rfl
  rw [if_neg h3, if_neg h3]; rfl
theorem fieldI_i64 {x : Wrd} (h : x.wf) (c : UInt8) : I64 (fieldI x c) := by
  obtain ⟨_, h1, h2, h3, h4⟩ := h
  unfold fieldI
  split
  · exact h1
  · split
    · exact h2
    · split
      · exact h3
      · exact h4
theorem extract_init (p : ByteArray) (n : Nat) (hn : p.size = n + 1) : (p.extract 0 n).data.toList = p.data.toList.dropLast := by
  rw [Lib.extract_data, List.drop_zero, List.dropLast_eq_take]
  have hl : p.data.toList.length = n + 1 := by rw [← hn]; simp
  rw [hl]; simp
set_option maxHeartbeats 8000000 in
set_option maxRecDepth 100000 in
theorem wordLine_any (x : Wrd) (q : Nat) (hq : x.op = (q : Int)) (hq2 : q < 12) (hx : x.wf) (hs : q = 3 → ∃ k : Nat, x.n = (k : Int) ∧ k < 6) (w : World) (b o : Nat) (hc : ∀ (j : Nat) (t : ByteArray), (frmT q)[j]? = some t → w.cell? ⟨b, o + j, none⟩ = some (.string t)) (hb : b < w.heap.size) (ht : TabA w) :
    Calls Tryd.prog 31 #[.slice (some ⟨b, o, none⟩) (frmT q).length (frmT q).length, .agg #[.int .i64 x.op, .int .i64 x.r, .int .i64 x.a, .int .i64 x.b, .int .i64 x.n]] w fun e w' => e = .returned (.string ⟨(wordL x).toArray⟩) ∧ Below w.heap.size w w' := by
  have hfi := fieldI_i64 hx
  have FD : Hid (∀ c W, TabA W → _) := fun c W hW => decA (fieldI x c) (hfi c) W hW
  have hlen : (wordL x).length ≤ 200 := by
    obtain ⟨hF4, hFc⟩ := fmB_ok q hq2
    have zn := nmB_size q hq2
    have h1 := lineK_len x (fmB q) (nmB q) (fun c hc => pieceL_len hx (fun e => hs (by omega)) (fun e => by have h2 := (hFc c hc).2 e; rw [hq, h2]; rfl)) (fmB q).size
    unfold lineK at h1
    rw [List.take_of_length_le (by simp)] at h1
    unfold wordL
    rw [hq, Int.toNat_natCast]
    omega
  obtain ⟨op, r, a, b1, n⟩ := x
  simp only at hq hs ⊢
  subst hq
  have FI : Hid (∀ {W : World} {bx : Nat}, W.heap[bx]? = some (.cells #[.int .i64 (q : Int), .int .i64 r, .int .i64 a, .int .i64 b1, .int .i64 n] 47 (0, 0)) → ∀ c, W.cell? ⟨bx, fieldN c, none⟩ = some (.int .i64 (fieldI ⟨(q : Int), r, a, b1, n⟩ c))) := fun h c => fieldA_at (x := ⟨(q : Int), r, a, b1, n⟩) h c
  have PT : Hid (∀ p, partL ⟨(q : Int), r, a, b1, n⟩ p = if p.data.toList = [83, 73, 71, 78] then (aluB n.toNat).data.toList else p.data.toList.dropLast ++ Lib.itoa (fieldI ⟨(q : Int), r, a, b1, n⟩ (lastB p))) := fun p => rfl
  have EL : Hid (Lib.join ((nmB q).data.toList :: (frmT q).map (partL ⟨(q : Int), r, a, b1, n⟩)) [32] = wordL ⟨(q : Int), r, a, b1, n⟩) := parts_line q r a b1 n hq2
  obtain ⟨hT1, hT2, _, hT3⟩ := frmT_ok q hq2
  have TP : Hid (∀ p ∈ frmT q, 1 ≤ p.size ∧ p.size ≤ 4 ∧ (p.data.toList = [83, 73, 71, 78] → q = 3)) := hT3
  have hTl : (frmT q).length ≤ 4 := by omega
  have HC := hideP hc
  obtain ⟨fi, hfi2⟩ : ∃ fi, fieldI ⟨(q : Int), r, a, b1, n⟩ = fi := ⟨_, rfl⟩
  obtain ⟨pt, hpt⟩ : ∃ pt, partL ⟨(q : Int), r, a, b1, n⟩ = pt := ⟨_, rfl⟩
  obtain ⟨P, hP⟩ : ∃ P, wordL ⟨(q : Int), r, a, b1, n⟩ = P := ⟨_, rfl⟩
  obtain ⟨T, hT⟩ : ∃ T, frmT q = T := ⟨_, rfl⟩
  have zn := nmB_size q hq2
  have NM0 := ht.namAt q hq2
  obtain ⟨nm, hnm⟩ : ∃ nm, nmB q = nm := ⟨_, rfl⟩
  rw [hfi2] at FD FI PT
  rw [hpt] at EL PT
  rw [hP] at EL hlen ⊢
  rw [hT] at EL TP hTl HC ⊢
  rw [hnm] at EL zn NM0
  have HS := hideP hs
  have HT := hideP ht
  have HLN := hideP hlen
  have lN : 0 < w.heap.size := World.block_lt_of_cell? _ _ NM0
  have hq3 : (q : Int) < 12 := by omega
  clear hfi hfi2 hpt hP hT hnm hs ht hc hT1 hT2 hT3 hx hlen
  have al := (Below.refl w.heap.size w).alloc (Nat.le_refl _) (.cells #[.int .i64 (q : Int), .int .i64 r, .int .i64 a, .int .i64 b1, .int .i64 n] 47)
  have BX0 := hideP (newA w (.cells #[.int .i64 (q : Int), .int .i64 r, .int .i64 a, .int .i64 b1, .int .i64 n] 47))
  have N0 := (al.cell (p := ⟨0, q, none⟩) lN).trans NM0
  have AL := hideP al
  obtain ⟨W0, hW0⟩ : ∃ W0, w.alloc (.cells #[.int .i64 (q : Int), .int .i64 r, .int .i64 a, .int .i64 b1, .int .i64 n] 47) = W0 := ⟨_, rfl⟩
  obtain ⟨bx, hbx⟩ : ∃ bx, w.heap.size = bx := ⟨_, rfl⟩
  have SZ0 : Hid (W0.heap.size = bx + 1) := by show _ = _; rw [← hW0, ← hbx]; simp
  rw [hW0] at BX0 AL N0
  rw [hbx] at BX0 AL
  have p0 := (cells_of BX0.out).1 0
  simp at p0
  have HW0 := hideP hW0
  have HBX := hideP hbx
  clear hW0 hbx al NM0
  go_enter Tryd.func31, Tryd.ntmps31
  go_upto_region 1 with fail
  rw [HW0.out, HBX.out]
  clear HW0
  obtain ⟨W1, hW1⟩ : ∃ W1, W0.alloc (.cells #[.string nm] 9) = W1 := ⟨_, rfl⟩
  have al1 : Below W0.heap.size W0 W1 := hW1 ▸ (Below.refl W0.heap.size W0).alloc (Nat.le_refl _) (.cells #[.string nm] 9)
  have O1 : Hid (OwnS W1 (bx + 1) (.slice (some ⟨W0.heap.size, 0, none⟩) 1 1) [nm]) := hW1 ▸ own_oneS W0 (bx + 1) (Nat.le_of_eq SZ0.out.symm) nm
  have BX1 := hideP (keepA BX0.out al1)
  have B1 := hideP (AL.out.trans (al1.mono (by have := SZ0.out; omega)))
  have Z1 : Hid (bx + 1 ≤ W1.heap.size) := by have h1 := SZ0.out; have h2 := al1.size; show _ ≤ _; omega
  have HW1 := hideP hW1
  clear hW1 al1 AL BX0
  go_upto_region 2 with fail
  rw [HW1.out]
  clear HW1 p0 N0
  obtain ⟨NT, hNT⟩ : ∃ NT, T.length = NT := ⟨_, rfl⟩
  have HNT := hideP hNT
  rw [hNT] at hTl ⊢
  clear hNT
  go_wp2
  go_loopg [5, 17] NT (fun gk l i wr => ∃ (j : Nat) (ps : List ByteArray), gk + j = NT ∧ i = .int .i64 j ∧ Hid (ps.map (fun b : ByteArray => b.data.toList) = nm.data.toList :: (T.take j).map pt) ∧ Hid (OwnS wr (bx + 1) l ps) ∧ Hid (Below bx w wr) ∧ Hid (bx + 1 ≤ wr.heap.size) ∧ Hid (wr.heap[bx]? = some (.cells #[.int .i64 (q : Int), .int .i64 r, .int .i64 a, .int .i64 b1, .int .i64 n] 47 (0, 0))))
  case atStart => exact ⟨0, [nm], by simp, rfl, by show _ = _; simp, O1.out, B1.out, Z1.out, BX1.out⟩
  case round =>
    obtain ⟨j, ps, hj, rfl, hps, ho, bw, hz, hbx⟩ := hrel
    have hpl : ps.length = j + 1 := by
      have h1 := congrArg List.length hps.out
      have h2 := HNT.out
      rw [List.length_map, List.length_cons, List.length_map, List.length_take] at h1
      omega
    have bww : Hid (Below w.heap.size w wr) := HBX.out ▸ bw.out
    by_cases hlt : j < NT
    · have hjT : j < T.length := by rw [HNT.out]; exact hlt
      obtain ⟨t, htj⟩ : ∃ t, T[j] = t := ⟨_, rfl⟩
      have hto : T[j]? = some t := by rw [List.getElem?_eq_getElem hjT, htj]
      have c0 : wr.cell? ⟨b, o + j, none⟩ = some (.string t) := (bww.out.cell (p := ⟨b, o + j, none⟩) hb).trans (HC.out j t hto)
      obtain ⟨ht1, ht4, htS⟩ := TP.out t (htj ▸ List.getElem_mem hjT)
      have UP : Hid ((T.take (j + 1)).map pt = (T.take j).map pt ++ [pt t]) := by
        show _ = _
        rw [List.take_succ_eq_append_getElem hjT, List.map_append, htj]; rfl
      by_cases hS : t.data.toList = [83, 73, 71, 78]
      · obtain ⟨k, hk, hk6⟩ := HS.out (htS hS)
        subst hk
        have hE : (t.toList == [83, 73, 71, 78]) = true := by rw [Lib.toList_data, hS]; rfl
        have x4 := (cells_of hbx.out).1 4
        simp at x4
        have A0 := (HT.out.stays bww.out).aluAt k hk6
        obtain ⟨sg, hsg⟩ : ∃ sg, aluB k = sg := ⟨_, rfl⟩
        rw [hsg] at A0
        have PI : Hid (pt t = sg.data.toList) := by show _ = _; rw [PT.out, if_pos hS, Int.toNat_natCast, hsg]
        have hk3 : (k : Int) < 6 := by omega
        have OA := hideP (fun o : Obj => ho.out.stays ((Below.refl wr.heap.size wr).alloc (Nat.le_refl _) o))
        have AL2 := hideP (fun o : Obj => (Below.refl wr.heap.size wr).alloc (Nat.le_refl _) o)
        clear hS htS hsg hto htj
        go_upto_region 9 with (at_builtin; refine list_appS _ rfl _ _ rfl (bx + 1) _ ps sg wr.heap.size rfl rfl (OA.out _) (by simp) (by omega) (Nat.le_trans hz.out (AL2.out _).size) ?_; intro v9 w9 o9 grow9)
        have O9 := hideP o9
        have H9 := hideP ((OA.out _).box (by decide) (keepA hbx.out (AL2.out _)) grow9)
        have B9 := hideP ((bw.out.trans ((AL2.out _).mono (by have := hz.out; omega))).trans (grown_below grow9 (fun x e => by have := ((OA.out (.cells #[.string sg] 9)).low x e).1; omega) (by have h1 := hz.out; have h2 := (AL2.out (.cells #[.string sg] 9)).size; omega)))
        have Z9 : Hid (bx + 1 ≤ w9.heap.size) := Nat.le_trans hz.out (Nat.le_trans (AL2.out _).size grow9.size)
        clear o9 grow9 OA AL2 ho x4 A0
        go_wp2
        go_roundg (NT - (j + 1))
        case rel => exact ⟨j + 1, _, by omega, by go_num, by show _ = _; rw [List.map_append, hps.out, UP.out, PI.out]; simp, O9.out, B9.out, Z9.out, H9.out⟩
        case measure => omega
      · have hE : (t.toList == [83, 73, 71, 78]) = false := by rw [Lib.toList_data, beq_eq_false_iff_ne]; exact hS
        obtain ⟨n1, hn1⟩ : ∃ n1, t.size = n1 + 1 := ⟨t.size - 1, by omega⟩
        have FF : Hid (∀ W, _) := fun W => formField_any t bx n1 hn1 ht4 W
        have PI : Hid (pt t = (t.extract 0 n1).data.toList ++ Lib.itoa (fi (lastB t))) := by show _ = _; rw [PT.out, if_neg hS, extract_init t n1 hn1]
        obtain ⟨ah, hah⟩ : ∃ ah, t.extract 0 n1 = ah := ⟨_, rfl⟩
        have hal : ah.size ≤ 4 := by rw [← hah, ByteArray.size_extract]; omega
        rw [hah] at FF PI
        obtain ⟨cc, hcc⟩ : ∃ cc, lastB t = cc := ⟨_, rfl⟩
        rw [hcc] at FF PI
        obtain ⟨fn, hfn⟩ : ∃ fn, fieldN cc = fn := ⟨_, rfl⟩
        have FX : Hid (∀ {W : World} {bx : Nat}, W.heap[bx]? = some (.cells #[.int .i64 (q : Int), .int .i64 r, .int .i64 a, .int .i64 b1, .int .i64 n] 47 (0, 0)) → W.cell? ⟨bx, fn, none⟩ = some (.int .i64 (fi cc))) := fun h => hfn ▸ FI.out h cc
        rw [hfn] at FF
        clear hS htS hto htj hn1 hah hcc hfn
        go_wp2_with fail
        refine (FF.out _).mono ?_
        rintro e2 w2 ⟨rfl, b2⟩
        have BX2 := hideP (keepA hbx.out b2)
        have O2 := hideP (ho.out.stays b2)
        have BW2 := hideP (below_trans bww.out b2)
        have Z2 : Hid (bx + 1 ≤ w2.heap.size) := Nat.le_trans hz.out b2.size
        have cf := FX.out BX2.out
        clear b2 ho hbx bww hz FF
        go_wp2_with fail
        refine (FD.out cc _ (HT.out.stays BW2.out)).mono ?_
        rintro e3 w3 ⟨ds, rfl, hds, hd21, b3⟩
        have BX3 := hideP (keepA BX2.out b3)
        have O3 := hideP (O2.out.stays b3)
        have BW3 := hideP (below_trans BW2.out b3)
        have Z3 : Hid (bx + 1 ≤ w3.heap.size) := Nat.le_trans Z2.out b3.size
        have m1 : ¬ 9223372036854775807 < ah.size + ds.size := by omega
        have OA := hideP (fun o : Obj => O3.out.stays ((Below.refl w3.heap.size w3).alloc (Nat.le_refl _) o))
        have AL2 := hideP (fun o : Obj => (Below.refl w3.heap.size w3).alloc (Nat.le_refl _) o)
        clear b3 O2 BX2 cf BW2 Z2 O3
        go_upto_region 9 with (at_builtin; refine list_appS _ rfl _ _ rfl (bx + 1) _ ps (ah ++ ds) w3.heap.size rfl rfl (OA.out _) (by simp) (by omega) (Nat.le_trans Z3.out (AL2.out _).size) ?_; intro v9 w9 o9 grow9)
        have O9 := hideP o9
        have H9 := hideP ((OA.out _).box (by decide) (keepA BX3.out (AL2.out _)) grow9)
        have B9 := hideP (((HBX.out ▸ BW3.out : Below bx w w3).trans ((AL2.out _).mono (by have := Z3.out; omega))).trans (grown_below grow9 (fun x e => by have := ((OA.out (.cells #[.string (ah ++ ds)] 9)).low x e).1; omega) (by have h1 := Z3.out; have h2 := (AL2.out (.cells #[.string (ah ++ ds)] 9)).size; omega)))
        have Z9 : Hid (bx + 1 ≤ w9.heap.size) := Nat.le_trans Z3.out (Nat.le_trans (AL2.out _).size grow9.size)
        clear o9 grow9 OA AL2
        go_wp2
        go_roundg (NT - (j + 1))
        case rel => exact ⟨j + 1, _, by omega, by go_num, by show _ = _; rw [List.map_append, hps.out, UP.out, PI.out, ← hds.out]; simp, O9.out, B9.out, Z9.out, H9.out⟩
        case measure => omega
    · have hjn : j = NT := by omega
      subst hjn
      obtain ⟨gv, cv, rfl, hcv, hgv, hcells⟩ := ho.out.at (by omega)
      have JT : Hid (Lib.join (ps.map (fun b : ByteArray => b.data.toList)) [32] = P) := by
        show _ = _
        rw [hps.out, ← EL.out, ← HNT.out, List.take_length]
      have JC := hideP (Tryd.strings_Join gv 0 cv ps ⟨#[32]⟩ wr hcells hgv (by omega) hcv (by show (Lib.join _ [32]).length ≤ _; rw [JT.out]; have := HLN.out; omega))
      obtain ⟨n9, hn9⟩ : ∃ n9, ps.length = n9 := ⟨_, rfl⟩
      rw [hn9] at JC ⊢
      clear hn9 hpl hcv hgv hcells ho
      go_wp2_with fail
      refine JC.out.mono ?_
      rintro e7 w7 ⟨rfl, b7⟩
      have B7 := hideP (below_trans bww.out b7)
      obtain ⟨s7, hs7⟩ : ∃ s7 : ByteArray, ⟨(Lib.join (ps.map (fun b : ByteArray => b.data.toList)) (⟨#[32]⟩ : ByteArray).data.toList).toArray⟩ = s7 := ⟨_, rfl⟩
      rw [hs7]
      have S7 : Hid (s7.data.toList = P) := by rw [← hs7]; exact JT.out
      clear hs7 b7 JC
      go_wp2
      go_ret
      exact ⟨ret_str (mk_of S7.out), B7.out⟩
end Go.Proofs.YtheholgdfmipbaaDoor
