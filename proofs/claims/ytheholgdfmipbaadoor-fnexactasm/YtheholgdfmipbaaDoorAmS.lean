/- The contracts of the specification's l17Form, l17Signs, l17Word and AsmWord. -/
import Derived.Test.YtheholgdfmipbaaDoorAmP
import Derived.Test.YtheholgdfmipbaaDoorDec
import Derived.Test.YtheholgdfmipbaaDoorImgS
import Derived.BigQuiet
import Derived.Deep.RegionWith
import Derived.Deep.RegionHeld3
import Derived.Conc.WalkWords
namespace Go.Proofs.YtheholgdfmipbaaDoor
open Go.ChangeShapes Go.WideShapes Go.ChangeAt Go.RowKit
theorem lineS (n : Int) (h : I64 n) : ∃ ts : ByteArray, Hid (ts.data.toList = Lib.itoa n) ∧ ts.size ≤ 21 ∧ Hid (∀ W, Calls Tryd.prog 19 #[.int .i64 n] W fun e w' => e = .returned (.string ts) ∧ w' = W) :=
  ⟨⟨(Lib.itoa n).toArray⟩, by show _ = _; simp, by have := itoa_len h.1 h.2; simpa [ByteArray.size] using this, fun W => spec_dec n W h.1 h.2⟩
theorem mk_ofA {s : ByteArray} {l : List UInt8} (h : s.data.toList = l) : s = ⟨l.toArray⟩ := by subst h; rfl
theorem newA (w : World) (o : Obj) : (w.alloc o).heap[w.heap.size]? = some o := by show (w.heap.push o)[w.heap.size]? = _; exact Array.getElem?_push_size
theorem keepA {W W' : World} {b : Nat} {o : Obj} (h : W.heap[b]? = some o) (bel : Below W.heap.size W W') : W'.heap[b]? = some o := (bel.block b (Array.getElem?_eq_some_iff.1 h).1).trans h
set_option maxHeartbeats 4000000 in
theorem l17Form_any (q : Nat) (hq : q < 12) (w : World) :
    Calls Tryd.prog 38 #[.int .i64 (q : Int)] w fun e w' => e = .returned (.tuple #[.string (nmB q), .string (fmB q)]) ∧ Below w.heap.size w w' := by
  have AL := hideP (below2 w (.cells opV 9) (.cells fmV 9))
  have TW := two (w := w) (o1 := .cells opV 9) (o2 := .cells fmV 9) (Below.refl _ _)
  have N1 := hideP TW.1
  have N2 := hideP TW.2.1
  clear TW
  have eV : opV = #[.string ⟨#[108, 105]⟩, .string ⟨#[108, 100]⟩, .string ⟨#[115, 100]⟩, .string ⟨#[97, 108, 117]⟩, .string ⟨#[108, 120]⟩, .string ⟨#[115, 120]⟩, .string ⟨#[105, 110]⟩, .string ⟨#[111, 117, 116]⟩, .string ⟨#[106, 109, 112]⟩, .string ⟨#[106, 122]⟩, .string ⟨#[114, 101, 116]⟩, .string ⟨#[109, 118]⟩] := rfl
  have eF : fmV = #[.string ⟨#[114, 110]⟩, .string ⟨#[114, 115]⟩, .string ⟨#[114, 115]⟩, .string ⟨#[114, 97, 103, 98]⟩, .string ⟨#[114, 109, 97]⟩, .string ⟨#[114, 109, 97]⟩, .string ⟨#[114]⟩, .string ⟨#[114]⟩, .string ⟨#[119]⟩, .string ⟨#[114, 119]⟩, .string ⟨#[114]⟩, .string ⟨#[114, 97]⟩] := rfl
  go_enter Tryd.func38, Tryd.ntmps38
  go_upto_region 3 with fail
  rw [← eV, ← eF]
  obtain ⟨b, hb⟩ : ∃ b, w.heap.size = b := ⟨_, rfl⟩
  obtain ⟨W, hW⟩ : ∃ W, (w.alloc (.cells opV 9)).alloc (.cells fmV 9) = W := ⟨_, rfl⟩
  rw [hW, hb] at N1 N2
  rw [hW] at AL ⊢
  rw [hb] at AL ⊢
  have c1 := (cells_of N1.out).1 q
  have c2 := (cells_of N2.out).1 q
  rw [opV_at q hq] at c1
  rw [fmV_at q hq] at c2
  obtain ⟨nm, hnm⟩ : ∃ nm, nmB q = nm := ⟨_, rfl⟩
  obtain ⟨fm, hfm⟩ : ∃ fm, fmB q = fm := ⟨_, rfl⟩
  rw [hnm] at c1
  rw [hfm] at c2
  have HN := hideP hnm
  have HF := hideP hfm
  have hq3 : (q : Int) < 12 := by omega
  have DR : Hid (∀ n, Below b w (W.drewN n)) := fun n => AL.out.trans ⟨rfl, rfl, rfl, Nat.le_refl _, fun _ _ => rfl⟩
  have HB := hideP hb
  clear N1 N2 hW hb hnm hfm eV eF AL
  go_quiet (fail)
  go_wp2
  go_ret2
  exact ⟨by rw [HN.out, HF.out]; rfl, HB.out ▸ DR.out _⟩
theorem l17Signs_any (w : World) :
    Calls Tryd.prog 39 #[] w fun e w' => e = .returned (.slice (some ⟨w.heap.size, 0, none⟩) 6 6) ∧ w'.heap[w.heap.size]? = some (.cells aluV 9 (0, 0)) ∧ Below w.heap.size w w' := by
  go_enter Tryd.func39, Tryd.ntmps39
  go_wp2
  go_ret
  exact ⟨rfl, newA w _, (Below.refl _ _).alloc (Nat.le_refl _) _⟩
/-- So much of the line. -/
def lineK (x : Wrd) (F : ByteArray) (nm : ByteArray) (k : Nat) : List UInt8 := nm.data.toList ++ ((F.data.toList.take k).map (pieceL x)).flatten
theorem lineK_step (x : Wrd) (F nm : ByteArray) (k : Nat) (h : k < F.size) : lineK x F nm (k + 1) = lineK x F nm k ++ pieceL x F[k] := by
  unfold lineK
  have e : F.data.toList.take (k + 1) = F.data.toList.take k ++ [F[k]] := by
    rw [List.take_succ_eq_append_getElem (by simpa using h)]; rfl
  rw [e, List.map_append, List.flatten_append, List.append_assoc]
  simp
theorem lineK_len (x : Wrd) (F nm : ByteArray) (hp : ∀ c ∈ F.data.toList, (pieceL x c).length ≤ 23) : ∀ (k : Nat), (lineK x F nm k).length ≤ nm.size + 23 * k
  | 0 => by unfold lineK; simp
  | k + 1 => by
    have ih := lineK_len x F nm hp k
    by_cases h : k < F.size
    · rw [lineK_step x F nm k h, List.length_append]
      have := hp F[k] (List.getElem_mem (l := F.data.toList) (by simpa using h))
      omega
    · unfold lineK at ih ⊢
      rw [List.take_of_length_le (by have : F.data.toList.length = F.size := by simp
                                     omega)] at ih ⊢
      omega
def boxX (x : Wrd) : Array Value := #[.int .i64 x.op, .int .i64 x.r, .int .i64 x.a, .int .i64 x.b, .int .i64 x.n]
set_option maxHeartbeats 8000000 in
set_option maxRecDepth 100000 in
theorem l17Word_any (x : Wrd) (q : Nat) (hq : x.op = (q : Int)) (hq2 : q < 12) (hx : x.wf) (hs : q = 3 → ∃ k : Nat, x.n = (k : Int) ∧ k < 6) (w : World) :
    Calls Tryd.prog 24 #[.agg #[.int .i64 x.op, .int .i64 x.r, .int .i64 x.a, .int .i64 x.b, .int .i64 x.n]] w fun e w' => e = .returned (.string ⟨(wordL x).toArray⟩) ∧ Below w.heap.size w w' := by
  obtain ⟨op, r, a, b, n⟩ := x
  simp only at hq hs
  subst hq
  obtain ⟨hF4, hFc⟩ := fmB_ok q hq2
  have zn := nmB_size q hq2
  have hpl : ∀ c ∈ (fmB q).data.toList, (pieceL ⟨(q : Int), r, a, b, n⟩ c).length ≤ 23 := fun c hc => pieceL_len hx (fun e => hs (by simp only at e; omega)) (fun e => by have := (hFc c hc).2 e; subst this; rfl)
  have HL := hideP (lineK_len ⟨(q : Int), r, a, b, n⟩ (fmB q) (nmB q) hpl)
  have ST := hideP (lineK_step ⟨(q : Int), r, a, b, n⟩ (fmB q) (nmB q))
  have EN : Hid (wordL ⟨(q : Int), r, a, b, n⟩ = lineK ⟨(q : Int), r, a, b, n⟩ (fmB q) (nmB q) (fmB q).size) := by
    show _ = _
    unfold wordL lineK
    rw [List.take_of_length_le (by simp)]
    simp
  have FM : Hid (∀ W, Calls Tryd.prog 38 #[.int .i64 (q : Int)] W fun e w' => e = .returned (.tuple #[.string (nmB q), .string (fmB q)]) ∧ Below W.heap.size W w') := fun W => l17Form_any q hq2 W
  have HC : Hid (∀ (k : Nat) (h : k < (fmB q).size), _ ∧ _) := fun k h => hFc (fmB q)[k] (List.getElem_mem (l := (fmB q).data.toList) (by simpa using h))
  obtain ⟨P, hP⟩ : ∃ P, wordL ⟨(q : Int), r, a, b, n⟩ = P := ⟨_, rfl⟩
  rw [hP] at EN ⊢
  obtain ⟨_, i1, i2, i3, i4⟩ := hx
  obtain ⟨t1, T1, z1, D1⟩ := lineS r i1
  obtain ⟨t2, T2, z2, D2⟩ := lineS a i2
  obtain ⟨t3, T3, z3, D3⟩ := lineS b i3
  obtain ⟨t4, T4, z4, D4⟩ := lineS n i4
  have PL : Hid (∀ c, pieceL ⟨(q : Int), r, a, b, n⟩ c = if c = 114 then 32 :: 114 :: t1.data.toList else if c = 97 then 32 :: 114 :: t2.data.toList else if c = 98 then 32 :: 114 :: t3.data.toList else if c = 110 then 32 :: t4.data.toList else if c = 103 then 32 :: (aluB n.toNat).data.toList else 32 :: c :: t4.data.toList) := fun c => by
    unfold pieceL; rw [T1.out, T2.out, T3.out, T4.out]
  obtain ⟨lk, hlk⟩ : ∃ lk, lineK ⟨(q : Int), r, a, b, n⟩ (fmB q) (nmB q) = lk := ⟨_, rfl⟩
  have L0 : Hid (lk 0 = (nmB q).data.toList) := by show _ = _; rw [← hlk]; unfold lineK; simp
  obtain ⟨pc, hpc⟩ : ∃ pc, pieceL ⟨(q : Int), r, a, b, n⟩ = pc := ⟨_, rfl⟩
  obtain ⟨nm, hnm⟩ : ∃ nm, nmB q = nm := ⟨_, rfl⟩
  obtain ⟨F, hF⟩ : ∃ F, fmB q = F := ⟨_, rfl⟩
  rw [hlk] at HL ST EN
  rw [hpc] at ST PL
  rw [hnm] at HL FM L0 zn
  rw [hF] at ST EN FM HC hF4
  have al := (Below.refl w.heap.size w).alloc (Nat.le_refl _) (.cells #[.int .i64 (q : Int), .int .i64 r, .int .i64 a, .int .i64 b, .int .i64 n] 47)
  have BX0 := hideP (newA w (.cells #[.int .i64 (q : Int), .int .i64 r, .int .i64 a, .int .i64 b, .int .i64 n] 47))
  have AL := hideP al
  have HS := hideP hs
  clear hP hlk hpc hnm hF hpl hFc al hs T1 T2 T3 T4 i1 i2 i3 i4
  go_enter Tryd.func24, Tryd.ntmps24
  go_upto_region 1 with fail
  obtain ⟨W0, hW0⟩ : ∃ W0, w.alloc (.cells #[.int .i64 (q : Int), .int .i64 r, .int .i64 a, .int .i64 b, .int .i64 n] 47) = W0 := ⟨_, rfl⟩
  obtain ⟨bx, hbx⟩ : ∃ bx, w.heap.size = bx := ⟨_, rfl⟩
  rw [hW0] at BX0 AL ⊢
  rw [hbx] at BX0 AL ⊢
  have HBX := hideP hbx
  clear hW0 hbx
  have p0 := (cells_of BX0.out).1 0
  simp at p0
  go_wp2_with fail
  refine (FM.out _).mono ?_
  rintro e1 w1 ⟨rfl, b1⟩
  have BX1 := hideP (keepA BX0.out b1)
  have B1 := hideP (AL.out.trans (b1.mono (by have h1 := AL.out.size; have h2 := HBX.out; omega)))
  clear b1 BX0 p0
  go_wp2
  go_loopg [3, 5] F.size (fun gk o i wr => ∃ (k : Nat) (s : ByteArray), gk + k = F.size ∧ i = .int .i64 k ∧ o = .string s ∧ Hid (s.data.toList = lk k) ∧ Hid (Below bx w wr) ∧ Hid (wr.heap[bx]? = some (.cells #[.int .i64 (q : Int), .int .i64 r, .int .i64 a, .int .i64 b, .int .i64 n] 47 (0, 0))))
  case atStart => exact ⟨0, nm, by simp, rfl, rfl, by show _ = _; rw [L0.out], B1.out, BX1.out⟩
  case round =>
    obtain ⟨k, s, hk, rfl, rfl, hsv, bw, hbx⟩ := hrel
    have hsl : s.size ≤ nm.size + 23 * k := by
      have h1 := HL.out k
      rw [← hsv.out] at h1
      simpa using h1
    by_cases hlt : k < F.size
    · have hcs := (HC.out k hlt)
      have stp := hideP (ST.out k hlt)
      have hc0 : (0 : Int) ≤ F[k].toNat := by omega
      have hc1 : (F[k].toNat : Int) ≤ 255 := by have := F[k].toNat_lt; omega
      have x1 := (cells_of hbx.out).1 1
      have x2 := (cells_of hbx.out).1 2
      have x3 := (cells_of hbx.out).1 3
      have x4 := (cells_of hbx.out).1 4
      simp at x1 x2 x3 x4
      rcases hcs.1 with h | h | h | h | h | h
      · have hc : F[k].toNat = 114 := by rw [h]; rfl
        have PI : Hid (pc F[k] = 32 :: 114 :: t1.data.toList) := by show _ = _; rw [PL.out, h]; rfl
        have m1 : ¬ 9223372036854775807 < s.size + 2 := by omega
        have m2 : ¬ 9223372036854775807 < s.size + 2 + t1.size := by omega
        clear h hcs hc0 hc1
        go_wp2_with (go_at_call_of 19 (Value.int .i64 r); refine (D1.out _).mono ?_; rintro e2 w2 ⟨rfl, rfl⟩)
        go_roundg (F.size - (k + 1))
        case rel => exact ⟨k + 1, _, by omega, by go_num, rfl, by show _ = _; rw [stp.out, PI.out]; simp [hsv.out], bw.out, hbx.out⟩
        case measure => omega
      · have hc : F[k].toNat = 97 := by rw [h]; rfl
        have PI : Hid (pc F[k] = 32 :: 114 :: t2.data.toList) := by show _ = _; rw [PL.out, h]; rfl
        have m1 : ¬ 9223372036854775807 < s.size + 2 := by omega
        have m2 : ¬ 9223372036854775807 < s.size + 2 + t2.size := by omega
        clear h hcs hc0 hc1
        go_wp2_with (go_at_call_of 19 (Value.int .i64 a); refine (D2.out _).mono ?_; rintro e2 w2 ⟨rfl, rfl⟩)
        go_roundg (F.size - (k + 1))
        case rel => exact ⟨k + 1, _, by omega, by go_num, rfl, by show _ = _; rw [stp.out, PI.out]; simp [hsv.out], bw.out, hbx.out⟩
        case measure => omega
      · have hc : F[k].toNat = 98 := by rw [h]; rfl
        have PI : Hid (pc F[k] = 32 :: 114 :: t3.data.toList) := by show _ = _; rw [PL.out, h]; rfl
        have m1 : ¬ 9223372036854775807 < s.size + 2 := by omega
        have m2 : ¬ 9223372036854775807 < s.size + 2 + t3.size := by omega
        clear h hcs hc0 hc1
        go_wp2_with (go_at_call_of 19 (Value.int .i64 b); refine (D3.out _).mono ?_; rintro e2 w2 ⟨rfl, rfl⟩)
        go_roundg (F.size - (k + 1))
        case rel => exact ⟨k + 1, _, by omega, by go_num, rfl, by show _ = _; rw [stp.out, PI.out]; simp [hsv.out], bw.out, hbx.out⟩
        case measure => omega
      · have hc : F[k].toNat = 110 := by rw [h]; rfl
        have PI : Hid (pc F[k] = 32 :: t4.data.toList) := by show _ = _; rw [PL.out, h]; rfl
        have m1 : ¬ 9223372036854775807 < s.size + 1 := by omega
        have m2 : ¬ 9223372036854775807 < s.size + 1 + t4.size := by omega
        clear h hcs hc0 hc1
        go_wp2_with (go_at_call_of 19 (Value.int .i64 n); refine (D4.out _).mono ?_; rintro e2 w2 ⟨rfl, rfl⟩)
        go_roundg (F.size - (k + 1))
        case rel => exact ⟨k + 1, _, by omega, by go_num, rfl, by show _ = _; rw [stp.out, PI.out]; simp [hsv.out], bw.out, hbx.out⟩
        case measure => omega
      · obtain ⟨j, hj, hj6⟩ := HS.out (hcs.2 h)
        subst hj
        have hc : F[k].toNat = 103 := by rw [h]; rfl
        have PI : Hid (pc F[k] = 32 :: (aluB j).data.toList) := by show _ = _; rw [PL.out, h]; rfl
        have za := aluB_size j hj6
        obtain ⟨sg, hsg⟩ : ∃ sg, aluB j = sg := ⟨_, rfl⟩
        have GV : Hid (aluV[j]? = some (.string sg)) := by show _ = _; rw [aluV_at j hj6, hsg]
        rw [hsg] at PI za
        have m1 : ¬ 9223372036854775807 < s.size + 1 := by omega
        have m2 : ¬ 9223372036854775807 < s.size + 1 + sg.size := by omega
        have hj3 : (j : Int) < 6 := by omega
        clear h hcs hc0 hc1 hsg x1 x2 x3
        go_upto_region 16 with fail
        have B0 : Hid (Below bx w wr.drew) := bw.out.trans ⟨rfl, rfl, rfl, Nat.le_refl _, fun _ _ => rfl⟩
        have HB : Hid (wr.drew.heap[bx]? = some (.cells #[.int .i64 (q : Int), .int .i64 r, .int .i64 a, .int .i64 b, .int .i64 (j : Int)] 47 (0, 0))) := hbx.out
        refine wp_region_held_drew (S := fun W' => W'.cell? ⟨bx, 4, none⟩ = some (.int .i64 (j : Int))) (by kernel_rfl) x4 (fun hHeld => ?_)
        generalize wr.drew = X0 at B0 HB hHeld ⊢
        clear x4 hbx bw
        refine wpAnyH_take (i := 0) (v := (.string s)) rfl (by kernel_rfl) (by kernel_rfl) (by kernel_rfl) (fun _ _ _ h => h) (Or.inl ⟨by rfl, ?_⟩) hHeld ?_
        · (intro w hSw; (try dsimp only at hSw); go_simp)
        walk_nrm
        refine wpAnyH_take (i := 1) (v := (.string (s ++ ⟨#[32]⟩))) rfl (by kernel_rfl) (by kernel_rfl) (by kernel_rfl) (fun _ _ _ h => h) (Or.inl ⟨by rfl, ?_⟩) hHeld ?_
        · (intro w hSw; (try dsimp only at hSw); go_simp)
        walk_nrm
        refine wpAnyH_take (i := 3) (v := (.pointer (some ⟨bx, 4, none⟩))) rfl (by kernel_rfl) (by kernel_rfl) (by kernel_rfl) (fun _ _ _ h => h) (Or.inl ⟨by rfl, ?_⟩) hHeld ?_
        · (intro w hSw; (try dsimp only at hSw); go_simp)
        walk_nrm
        refine wpAnyH_take (i := 4) (v := (.int .i64 (j : Int))) rfl (by kernel_rfl) (by kernel_rfl) (by kernel_rfl) (fun _ _ _ h => h) (Or.inl ⟨by rfl, ?_⟩) hHeld ?_
        · (intro w hSw; (try dsimp only at hSw); go_simp)
        walk_nrm
        refine wpAnyH_ready (rs := [2]) (by kernel_rfl) (by simp) ?_
        refine AllReadyH.cons rfl (fun K hK => ?_) (AllReadyH.nil)
        go_simp
        go_at_call 39
        refine (l17Signs_any _).mono ?_
        rintro ea X1 ⟨rfl, hg, ba⟩
        have BX := hideP (B0.out.trans (ba.mono (by have h1 := B0.out.size; have h2 := (Array.getElem?_eq_some_iff.1 HB.out).1; omega)))
        have HB1 := hideP (keepA HB.out ba)
        obtain ⟨g, hgd⟩ : ∃ g, X0.heap.size = g := ⟨_, rfl⟩
        rw [hgd] at hg ⊢
        have c6 := (cells_of hg).1 j
        rw [GV.out] at c6
        have S1 : Hid (X1.cell? ⟨bx, 4, none⟩ = some (.int .i64 (j : Int))) := by have h9 := (cells_of HB1.out).1 4; show _ = _; simpa using h9
        clear hg hgd ba
        go_wp2_with fail
        refine hK.out _ _ S1.out (fun hHeld => ?_)
        clear hK K
        refine wpAnyH_take (i := 5) (v := (.pointer (some ⟨g, j, none⟩))) rfl (by kernel_rfl) (by kernel_rfl) (by kernel_rfl) (fun _ _ _ h => h) (Or.inl ⟨by rfl, ?_⟩) hHeld ?_
        · (intro w hSw; (try dsimp only at hSw); go_simp)
        walk_nrm
        refine wpAnyH_ready (rs := [6]) (by kernel_rfl) (by simp) ?_
        refine AllReadyH.cons rfl (fun K hK => ?_) (AllReadyH.nil)
        go_simp
        refine hK.out _ _ S1.out (fun hHeld => ?_)
        clear hK K c6
        refine wpAnyH_take (i := 7) (v := (.string (s ++ ⟨#[32]⟩ ++ sg))) rfl (by kernel_rfl) (by kernel_rfl) (by kernel_rfl) (fun _ _ _ h => h) (Or.inl ⟨by rfl, ?_⟩) hHeld ?_
        · (intro w hSw; (try dsimp only at hSw); go_simp)
        walk_nrm
        refine wpAnyH_ready (rs := [8]) (by kernel_rfl) (by simp) ?_
        refine AllReadyH.cons rfl (fun K hK => ?_) (AllReadyH.nil)
        go_simp
        refine hK.out _ _ S1.out (fun hHeld => ?_)
        clear hK K
        refine wpAnyH_done (by kernel_rfl) ?_ _
        go_wp2
        go_roundg (F.size - (k + 1))
        case rel => exact ⟨k + 1, _, by omega, by go_num, rfl, by show _ = _; rw [stp.out, PI.out]; simp [hsv.out], BX.out, HB1.out⟩
        case measure => omega
      · have hne : ¬ F[k].toNat = 114 ∧ ¬ F[k].toNat = 97 ∧ ¬ F[k].toNat = 98 ∧ ¬ F[k].toNat = 110 ∧ ¬ F[k].toNat = 103 := by
          rcases h with h | h | h <;> rw [h] <;> decide
        obtain ⟨n1, n2, n3, n4, n5⟩ := hne
        have n1' : ((F[k].toNat : Int) == 114) = false := by rw [beq_eq_false_iff_ne]; omega
        have n2' : ((F[k].toNat : Int) == 97) = false := by rw [beq_eq_false_iff_ne]; omega
        have n3' : ((F[k].toNat : Int) == 98) = false := by rw [beq_eq_false_iff_ne]; omega
        have n4' : ((F[k].toNat : Int) == 110) = false := by rw [beq_eq_false_iff_ne]; omega
        have n5' : ((F[k].toNat : Int) == 103) = false := by rw [beq_eq_false_iff_ne]; omega
        have PI : Hid (pc F[k] = 32 :: F[k] :: t4.data.toList) := by
          show _ = _
          rw [PL.out]
          rcases h with h | h | h <;> rw [h] <;> rfl
        have m1 : ¬ 9223372036854775807 < s.size + 1 := by omega
        have m2 : ¬ 9223372036854775807 < s.size + 1 + 1 := by omega
        have m3 : ¬ 9223372036854775807 < s.size + 1 + 1 + t4.size := by omega
        have hsz : (F.extract k (k + 1)).size = 1 := by rw [ByteArray.size_extract]; omega
        have hex : Hid (List.take 1 (List.drop k F.data.toList) = [F[k]]) := by
          show _ = _
          rw [drop_cons F k hlt]
          rfl
        have DR : Hid (∀ m, Below bx w (wr.drewN m)) := fun m => bw.out.trans ⟨rfl, rfl, rfl, Nat.le_refl _, fun _ _ => rfl⟩
        have HB : Hid (∀ m, (wr.drewN m).heap[bx]? = some (.cells #[.int .i64 (q : Int), .int .i64 r, .int .i64 a, .int .i64 b, .int .i64 n] 47 (0, 0))) := fun m => hbx.out
        clear h hcs hc0 hc1 n1 n2 n3 n4 n5
        go_upto_region 6 with fail
        go_quiet (first | (go_at_call_of 19 (Value.int .i64 n); refine Calls.quiet_of_same (D4.out _)))
        go_wp2
        go_roundg (F.size - (k + 1))
        case rel => exact ⟨k + 1, _, by omega, by go_num, rfl, by show _ = _; rw [stp.out, PI.out]; simp [hsv.out, hex.out], DR.out _, HB.out _⟩
        case measure => omega
    · have hkn : k = F.size := by omega
      subst hkn
      go_wp2
      go_ret
      exact ⟨ret_str (mk_ofA (by rw [hsv.out, EN.out])), HBX.out ▸ bw.out⟩
theorem imgOk_sign {m : Img} (h : imgOk m = true) {x : Wrd} (hx : x ∈ m.code) (h3 : x.op = 3) : ∃ k : Nat, x.n = (k : Int) ∧ k < 6 := by
  unfold imgOk at h
  simp only [Bool.and_eq_true, List.all_eq_true] at h
  have h1 := h.1.2 x hx
  obtain ⟨op, r, a, b, n⟩ := x
  simp only at h3
  subst h3
  rw [wrd_3] at h1
  simp [belI] at h1
  exact ⟨n.toNat, by simp only; omega, by omega⟩
/-- The line of a word of an image. -/
def asmW (m : Img) (p : Int) : List UInt8 := if imgOk m = true ∧ 0 ≤ p ∧ p < ((m.code.length : Nat) : Int) then wordL (m.code.getD p.toNat default) else []
set_option maxHeartbeats 4000000 in
set_option maxRecDepth 100000 in
theorem spec_asmWord (m : Img) (p : Int) (w : World) (B : Nat) (v : Array Value) (h : ImgIs w B v m) :
    Calls Tryd.prog 14 #[.agg v, .int .i64 p] w fun en w' => en = .returned (.string ⟨(asmW m p).toArray⟩) ∧ Below w.heap.size w w' := by
  obtain ⟨y, hy⟩ : ∃ y, imgOk m = y := ⟨_, rfl⟩
  have CY : Hid (∀ W, Below w.heap.size w W → Calls Tryd.prog 22 #[.agg v] W fun en w' => en = .returned (.bool y) ∧ Below W.heap.size W w') := fun W hW => by rw [← hy]; exact spec_imageOk _ W B v (ImgKeeps.stays h hW)
  have HN : Hid (y = true → m.code.length ≤ 6000 ∧ 1 ≤ m.code.length) := fun e => (imgOk_few (by rw [hy]; exact e))
  have HQ : Hid (y = true → ∀ x ∈ m.code, (∃ q : Nat, x.op = (q : Int) ∧ q < 12) ∧ (x.op = 3 → ∃ k : Nat, x.n = (k : Int) ∧ k < 6)) := fun e x hx => ⟨imgOk_word (by rw [hy]; exact e) hx, imgOk_sign (by rw [hy]; exact e) hx⟩
  have EP : Hid (asmW m p = if y = true ∧ 0 ≤ p ∧ p < ((m.code.length : Nat) : Int) then wordL (m.code.getD p.toNat default) else []) := by show _ = _; unfold asmW; rw [hy]
  obtain ⟨P, hP⟩ : ∃ P, asmW m p = P := ⟨_, rfl⟩
  rw [hP] at EP ⊢
  clear hy hP
  obtain ⟨sizes, params, slots, code⟩ := m
  obtain ⟨us, cs, ub, cb, rfl, _, _, hb⟩ := h
  simp only at *
  have hm := maxLen_lt
  have hl := hb.1
  have HB := hideP hb
  clear hb
  have AL : Hid (Below w.heap.size w (w.alloc (.cells #[.slice us sizes.length cs, .int .i64 params, .int .i64 slots, .slice ub code.length cb] 33))) := (Below.refl _ _).alloc (Nat.le_refl _) _
  have BX1 := hideP (newA w (.cells #[.slice us sizes.length cs, .int .i64 params, .int .i64 slots, .slice ub code.length cb] 33))
  go_enter Tryd.func14, Tryd.ntmps14
  go_wp2_with fail
  refine (CY.out _ AL.out).mono ?_
  rintro e1 w1 ⟨rfl, b1⟩
  have BB := hideP (below_trans AL.out b1)
  have BX := hideP (keepA BX1.out b1)
  clear b1 BX1 AL
  cases y
  · go_wp2
    go_ret
    exact ⟨ret_str (by rw [EP.out, if_neg (by simp)]), BB.out⟩
  · obtain ⟨hn6, hn1⟩ := HN.out rfl
    have p3 := (cells_of BX.out).1 3
    simp at p3
    by_cases hp : 0 ≤ p ∧ p < ((code.length : Nat) : Int)
    · have hin : inB p 0 (((code.length : Nat) : Int) - 1) = true := by unfold inB; exact decide_eq_true ⟨hp.1, by omega⟩
      obtain ⟨j, hj⟩ : ∃ j : Nat, p = (j : Int) := ⟨p.toNat, by omega⟩
      have hlt : j < code.length := by omega
      have hp0 := hp.1
      have hp1 := hp.2
      obtain ⟨b, o, y0, y1, y2, y3, y4, rfl, _, hbi, hy, r0, r1, r2, r3, r4, hxx⟩ := Wrd_get (HB.out.stays WrdKeeps BB.out) j hlt
      obtain ⟨⟨q, hq1, hq2⟩, hq3⟩ := HQ.out rfl _ (List.getElem_mem hlt)
      have hxw := hxx.2
      have EJ : Hid (P = wordL ⟨y0, y1, y2, y3, y4⟩) := by
        show _ = _
        rw [EP.out, if_pos ⟨rfl, hp⟩, hj, Int.toNat_natCast, List.getD_eq_getElem?_getD, List.getElem?_eq_getElem hlt]
        exact congrArg wordL hy
      rw [hy] at hq1 hq3
      have LW : Hid (∀ W, Calls Tryd.prog 24 #[.agg #[.int .i64 y0, .int .i64 y1, .int .i64 y2, .int .i64 y3, .int .i64 y4]] W fun e w' => e = .returned (.string ⟨(wordL ⟨y0, y1, y2, y3, y4⟩).toArray⟩) ∧ Below W.heap.size W w') := fun W => l17Word_any ⟨y0, y1, y2, y3, y4⟩ q hq1 hq2 hxw (fun e => hq3 (by subst e; exact hq1)) W
      subst hj
      clear hp hy hxx hq1 hq2 hq3 hxw EP
      go_wp2_with (go_at_call 34; refine (l01In_any _ _ _ _).mono ?_; rintro e2 w2 ⟨rfl, rfl⟩; try rw [hin])
      refine (LW.out _).mono ?_
      rintro e3 w3 ⟨rfl, b3⟩
      go_wp2
      go_ret
      exact ⟨ret_str (by rw [EJ.out]), below_trans BB.out b3⟩
    · have hin : inB p 0 (((code.length : Nat) : Int) - 1) = false := by unfold inB; exact decide_eq_false (fun h => hp ⟨h.1, by omega⟩)
      have EJ : Hid (P = []) := by show _ = _; rw [EP.out, if_neg (fun h => hp h.2)]
      clear hp EP
      go_wp2_with (go_at_call 34; refine (l01In_any _ _ _ _).mono ?_; rintro e2 w2 ⟨rfl, rfl⟩; try rw [hin])
      go_ret
      exact ⟨ret_str (by rw [EJ.out]), BB.out⟩
end Go.Proofs.YtheholgdfmipbaaDoor
