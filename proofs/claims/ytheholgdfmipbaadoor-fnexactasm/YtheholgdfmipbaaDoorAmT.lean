/- The text of an image, as lines of bytes; the contracts of the specification's l17Ints and Asm. -/
import Derived.Test.YtheholgdfmipbaaDoorAmS
import Derived.Test.YtheholgdfmipbaaDoorInts
namespace Go.Proofs.YtheholgdfmipbaaDoor
open Go.ChangeShapes Go.WideShapes Go.ChangeAt Go.RowKit
def linesL (l : List Wrd) (j : Nat) : List UInt8 := ((l.take j).map fun x => wordL x ++ [10]).flatten
def headA (m : Img) : List UInt8 := [109, 101, 109] ++ (numsL m.sizes ++ ([10, 112, 97, 114, 97, 109, 115, 32] ++ (Lib.itoa m.params ++ ([10, 115, 108, 111, 116, 115, 32] ++ (Lib.itoa m.slots ++ [10])))))
def asmL (m : Img) : List UInt8 := if imgOk m = true then headA m ++ linesL m.code m.code.length else []
theorem linesL_step {l : List Wrd} {j : Nat} {x : Wrd} (h : j < l.length) (e : l[j] = x) : linesL l (j + 1) = linesL l j ++ (wordL x ++ [10]) := by
  unfold linesL
  rw [List.take_succ_eq_append_getElem h, List.map_append, List.flatten_append, e]
  simp
theorem wordL_len {x : Wrd} (hx : x.wf) {q : Nat} (hq : x.op = (q : Int)) (hq2 : q < 12) (hs : x.op = 3 → ∃ k : Nat, x.n = (k : Int) ∧ k < 6) : (wordL x).length ≤ 100 := by
  obtain ⟨hF4, hFc⟩ := fmB_ok q hq2
  have zn := nmB_size q hq2
  have h1 := lineK_len x (fmB q) (nmB q) (fun c hc => pieceL_len hx hs (fun e => by have h2 := (hFc c hc).2 e; rw [hq, h2]; rfl)) (fmB q).size
  unfold lineK at h1
  rw [List.take_of_length_le (by simp)] at h1
  unfold wordL
  rw [hq, Int.toNat_natCast]
  omega
theorem imgOk_head {m : Img} (h : imgOk m = true) : m.sizes.length ≤ 4 ∧ (∀ z ∈ m.sizes, I64 z) ∧ I64 m.params ∧ I64 m.slots ∧ m.code.length ≤ 6000 ∧ 1 ≤ m.code.length := by
  have hc := imgOk_few h
  unfold imgOk regOk parOk szOk at h
  simp only [Bool.and_eq_true, decide_eq_true_eq, List.all_eq_true] at h
  obtain ⟨⟨⟨⟨⟨⟨h1, h2⟩, h3⟩, h4⟩, _⟩, _⟩, _⟩ := h
  refine ⟨h1.2, fun z hz => ?_, ?_, ?_, hc.1, hc.2⟩
  · have := h2 z hz; unfold I64; omega
  · unfold I64; omega
  · unfold I64; omega
set_option maxHeartbeats 4000000 in
theorem l17Ints_any (l : List Int) (w : World) (B : Nat) (u : Option Addr) (c : Nat) (h : IntsIs w B u l) (hb : ∀ z ∈ l, I64 z) (hl : l.length ≤ 100) :
    Calls Tryd.prog 23 #[.slice u l.length c] w fun e w' => e = .returned (.string ⟨(numsL l).toArray⟩) ∧ w' = w := by
  have HB := hideP hb
  have HI := hideP h
  have hlen := numsL_take_len l (fun z hz => hb z hz)
  have HL := hideP hlen
  have ST := hideP (numsL_take l)
  clear hb h hlen
  obtain ⟨N, hN⟩ : ∃ N, l.length = N := ⟨_, rfl⟩
  have HN := hideP hN
  rw [hN] at hl ⊢
  clear hN
  go_enter Tryd.func23, Tryd.ntmps23
  go_wp2
  go_loopg [3, 4] N (fun gk o i wr => ∃ (j : Nat) (s : ByteArray), gk + j = N ∧ i = .int .i64 j ∧ o = .string s ∧ Hid (s.data.toList = numsL (l.take j)) ∧ wr = w)
  case atStart => exact ⟨0, _, by simp, rfl, rfl, by show _ = _; rfl, rfl⟩
  case round =>
    obtain ⟨j, s, hj, rfl, rfl, hs, rfl⟩ := hrel
    have hsl : s.size ≤ 22 * j := by
      have h1 := HL.out j (by have := HN.out; omega)
      rw [← hs.out] at h1
      simpa using h1
    by_cases hlt : j < N
    · have hjl : j < l.length := by rw [HN.out]; exact hlt
      obtain ⟨b, o, rfl, _, hbl, c0⟩ := HI.out.get j hjl
      have i1 := HB.out _ (List.getElem_mem hjl)
      have stp := hideP (ST.out j hjl)
      obtain ⟨z, hz⟩ : ∃ z, l[j] = z := ⟨_, rfl⟩
      rw [hz] at c0 i1 stp
      obtain ⟨t1, T1, z1, D1⟩ := lineS z i1
      have m1 : ¬ 9223372036854775807 < s.size + 1 := by omega
      have m2 : ¬ 9223372036854775807 < s.size + 1 + t1.size := by omega
      clear hz i1
      go_wp2_with (go_at_call_of 19 (Value.int .i64 z); refine (D1.out _).mono ?_; rintro e2 w2 ⟨rfl, rfl⟩)
      go_roundg (N - (j + 1))
      case rel => exact ⟨j + 1, _, by omega, by go_num, rfl, by show _ = _; rw [stp.out, ← T1.out]; simp [hs.out], by first | rfl | trivial⟩
      case measure => omega
    · have hjn : j = N := by omega
      subst hjn
      go_wp2
      go_ret
      exact ⟨ret_str (mk_ofA (by rw [hs.out, ← HN.out, List.take_length])), rfl⟩
set_option maxHeartbeats 8000000 in
set_option maxRecDepth 100000 in
theorem spec_asm (m : Img) (w : World) (B : Nat) (v : Array Value) (h : ImgIs w B v m) :
    Calls Tryd.prog 10 #[.agg v] w fun en w' => en = .returned (.string ⟨(asmL m).toArray⟩) ∧ Below w.heap.size w w' := by
  obtain ⟨y, hy⟩ : ∃ y, imgOk m = y := ⟨_, rfl⟩
  have CY : Hid (∀ W, Below w.heap.size w W → Calls Tryd.prog 22 #[.agg v] W fun en w' => en = .returned (.bool y) ∧ Below W.heap.size W w') := fun W hW => by rw [← hy]; exact spec_imageOk _ W B v (ImgKeeps.stays h hW)
  have HD : Hid (y = true → _) := fun e => imgOk_head (m := m) (by rw [hy]; exact e)
  have HQ : Hid (y = true → ∀ x ∈ m.code, (∃ q : Nat, x.op = (q : Int) ∧ q < 12) ∧ (x.op = 3 → ∃ k : Nat, x.n = (k : Int) ∧ k < 6)) := fun e x hx => ⟨imgOk_word (by rw [hy]; exact e) hx, imgOk_sign (by rw [hy]; exact e) hx⟩
  have EP : Hid (asmL m = if y = true then headA m ++ linesL m.code m.code.length else []) := by show _ = _; unfold asmL; rw [hy]
  obtain ⟨P, hP⟩ : ∃ P, asmL m = P := ⟨_, rfl⟩
  rw [hP] at EP ⊢
  clear hy hP
  obtain ⟨sizes, params, slots, code⟩ := m
  obtain ⟨us, cs, ub, cb, rfl, _, hsz, hb⟩ := h
  simp only at *
  have hm := maxLen_lt
  have hl := hb.1
  have hls := hsz.1
  have HB := hideP hb
  have HZ := hideP hsz
  clear hb hsz
  have AL : Hid (Below w.heap.size w (w.alloc (.cells #[.slice us sizes.length cs, .int .i64 params, .int .i64 slots, .slice ub code.length cb] 33))) := (Below.refl _ _).alloc (Nat.le_refl _) _
  have BX1 := hideP (newA w (.cells #[.slice us sizes.length cs, .int .i64 params, .int .i64 slots, .slice ub code.length cb] 33))
  obtain ⟨W0, hW0⟩ : ∃ W0, w.alloc (.cells #[.slice us sizes.length cs, .int .i64 params, .int .i64 slots, .slice ub code.length cb] 33) = W0 := ⟨_, rfl⟩
  obtain ⟨bi, hbi⟩ : ∃ bi, w.heap.size = bi := ⟨_, rfl⟩
  rw [hW0, hbi] at BX1
  rw [hW0] at AL
  have HW0 := hideP hW0
  have HBI := hideP hbi
  have p0 := (cells_of BX1.out).1 0
  have p1 := (cells_of BX1.out).1 1
  have p2 := (cells_of BX1.out).1 2
  have p3 := (cells_of BX1.out).1 3
  simp at p0 p1 p2 p3
  clear hW0 hbi
  go_enter Tryd.func10, Tryd.ntmps10
  go_upto_region 1 with fail
  rw [HW0.out, HBI.out]
  go_wp2_with fail
  refine (CY.out _ AL.out).mono ?_
  rintro e2 w2 ⟨rfl, b2⟩
  have BB := hideP (below_trans AL.out b2)
  have BX := hideP (keepA BX1.out b2)
  clear b2 BX1 AL p0 p1 p2 p3
  cases y
  · go_wp2
    go_ret
    exact ⟨ret_str (by rw [EP.out, if_neg (by simp)]), BB.out⟩
  obtain ⟨h4, hz64, hp64, hs64, hc6, hc1⟩ := HD.out rfl
  have EQ : Hid (P = headA ⟨sizes, params, slots, code⟩ ++ linesL code code.length) := by show _ = _; rw [EP.out, if_pos rfl]
  have LI : Hid (∀ W, Below w.heap.size w W → Calls Tryd.prog 23 #[.slice us sizes.length cs] W fun e w' => e = .returned (.string ⟨(numsL sizes).toArray⟩) ∧ w' = W) := fun W hW => l17Ints_any sizes W 0 us cs ((HZ.out.stays hW).mono (Nat.zero_le _)) hz64 (by omega)
  have hnl := numsL_len sizes (fun z hz => hz64 z hz)
  obtain ⟨ns, hns⟩ : ∃ ns : ByteArray, ⟨(numsL sizes).toArray⟩ = ns := ⟨_, rfl⟩
  have NS : Hid (ns.data.toList = numsL sizes) := by show _ = _; rw [← hns]
  have zns : ns.size ≤ 88 := by
    have h1 : ns.data.toList.length ≤ 88 := by rw [NS.out]; omega
    simpa using h1
  rw [hns] at LI
  obtain ⟨t1, T1, z1, D1⟩ := lineS params hp64
  obtain ⟨t2, T2, z2, D2⟩ := lineS slots hs64
  have p0 := (cells_of BX.out).1 0
  have p1 := (cells_of BX.out).1 1
  have p2 := (cells_of BX.out).1 2
  simp at p0 p1 p2
  have DR : Hid (∀ n, Below w.heap.size w (w2.drewN n)) := fun n => below_trans BB.out ⟨rfl, rfl, rfl, Nat.le_refl _, fun _ _ => rfl⟩
  have HX : Hid (∀ n, (w2.drewN n).heap[bi]? = some (.cells #[.slice us sizes.length cs, .int .i64 params, .int .i64 slots, .slice ub code.length cb] 33 (0, 0))) := fun n => BX.out
  have m1 : ¬ 9223372036854775807 < 3 + ns.size := by omega
  have m2 : ¬ 9223372036854775807 < 3 + ns.size + 8 := by omega
  have m3 : ¬ 9223372036854775807 < 3 + ns.size + 8 + t1.size := by omega
  have m4 : ¬ 9223372036854775807 < 3 + ns.size + 8 + t1.size + 7 := by omega
  have m5 : ¬ 9223372036854775807 < 3 + ns.size + 8 + t1.size + 7 + t2.size := by omega
  have m6 : ¬ 9223372036854775807 < 3 + ns.size + 8 + t1.size + 7 + t2.size + 1 := by omega
  have QI : Hid (∀ n, Calls Tryd.prog 23 #[.slice us sizes.length cs] (w2.drewN n) fun e w' => e = .returned (.string ns) ∧ w' = w2.drewN n) := fun n => LI.out _ (DR.out n)
  have HA : Hid (headA ⟨sizes, params, slots, code⟩ = [109, 101, 109] ++ (ns.data.toList ++ ([10, 112, 97, 114, 97, 109, 115, 32] ++ (t1.data.toList ++ ([10, 115, 108, 111, 116, 115, 32] ++ (t2.data.toList ++ [10])))))) := by show _ = _; unfold headA; rw [NS.out, T1.out, T2.out]
  clear hns hnl hz64 hp64 hs64 EP HD BB BX
  go_upto_region 3 with fail
  go_quiet (first | (go_at_call 23; refine Calls.quiet_of_same (QI.out _)) | (go_at_call_of 19 (Value.int .i64 params); refine Calls.quiet_of_same (D1.out _)) | (go_at_call_of 19 (Value.int .i64 slots); refine Calls.quiet_of_same (D2.out _)))
  go_wp2
  obtain ⟨H, hH⟩ : ∃ H, headA ⟨sizes, params, slots, code⟩ = H := ⟨_, rfl⟩
  rw [hH] at HA EQ
  clear hH QI LI D1 D2 p0 p1 p2
  go_loopg [3, 4] code.length (fun gk o i wr => ∃ (j : Nat) (s : ByteArray), gk + j = code.length ∧ i = .int .i64 j ∧ o = .string s ∧ s.size ≤ 300 + 101 * j ∧ Hid (s.data.toList = H ++ linesL code j) ∧ Hid (Below w.heap.size w wr) ∧ Hid (wr.heap[bi]? = some (.cells #[.slice us sizes.length cs, .int .i64 params, .int .i64 slots, .slice ub code.length cb] 33 (0, 0))))
  case atStart => exact ⟨0, _, by simp, rfl, rfl, by simp only [ByteArray.size_append]; show 3 + ns.size + 8 + t1.size + 7 + t2.size + 1 ≤ _; omega, by show _ = _; rw [HA.out]; simp [linesL], DR.out _, HX.out _⟩
  case round =>
    obtain ⟨j, s, hj, rfl, rfl, hsz, hs, bw, hbx⟩ := hrel
    have p3 := (cells_of hbx.out).1 3
    simp at p3
    clear DR HX
    by_cases hlt : j < code.length
    · obtain ⟨b, o, y0, y1, y2, y3, y4, rfl, _, hbb, hy, r0, r1, r2, r3, r4, hxx⟩ := Wrd_get (HB.out.stays WrdKeeps bw.out) j hlt
      obtain ⟨⟨q, hq1, hq2⟩, hq3⟩ := HQ.out (by first | rfl | trivial) _ (List.getElem_mem hlt)
      have hxw := hxx.2
      have UP := hideP (linesL_step hlt hy)
      rw [hy] at hq1 hq3
      have WL := hideP (wordL_len hxw hq1 hq2 hq3)
      have LW : Hid (∀ W, Calls Tryd.prog 24 #[.agg #[.int .i64 y0, .int .i64 y1, .int .i64 y2, .int .i64 y3, .int .i64 y4]] W fun e w' => e = .returned (.string ⟨(wordL ⟨y0, y1, y2, y3, y4⟩).toArray⟩) ∧ Below W.heap.size W w') := fun W => l17Word_any ⟨y0, y1, y2, y3, y4⟩ q hq1 hq2 hxw (fun e => hq3 (by rw [hq1, e]; rfl)) W
      obtain ⟨wl, hwl⟩ : ∃ wl : ByteArray, ⟨(wordL ⟨y0, y1, y2, y3, y4⟩).toArray⟩ = wl := ⟨_, rfl⟩
      have HWL : Hid (wl.data.toList = wordL ⟨y0, y1, y2, y3, y4⟩) := by show _ = _; rw [← hwl]
      have zwl : wl.size ≤ 100 := by
        have h1 : wl.data.toList.length ≤ 100 := by rw [HWL.out]; exact WL.out
        simpa using h1
      rw [hwl] at LW
      have m7 : ¬ 9223372036854775807 < s.size + wl.size := by omega
      have m8 : ¬ 9223372036854775807 < s.size + wl.size + 1 := by omega
      clear hy hxx hq1 hq3 hxw hwl WL
      go_wp2_with fail
      refine (LW.out _).mono ?_
      rintro e3 w3 ⟨rfl, b3⟩
      have B3 := hideP (below_trans bw.out b3)
      have X3 := hideP (keepA hbx.out b3)
      clear b3 bw hbx p3 r0 r1 r2 r3 r4
      go_wp2
      go_roundg (code.length - (j + 1))
      case rel => exact ⟨j + 1, _, by omega, by go_num, rfl, by simp only [ByteArray.size_append]; show s.size + wl.size + 1 ≤ _; omega, by show _ = _; rw [UP.out, ← HWL.out]; simp [hs.out], B3.out, X3.out⟩
      case measure => omega
    · have hjn : j = code.length := by omega
      subst hjn
      go_wp2
      go_ret
      exact ⟨ret_str (mk_ofA (by rw [hs.out, EQ.out])), bw.out⟩
end Go.Proofs.YtheholgdfmipbaaDoor
