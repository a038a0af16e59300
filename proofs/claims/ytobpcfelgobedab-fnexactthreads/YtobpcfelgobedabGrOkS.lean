/- The contract of spec.GraphOk. -/
import Derived.Test.YtobpcfelgobedabBlkOkS
import Derived.Deep.CutRange
import Derived.Deep.QuietTactic
import Derived.BigQuiet
namespace Go.Proofs.Ytobpcfelgobedab
open Go.ChangeShapes Go.WideShapes Go.ChangeAt Go.RowKit
theorem l01In_yes (x a b : Int) (w : World) (h1 : a ≤ x) (h2 : x ≤ b) :
    Calls Try.prog 30 #[.int .i64 x, .int .i64 a, .int .i64 b] w fun e w' => e = .returned (.bool true) ∧ w' = w := by
  refine (l01In_any x a b w).mono ?_
  rintro e w' ⟨rfl, rfl⟩
  exact ⟨ret_bool (by simp [inB, h1, h2]), rfl⟩
theorem l01In_or (x a b : Int) (w : World) :
    Calls Try.prog 30 #[.int .i64 x, .int .i64 a, .int .i64 b] w fun e w' => (e = .returned (.bool true) ∧ a ≤ x ∧ x ≤ b ∧ w' = w) ∨ (e = .returned (.bool false) ∧ ¬ (a ≤ x ∧ x ≤ b) ∧ w' = w) := by
  refine (l01In_any x a b w).mono ?_
  rintro e w' ⟨rfl, rfl⟩
  by_cases h : a ≤ x ∧ x ≤ b
  · exact Or.inl ⟨ret_bool (by simp [inB, h]), h.1, h.2, rfl⟩
  · exact Or.inr ⟨ret_bool (by simp [inB] at *; omega), h, rfl⟩
/-- Whether Sizes, Params, Vars, Slots and the number of blocks are right, but for each size. -/
def headOk (g : Gr) : Prop := (1 ≤ g.sizes.length ∧ g.sizes.length ≤ 4) ∧ (0 ≤ g.vars ∧ g.vars ≤ 20) ∧ (0 ≤ g.params ∧ g.params ≤ 6) ∧ g.params ≤ g.vars ∧ (g.vars ≤ g.slots ∧ g.slots ≤ 1000) ∧ (1 ≤ g.blocks.length ∧ g.blocks.length ≤ 300)
theorem grOk_no_size {g : Gr} (h : g.sizes.all sizeOk = false) : grOk g = false := by unfold grOk frOk; rw [h]; simp
theorem grOk_no_head {g : Gr} (h : ¬ headOk g) : grOk g = false := by
  cases hh : grOk g
  · rfl
  · exfalso; apply h
    simp only [grOk, frOk, Bool.and_eq_true, decide_eq_true_eq] at hh
    obtain ⟨⟨⟨⟨⟨⟨⟨a, _⟩, b1, b2, b3, b4⟩, c⟩, d⟩, _⟩, _⟩, _⟩ := hh
    exact ⟨a, ⟨by omega, b4⟩, ⟨b1, b2⟩, b3, c, d⟩
theorem blk_at (w : World) (o : Obj) : (w.alloc o).heap[w.heap.size]? = some o := by show (w.heap.push o)[w.heap.size]? = _; exact Array.getElem?_push_size
theorem drewN_bel (w : World) (q : Nat) : Below w.heap.size w (w.drewN q) := ⟨rfl, rfl, rfl, Nat.le_refl _, fun _ _ => rfl⟩
def blkOk (g : Gr) (x : Blk) : Bool := x.code.all (insOk (g.sizes.length : Nat) g.slots) && jmpOk g.slots g.blocks.length x
theorem all_codeAll (p : Ins → Bool) (q : Blk → Bool) (bs : List Blk) : ((codeAll bs).all p && bs.all q) = bs.all (fun b => b.code.all p && q b) := by
  induction bs with
  | nil => rfl
  | cons b bs ih =>
    simp only [codeAll, List.flatMap_cons, List.all_append, List.all_cons]
    rw [← ih]
    simp only [codeAll]
    cases b.code.all p <;> cases q b <;> simp
theorem grOk_head {g : Gr} (h1 : g.sizes.all sizeOk = true) (h : headOk g) : grOk g = (decide ((codeAll g.blocks).length ≤ 1000) && g.blocks.all (blkOk g)) := by
  obtain ⟨a, b, c, d, e, f⟩ := h
  have e1 : frOk g.sizes g.params g.vars = true := by simp only [frOk, Bool.and_eq_true, decide_eq_true_eq]; exact ⟨⟨a, h1⟩, c.1, c.2, d, b.2⟩
  unfold grOk
  rw [e1, decide_eq_true e, decide_eq_true f, Bool.true_and, Bool.true_and, Bool.true_and, Bool.and_assoc, all_codeAll]
  rfl
theorem codeAll_tk (bs : List Blk) (j : Nat) (h : j < bs.length) : (codeAll (bs.take (j + 1))).length = (codeAll (bs.take j)).length + bs[j].code.length := by
  rw [List.take_succ_eq_append_getElem h]; unfold codeAll; rw [List.flatMap_append, List.length_append, List.flatMap_cons, List.flatMap_nil, List.append_nil]
theorem codeAll_le (bs : List Blk) (j : Nat) : (codeAll (bs.take j)).length ≤ (codeAll bs).length := by
  have e : codeAll (bs.take j ++ bs.drop j) = codeAll (bs.take j) ++ codeAll (bs.drop j) := by unfold codeAll; exact List.flatMap_append
  rw [List.take_append_drop] at e
  rw [e, List.length_append]; omega
set_option maxHeartbeats 8000000 in
set_option maxRecDepth 100000 in
theorem spec_graphOk (g : Gr) (w : World) (B : Nat) (v : Array Value) (h : GrIs w B v g) (hS : g.sz ≤ 1048576) :
    Calls Try.prog 14 #[.agg v] w fun en w' => en = .returned (.bool (grOk g)) ∧ Below w.heap.size w w' := by
  have hG := hideP h
  obtain ⟨sizes, params, vars, slots, blocks⟩ := g
  obtain ⟨us, cs, ub, cb, rfl, _, hz, hb⟩ := h
  simp only at *
  have hm := maxLen_lt
  have hlz := hz.1
  have hlb := hb.1
  have q1 := blk_at w (.cells #[.slice us sizes.length cs, .int .i64 params, .int .i64 vars, .int .i64 slots, .slice ub blocks.length cb] 29)
  have hw := (Below.refl w.heap.size w).alloc (Nat.le_refl _) (.cells #[.slice us sizes.length cs, .int .i64 params, .int .i64 vars, .int .i64 slots, .slice ub blocks.length cb] 29)
  have HZ := hideP hz
  have HB := hideP hb
  clear hz hb
  obtain ⟨W0, hW0⟩ : ∃ W0, w.alloc (.cells #[.slice us sizes.length cs, .int .i64 params, .int .i64 vars, .int .i64 slots, .slice ub blocks.length cb] 29) = W0 := ⟨_, rfl⟩
  rw [hW0] at q1 hw
  have Q1 := hideP q1
  have BW := hideP hw
  have HW0 := hideP hW0
  clear hW0 q1 hw
  go_enter Try.func14, Try.ntmps14
  go_wp2
  rw [HW0.out]
  clear HW0
  have p0 := (cells_of Q1.out).1 0
  have p1 := (cells_of Q1.out).1 1
  have p2 := (cells_of Q1.out).1 2
  have p3 := (cells_of Q1.out).1 3
  have p4 := (cells_of Q1.out).1 4
  simp at p0 p1 p2 p3 p4
  go_loop [3] (fun i => ∃ j : Nat, j ≤ sizes.length ∧ i = .int .i64 j ∧ Hid ((sizes.take j).all sizeOk = true)) (fun i => sizes.length - (intOf i).toNat)
  case atStart => exact ⟨0, Nat.zero_le _, rfl, show _ = _ by simp⟩
  case round =>
    obtain ⟨j, hj, rfl, hok⟩ := hrel
    by_cases hlt : j < sizes.length
    · obtain ⟨b, o, rfl, _, hb, c0⟩ := (HZ.out.stays BW.out).get j hlt
      have tk := all_take sizeOk sizes j hlt
      have no := all_no sizeOk sizes j hlt
      obtain ⟨z, hz⟩ : ∃ z, sizes[j] = z := ⟨_, rfl⟩
      rw [hz] at c0 tk no
      rw [hok.out, Bool.true_and] at tk
      by_cases hs : 1 ≤ z ∧ z ≤ 16
      · have T : Hid ((sizes.take (j + 1)).all sizeOk = true) := tk.trans (by simp [sizeOk, hs])
        obtain ⟨s1, s2⟩ := hs
        clear hz tk no
        go_wp2_with (go_at_call 30; refine (l01In_yes _ _ _ _ s1 s2).mono ?_; rintro e1 w1 ⟨rfl, rfl⟩)
        go_round
        case rel => exact ⟨j + 1, by omega, by go_num, T⟩
        case measure => simp [intOf]; omega
      · have E : Hid (grOk ⟨sizes, params, vars, slots, blocks⟩ = false) := grOk_no_size (no (by simp [sizeOk]; omega))
        clear hz tk no
        go_wp2_with (go_at_call 30; refine (l01In_or _ _ _ _).mono ?_; rintro e1 w1 (⟨rfl, hx1, hx2, rfl⟩ | ⟨rfl, hn, rfl⟩))
        all_goals first | (exfalso; omega) | skip
        all_goals go_ret
        all_goals exact ⟨ret_bool E.out.symm, BW.out⟩
    · have hjn : j = sizes.length := by omega
      subst hjn
      have h1 := hok.out
      rw [List.take_length] at h1
      by_cases hh : headOk ⟨sizes, params, vars, slots, blocks⟩
      · have E := hideP (grOk_head h1 hh)
        obtain ⟨⟨a1, a2⟩, ⟨b1, b2⟩, ⟨c1, c2⟩, d1, ⟨e1, e2⟩, f1, f2⟩ := hh
        simp only at a1 a2 b1 b2 c1 c2 d1 e1 e2 f1 f2
        have d2 : ¬ vars < params := by omega
        have hV : 0 ≤ slots := by omega
        have BO : Hid (∀ W x B2 v2, Below w.heap.size w W → BlkIs W B2 v2 x → Calls Try.prog 31 #[.agg #[.slice us sizes.length cs, .int .i64 params, .int .i64 vars, .int .i64 slots, .slice ub blocks.length cb], .agg v2] W fun en w' => en = .returned (.bool (blkOk ⟨sizes, params, vars, slots, blocks⟩ x)) ∧ Below W.heap.size W w') := fun W x B2 v2 hW hx => l04BlockOk_any _ x W B B2 _ _ (GrKeeps.stays hG.out hW) hx hV
        clear h1 hok
        go_wp2_with (go_at_call 30; refine (l01In_yes _ _ _ _ (by omega) (by omega)).mono ?_; rintro y1 w1 ⟨rfl, hw1⟩; have hw2 := hw1.symm; clear hw1; subst hw2)
        clear p0 p1 p2 p3 p4
        go_loopw [4, 5] (fun n i wr => ∃ j k : Nat, j ≤ blocks.length ∧ i = .int .i64 j ∧ n = .int .i64 k ∧ k ≤ 1000 ∧ Hid (k = (codeAll (blocks.take j)).length) ∧ Hid (Below W0.heap.size W0 wr) ∧ Hid ((blocks.take j).all (blkOk ⟨sizes, params, vars, slots, blocks⟩) = true)) (fun _ i _ => blocks.length - (intOf i).toNat)
        case atStart => exact ⟨0, 0, Nat.zero_le _, rfl, rfl, by omega, show _ = _ by simp [codeAll], Below.refl _ _, show _ = _ by simp⟩
        case round =>
          obtain ⟨j, k, hj, rfl, rfl, hk, hkc, hbr, hok⟩ := hrel
          have r1 := (hbr.out.block _ (Array.getElem?_eq_some_iff.1 Q1.out).1).trans Q1.out
          have bw := BW.out.trans (hbr.out.mono BW.out.size)
          by_cases hlt : j < blocks.length
          · obtain ⟨b, o, x0, x1, x2, x3, x4, ux, kx, rfl, _, hbb, hx, q0, q1, q2, q3, q4, hbX⟩ := Blk_get HB.out j hlt
            have tk := all_take (blkOk ⟨sizes, params, vars, slots, blocks⟩) blocks j hlt
            have no := all_no (blkOk ⟨sizes, params, vars, slots, blocks⟩) blocks j hlt
            have ct := codeAll_tk blocks j hlt
            have cle := codeAll_le blocks (j + 1)
            rw [hx] at tk no ct
            rw [hok.out, Bool.true_and] at tk
            rw [← hkc.out] at ct
            simp only at ct
            have hlc : x0.length ≤ 1048576 := by
              have h1 : (⟨x0, x1, x2, x3, x4⟩ : Blk) ∈ blocks := by rw [← hx]; exact List.getElem_mem hlt
              have h2 := slSum_mem Blk.sz h1
              simp only [Gr.sz, Blk.sz, slSz] at hS h2
              omega
            replace q0 := (bw.cell (p := ⟨b, _, none⟩) hbb).trans q0
            replace q1 := (bw.cell (p := ⟨b, _, none⟩) hbb).trans q1
            replace q2 := (bw.cell (p := ⟨b, _, none⟩) hbb).trans q2
            replace q3 := (bw.cell (p := ⟨b, _, none⟩) hbb).trans q3
            replace q4 := (bw.cell (p := ⟨b, _, none⟩) hbb).trans q4
            have p0 := (cells_of r1).1 0
            have p1 := (cells_of r1).1 1
            have p2 := (cells_of r1).1 2
            have p3 := (cells_of r1).1 3
            have p4 := (cells_of r1).1 4
            simp at p0 p1 p2 p3 p4
            have BWr := hideP bw
            have HBX := hideP (BlkKeeps.stays hbX bw.drew)
            by_cases hbig : 1000 < k + x0.length
            · have E2 : Hid (grOk ⟨sizes, params, vars, slots, blocks⟩ = false) := by
                show _ = _
                rw [E.out, decide_eq_false (show ¬ (codeAll blocks).length ≤ 1000 by omega)]; rfl
              have hbig2 : (1000 : Int) < (k : Int) + (x0.length : Int) := by omega
              clear tk no ct cle hbX hx r1 bw
              have hwr : wrap64 ((k : Int) + (x0.length : Int)) = (k : Int) + (x0.length : Int) := by unfold wrap64; omega
              go_upto_region 13 with fail
              first | rw [hwr] | skip
              obtain ⟨K, hK⟩ : ∃ K : Int, (k : Int) + (x0.length : Int) = K := ⟨_, rfl⟩
              rw [hK] at hbig2 ⊢
              have hd : decide ((1000 : Int) < K) = true := decide_eq_true hbig2
              clear hwr hK
              go_quiet (fail)
              all_goals go_wp2
              all_goals go_ret
              all_goals exact ⟨ret_bool E2.out.symm, BWr.out.trans ((drewN_bel _ _).mono BWr.out.size)⟩
            · have hbig2 : ¬ (1000 : Int) < (k : Int) + (x0.length : Int) := by omega
              obtain ⟨r, hr⟩ : ∃ r, blkOk ⟨sizes, params, vars, slots, blocks⟩ ⟨x0, x1, x2, x3, x4⟩ = r := ⟨_, rfl⟩
              rw [hr] at tk no
              have BO1 : Hid (Calls Try.prog 31 #[.agg #[.slice us sizes.length cs, .int .i64 params, .int .i64 vars, .int .i64 slots, .slice (some ⟨b, o, none⟩) blocks.length cb], .agg #[.slice ux x0.length kx, .int .i64 x1, .int .i64 x2, .int .i64 x3, .int .i64 x4]] wr.drew fun en w' => en = .returned (.bool r) ∧ Below wr.heap.size wr.drew w') := by
                rw [← hr]; exact BO.out _ _ _ _ bw.drew HBX.out
              have TK := hideP tk
              have NO := hideP no
              have CT := hideP ct
              have SK : Hid (∀ W', Below wr.heap.size wr W' → W'.cell? ⟨w.heap.size, 0, none⟩ = some (.slice us sizes.length cs) ∧ W'.cell? ⟨w.heap.size, 1, none⟩ = some (.int .i64 params) ∧ W'.cell? ⟨w.heap.size, 2, none⟩ = some (.int .i64 vars) ∧ W'.cell? ⟨w.heap.size, 3, none⟩ = some (.int .i64 slots) ∧ W'.cell? ⟨w.heap.size, 4, none⟩ = some (.slice (some ⟨b, o, none⟩) blocks.length cb) ∧ W'.cell? ⟨b, o + j * 5, none⟩ = some (.slice ux x0.length kx) ∧ W'.cell? ⟨b, o + j * 5 + 1, none⟩ = some (.int .i64 x1) ∧ W'.cell? ⟨b, o + j * 5 + 2, none⟩ = some (.int .i64 x2) ∧ W'.cell? ⟨b, o + j * 5 + 3, none⟩ = some (.int .i64 x3) ∧ W'.cell? ⟨b, o + j * 5 + 4, none⟩ = some (.int .i64 x4)) := fun W' hW => by
                have hA := (Array.getElem?_eq_some_iff.1 r1).1
                have hbb' : b < wr.heap.size := Nat.lt_of_lt_of_le hbb bw.size
                exact ⟨(hW.cell (p := ⟨w.heap.size, 0, none⟩) hA).trans p0, (hW.cell (p := ⟨w.heap.size, 1, none⟩) hA).trans p1, (hW.cell (p := ⟨w.heap.size, 2, none⟩) hA).trans p2, (hW.cell (p := ⟨w.heap.size, 3, none⟩) hA).trans p3, (hW.cell (p := ⟨w.heap.size, 4, none⟩) hA).trans p4, (hW.cell (p := ⟨b, _, none⟩) hbb').trans q0, (hW.cell (p := ⟨b, _, none⟩) hbb').trans q1, (hW.cell (p := ⟨b, _, none⟩) hbb').trans q2, (hW.cell (p := ⟨b, _, none⟩) hbb').trans q3, (hW.cell (p := ⟨b, _, none⟩) hbb').trans q4⟩
              clear hr tk no ct cle hbX hx r1 bw BO HBX
              have hwr : wrap64 ((k : Int) + (x0.length : Int)) = (k : Int) + (x0.length : Int) := by unfold wrap64; omega
              go_upto_region 13 with fail
              first | rw [hwr] | skip
              obtain ⟨K, hK⟩ : ∃ K : Int, (k : Int) + (x0.length : Int) = K := ⟨_, rfl⟩
              rw [hK] at hbig2 ⊢
              have HK := hideP hK
              have hd : decide ((1000 : Int) < K) = false := decide_eq_false hbig2
              clear p0 p1 p2 p3 p4 q0 q1 q2 q3 q4 hwr hK
              go_region_held3 (fun W' => W'.cell? ⟨w.heap.size, 0, none⟩ = some (.slice us sizes.length cs) ∧ W'.cell? ⟨w.heap.size, 1, none⟩ = some (.int .i64 params) ∧ W'.cell? ⟨w.heap.size, 2, none⟩ = some (.int .i64 vars) ∧ W'.cell? ⟨w.heap.size, 3, none⟩ = some (.int .i64 slots) ∧ W'.cell? ⟨w.heap.size, 4, none⟩ = some (.slice (some ⟨b, o, none⟩) blocks.length cb) ∧ W'.cell? ⟨b, o + j * 5, none⟩ = some (.slice ux x0.length kx) ∧ W'.cell? ⟨b, o + j * 5 + 1, none⟩ = some (.int .i64 x1) ∧ W'.cell? ⟨b, o + j * 5 + 2, none⟩ = some (.int .i64 x2) ∧ W'.cell? ⟨b, o + j * 5 + 3, none⟩ = some (.int .i64 x3) ∧ W'.cell? ⟨b, o + j * 5 + 4, none⟩ = some (.int .i64 x4)) (first | exact SK.out _ (Below.refl _ _).drew | exact SK.out _ HB1.out) (first | (go_at_call 31; refine BO1.out.mono ?_; rintro e1 w1 ⟨rfl, bel1⟩; have HB1 := hideP ((Below.refl wr.heap.size wr).drew.trans bel1); clear bel1))
              all_goals
                cases r
                · go_wp2
                  go_ret
                  exact ⟨ret_bool (by rw [E.out]; rw [NO.out (by first | rfl | trivial), Bool.and_false]), BWr.out.trans (HB1.out.mono BWr.out.size)⟩
                · go_wp2
                  go_roundw
                  case rel => exact ⟨j + 1, k + x0.length, by omega, by go_num, by rw [← HK.out]; go_num, by omega, CT.out.symm, hbr.out.trans (HB1.out.mono hbr.out.size), TK.out⟩
                  case measure => simp [intOf]; omega
          · obtain rfl : j = blocks.length := by omega
            have h1 := hok.out
            have h2 := hkc.out
            rw [List.take_length] at h1 h2
            have E2 : Hid (grOk ⟨sizes, params, vars, slots, blocks⟩ = true) := by
              show _ = _
              rw [E.out]; rw [h1, ← h2]; simp [hk]
            have p4 := (cells_of r1).1 4
            simp at p4
            have BWr := hideP bw
            clear h1 h2 hok hkc bw r1
            go_wp2
            go_ret
            exact ⟨ret_bool E2.out.symm, BWr.out⟩
      · have E := hideP (grOk_no_head hh)
        have hh2 : ¬ ((1 ≤ sizes.length ∧ sizes.length ≤ 4) ∧ (0 ≤ vars ∧ vars ≤ 20) ∧ (0 ≤ params ∧ params ≤ 6) ∧ params ≤ vars ∧ (vars ≤ slots ∧ slots ≤ 1000) ∧ (1 ≤ blocks.length ∧ blocks.length ≤ 300)) := hh
        have HH := hideP hh2
        clear h1 hok hh hh2
        go_wp2_with (go_at_call 30; refine (l01In_or _ _ _ _).mono ?_; rintro e1 w1 (⟨rfl, hx1, hx2, rfl⟩ | ⟨rfl, hn, rfl⟩))
        all_goals first | (exfalso; exact HH.out ⟨⟨by omega, by omega⟩, ⟨by omega, by omega⟩, ⟨by omega, by omega⟩, by omega, ⟨by omega, by omega⟩, ⟨by omega, by omega⟩⟩) | skip
        all_goals go_ret
        all_goals exact ⟨ret_bool E.out.symm, BW.out⟩
end Go.Proofs.Ytobpcfelgobedab
