/- The contracts of impl.threadEnd and of Threads' closure. -/
import Derived.Test.YtobpcfelgobedabThPl
import Derived.Test.YtobpcfelgobedabSetR
namespace Go.Proofs.Ytobpcfelgobedab
open Go.ChangeShapes Go.WideShapes Go.ChangeAt Go.RowKit Go.Maps
set_option maxHeartbeats 8000000 in
set_option maxRecDepth 100000 in
theorem threadEnd_any (blocks : List Blk) (i : Nat) (w : World) (B : Nat) (ub : Option Addr) (cb : Nat) (hb : SlIs BlkIs 5 w B ub blocks) (hto : ∀ b ∈ blocks, b.jump = 0 → InR blocks.length b.to) (hn : blocks.length ≤ 300) (hi : i < blocks.length) :
    Calls Try.prog 22 #[.slice ub blocks.length cb, .int .i64 (i : Int)] w fun e w' => e = .returned (.int .i64 (aimT blocks (i : Int))) ∧ Below w.heap.size w w' := by
  have hm := maxLen_lt
  have hmm := @run_makeMap Try.prog
  have HB := hideP hb
  have HT := hideP hto
  have S0 := hideP (SetP.made w)
  have BW := hideP ((Below.refl w.heap.size w).alloc (Nat.le_refl _) (.map #[] 0))
  have A0 := hideP (AmI.start hi)
  obtain ⟨R, hR⟩ : ∃ R, aimT blocks (i : Int) = R := ⟨_, rfl⟩
  rw [hR] at A0 ⊢
  clear hb hto hR
  go_enter Try.func22, Try.ntmps22
  go_wp2
  clear hmm
  go_loopg [1] blocks.length (fun gk a wr => ∃ (S : List Int) (k : Nat), a = .int .i64 k ∧ Hid (AmI blocks R S k gk) ∧ Hid (SetP wr w.heap.size S.length (fun q => q ∈ S)) ∧ Hid (Below w.heap.size w wr))
  case atStart => exact ⟨[], i, rfl, A0.out, S0.out.congr (fun q => by simp), BW.out⟩
  case round =>
    obtain ⟨S, k, rfl, hI, hS, hB⟩ := hrel
    obtain ⟨f', rfl⟩ := hI.out.few
    have hkn := hI.out.lt
    have hSl : S.length ≤ 300 := by have := hI.out.len; omega
    have al := (Below.refl wr.heap.size wr).alloc (Nat.le_refl _) (.cells #[.int .i64 (k : Int)] 3)
    have OL := hideP (own_lit wr [(k : Int)] #[.int .i64 (k : Int)] wr.heap.size 1 rfl rfl rfl (by simp))
    have B3 := hideP (below_trans hB.out al)
    have S3 := hideP (hS.out.stays al)
    have CA := hideP (addQ_any S3.out OL.out (show I64 (k : Int) by unfold I64; omega) (by omega))
    have hsz := hS.out.lt
    obtain ⟨b0, o0, code, jump, a, t0, els, ux, kx, rfl, _, hbb, hx, q0, q1, q2, q3, q4, hbX⟩ := Blk_get HB.out k hkn
    have ht0 : Hid (jump = 0 → InR blocks.length t0) := fun h => by
      have := HT.out blocks[k] (List.getElem_mem hkn)
      rw [hx] at this
      exact this h
    have OFF : Hid (¬ onB ⟨code, jump, a, t0, els⟩ (S ++ [(k : Int)]) → R = (k : Int)) := fun h => hI.out.off (by rw [hx]; exact h)
    have ON : Hid (∀ k' : Nat, onB ⟨code, jump, a, t0, els⟩ (S ++ [(k : Int)]) → t0 = (k' : Int) → k' < blocks.length → AmI blocks R (S ++ [(k : Int)]) k' f') := fun k' h h1 h2 => hI.out.on (by rw [hx]; exact h) (by rw [hx]; exact h1) h2
    clear al hS hB OL S3 hI hx hbX
    go_wp2_with fail
    refine CA.out.mono ?_
    rintro e4 w4 ⟨rfl, s4, b4⟩
    have S4 : Hid (SetP w4 w.heap.size (S ++ [(k : Int)]).length (fun q => q ∈ S ++ [(k : Int)])) := by
      show SetP _ _ _ _
      rw [List.length_append]
      exact s4.congr (fun q => by simp)
    have B4 : Hid (Below w.heap.size w w4) := B3.out.trans (b4.below (Nat.le_refl _) B3.out.size)
    have z0 := (B4.out.cell (p := ⟨b0, _, none⟩) hbb).trans q0
    have z1 := (B4.out.cell (p := ⟨b0, _, none⟩) hbb).trans q1
    have z2 := (B4.out.cell (p := ⟨b0, _, none⟩) hbb).trans q2
    have z3 := (B4.out.cell (p := ⟨b0, _, none⟩) hbb).trans q3
    have z4 := (B4.out.cell (p := ⟨b0, _, none⟩) hbb).trans q4
    have k0 : (0 : Int) ≤ (k : Int) := by omega
    have k1 : (k : Int) < (blocks.length : Int) := by omega
    have AL := hideP ((Below.refl w4.heap.size w4).alloc (Nat.le_refl _) (.cells #[.slice ux code.length kx, .int .i64 jump, .int .i64 a, .int .i64 t0, .int .i64 els] 40))
    have B5 := hideP (below_trans B4.out AL.out)
    have S5 := hideP (S4.out.stays AL.out)
    clear s4 b4 B3 CA q0 q1 q2 q3 q4
    obtain ⟨nc, hnc⟩ : ∃ nc : Nat, code.length = nc := ⟨_, rfl⟩
    rw [hnc] at z0 AL B5 S5
    have HNC := hideP hnc
    clear hnc
    by_cases hc : nc = 0
    case neg =>
      have E := hideP (OFF.out (fun h => hc (HNC.out.symm.trans h.1)))
      have hp : (0 : Int) < (nc : Int) := by omega
      clear OFF ON ht0
      go_wp2
      go_ret
      exact ⟨by rw [E.out]; rfl, B5.out⟩
    case pos =>
      subst hc
      by_cases hj : jump = 0
      case neg =>
        have E := hideP (OFF.out (fun h => hj h.2.1))
        have hjb : (jump == 0) = false := by simpa using hj
        clear OFF ON ht0
        go_wp2
        go_ret
        exact ⟨by rw [E.out]; rfl, B5.out⟩
      case pos =>
        have hr := ht0.out hj
        obtain ⟨k', rfl⟩ : ∃ k' : Nat, t0 = (k' : Int) := ⟨t0.toNat, by have := hr.1; omega⟩
        have hk' : k' < blocks.length := by have := hr.2; omega
        have h6 : I64 (k' : Int) := by unfold I64; omega
        by_cases hmem : (k' : Int) ∈ S ++ [(k : Int)]
        · have E := hideP (OFF.out (fun h => h.2.2 hmem))
          have CH := hideP (hasQ_any S5.out h6 (y := true) ⟨fun _ => hmem, fun _ => rfl⟩)
          subst hj
          clear OFF ON ht0 hmem
          go_wp2_with fail
          refine CH.out.mono ?_
          rintro e6 w6 ⟨rfl, b6⟩
          have B6 := hideP (below_trans B5.out b6)
          clear b6 CH
          go_wp2
          go_ret
          exact ⟨by rw [E.out]; rfl, B6.out⟩
        · have A6 := hideP (ON.out k' ⟨HNC.out, hj, hmem⟩ rfl hk')
          have CH := hideP (hasQ_any S5.out h6 (y := false) ⟨fun h => absurd h (by decide), fun h => absurd h hmem⟩)
          have X5 : Hid ((w4.alloc (.cells #[.slice ux 0 kx, .int .i64 jump, .int .i64 a, .int .i64 (k' : Int), .int .i64 els] 40)).heap[w4.heap.size]? = some (.cells #[.slice ux 0 kx, .int .i64 jump, .int .i64 a, .int .i64 (k' : Int), .int .i64 els] 40)) := by show (w4.heap.push _)[w4.heap.size]? = _; exact Array.getElem?_push_size
          subst hj
          clear OFF ON ht0 hmem
          go_wp2_with fail
          refine CH.out.mono ?_
          rintro e6 w6 ⟨rfl, b6⟩
          have B6 := hideP (below_trans B5.out b6)
          have S6 := hideP (S5.out.stays b6)
          have x3 := (cells_of ((b6.block _ (Array.getElem?_eq_some_iff.1 X5.out).1).trans X5.out)).1 3
          simp at x3
          clear b6 CH X5
          go_wp2
          go_roundg f'
          case rel => exact ⟨S ++ [(k : Int)], k', rfl, A6.out, S6.out, B6.out⟩
          case measure => omega
set_option maxHeartbeats 4000000 in
set_option maxRecDepth 100000 in
theorem thrClo_any (g : Gr) (n : Int) (w : World) (B pc : Nat) (v : Array Value) (h : GrIs w B v g) (hg : grOk g = true) (hq : w.heap[pc]? = some (.cells v 29 (0, 0))) (hi : InR g.blocks.length n) :
    Calls Try.prog 21 #[.int .i64 n, .pointer (some ⟨pc, 0, none⟩)] w fun e w' => e = .returned (.int .i64 (aimT g.blocks n)) ∧ Below w.heap.size w w' := by
  obtain ⟨k, rfl⟩ : ∃ k : Nat, n = (k : Int) := ⟨n.toNat, by have := hi.1; omega⟩
  have hk : k < g.blocks.length := by have := hi.2; omega
  have HT : ∀ b ∈ g.blocks, b.jump = 0 → InR g.blocks.length b.to := fun b hb hj => jump_to hg hb (Or.inl hj)
  have hbl := grOk_blocks hg
  obtain ⟨sizes, p, q, r, blocks⟩ := g
  obtain ⟨us, cs, ub, cb, rfl, _, _, hb⟩ := h
  simp only at *
  have TE := hideP (threadEnd_any blocks k w B ub cb hb HT hbl.2 hk)
  have g4 := (cells_of hq).1 4
  simp at g4
  clear hb HT hq hi
  go_enter Try.func21, Try.ntmps21
  go_wp2_with fail
  refine TE.out.mono ?_
  rintro e1 w1 ⟨rfl, b1⟩
  have B1 := hideP b1
  clear b1 TE g4
  go_wp2
  go_ret
  exact ⟨rfl, B1.out⟩
end Go.Proofs.Ytobpcfelgobedab
