/- The contract of what Chain's closure tells. -/
import Derived.Test.YtobpcfelgobedaaRChaP
import Derived.Test.YtobpcfelgobedaaRSetQ
import Derived.Test.YtobpcfelgobedaaRNextI
import Derived.Conc.WalkWords
namespace Go.Proofs.YtobpcfelgobedaaR
open Go.ChangeShapes Go.WideShapes Go.ChangeAt Go.RowKit Go.Maps
set_option maxHeartbeats 8000000 in
set_option maxRecDepth 100000 in
theorem behind_any (g : Gr) (C D : List Int) (i : Nat) (w : World) (Gb Mb Cb m N B B2 : Nat) (gv : Array Value) (uc : Option Addr) (kc : Nat) (h : GrIs w B gv g) (hg : grOk g = true)
    (hgb : w.heap[Gb]? = some (.cells gv 30 (0, 0))) (hmb : w.heap[Mb]? = some (.cells #[.map (some m)] 48 (0, 0))) (hcb : w.heap[Cb]? = some (.cells #[.slice uc C.length kc] 22 (0, 0)))
    (hS : SetP w m N (fun q => InQ g.blocks.length q ∧ ¬ q ∈ D)) (hC : IntsIs w B2 uc C) (hl : C.length = g.blocks.length) (hi : i < g.blocks.length) :
    Calls Try.prog 39 #[.int .i64 (i : Int), .pointer (some ⟨Gb, 0, none⟩), .pointer (some ⟨Mb, 0, none⟩), .pointer (some ⟨Cb, 0, none⟩)] w fun e w' => e = .returned (.int .i64 (behC g.blocks C D (i : Int))) ∧ Below w.heap.size w w' := by
  have hbl := grOk_blocks hg
  have AI := hideP (allIn_of hg)
  obtain ⟨sizes, params, vars, slots, blocks⟩ := g
  obtain ⟨us, cs, ub, cb, rfl, _, _, hb⟩ := h
  simp only at *
  have hm := maxLen_lt
  have GB := hideP hgb
  have MB := hideP hmb
  have CB := hideP hcb
  have HS := hideP hS
  have HC := hideP hC
  obtain ⟨b, o, code, jump, a, t0, els, ucode, ccode, rfl, _, hbb, hx, q0, q1, q2, q3, q4, hbX⟩ := Blk_get hb i hi
  have NX : Hid (nxt blocks (i : Int) = nextP ⟨code, jump, a, t0, els⟩) := by
    show _ = _
    unfold nxt
    rw [Int.toNat_natCast, List.getElem?_eq_getElem hi, hx]
  have IN : Hid (∀ y ∈ nextP ⟨code, jump, a, t0, els⟩, InQ blocks.length y) := fun y hy => AI.out _ (List.getElem_mem hi) y (by rw [hx]; exact hy)
  have NI := hideP (impl_next _ w B _ hbX)
  obtain ⟨nx, hnx⟩ : ∃ nx, nextP ⟨code, jump, a, t0, els⟩ = nx := ⟨_, rfl⟩
  have hnl : nx.length ≤ 2 := by rw [← hnx]; exact nextP_len _
  rw [hnx] at NX IN NI
  obtain ⟨R, hR⟩ : ∃ R, behC blocks C D (i : Int) = R := ⟨_, rfl⟩
  have HR : Hid (bestU C D nx nx.length = R) := by show _ = _; rw [← hR]; unfold behC; rw [NX.out]
  rw [hR]
  have g4 := (cells_of GB.out).1 4
  simp at g4
  clear hR hnx hx hbX hb hgb hmb hcb hS hC AI NX
  go_enter Try.func39, Try.ntmps39
  go_wp2_with fail
  refine NI.out.mono ?_
  rintro e1 w1 ⟨v1, rfl, o1, bel1⟩
  obtain ⟨gn, cn, rfl, _⟩ := id o1
  have O1 := hideP o1
  have B1 := hideP bel1
  clear o1 bel1 NI g4 q0 q1 q2 q3 q4
  go_wp2
  go_loopg [6, 16] nx.length (fun gk bs ix wr => ∃ k : Nat, gk + k = nx.length ∧ ix = .int .i64 k ∧ bs = .int .i64 (bestU C D nx k) ∧ Hid (Below w1.heap.size w1 wr))
  case atStart => exact ⟨0, by omega, rfl, rfl, Below.refl _ _⟩
  case round =>
    obtain ⟨k, hgk, rfl, rfl, hB⟩ := hrel
    have BW := hideP (below_trans B1.out hB.out)
    by_cases hlt : k < nx.length
    · have x0 := ints_at (O1.out.stays hB.out) k hlt
      obtain ⟨t, ht⟩ : ∃ t, nx[k] = t := ⟨_, rfl⟩
      have HQ : Hid (InQ blocks.length t) := IN.out t (by rw [← ht]; exact List.getElem_mem hlt)
      have UP := hideP (bestU_at (C := C) (D := D) hlt ht)
      have OR := hideP (bestU_or (C := C) (D := D) IN.out k)
      rw [ht] at x0
      obtain ⟨bv, hbv⟩ : ∃ bv, bestU C D nx k = bv := ⟨_, rfl⟩
      rw [hbv] at UP OR ⊢
      have hI64 : Hid (I64 t) := by show I64 _; have := HQ.out.1; have := HQ.out.2; unfold I64; omega
      have S0 := hideP (HS.out.stays BW.out)
      have MK : Hid (∀ W, Below wr.heap.size wr W → W.cell? ⟨Mb, 0, none⟩ = some (.map (some m))) := fun W hW => by
        have hb2 := below_trans BW.out hW
        exact (cells_of ((hb2.block _ (Array.getElem?_eq_some_iff.1 MB.out).1).trans MB.out)).1 0
      clear ht hbv
      by_cases hD : t ∈ D
      · have FF : ¬ (InQ blocks.length t ∧ ¬ t ∈ D) := fun h => h.2 hD
        have HA : Hid (∀ W, Below wr.heap.size wr W → Calls Try.prog 41 #[.map (some m), .int .i64 t] W fun e w' => e = .returned (.bool false) ∧ Below W.heap.size W w') := fun W hW => hasQ_any (S0.out.stays hW) hI64.out ⟨fun h => absurd h (by decide), fun h => absurd h FF⟩
        have E := hideP (UP.out.trans (if_neg (fun h => h.1 hD)))
        clear UP OR hD FF
        go_upto_region 5 with fail
        refine wp_region_held_drew (S := fun X => X.cell? ⟨Mb, 0, none⟩ = some (.map (some m))) (by kernel_rfl) (MK.out _ (Below.refl _ _).drew) (fun hHeld => ?_)
        refine wpAnyH_take (i := 0) (v := .map (some m)) rfl (by kernel_rfl) (by kernel_rfl) (by kernel_rfl) (fun _ _ _ h => h) (Or.inl ⟨by rfl, ?_⟩) hHeld ?_
        · rintro X hX; go_simp
        walk_nrm
        refine wpAnyH_take (i := 1) (v := .int .i64 t) rfl (by kernel_rfl) (by kernel_rfl) (by kernel_rfl) (fun _ _ _ h => h) (Or.inl ⟨by rfl, ?_⟩) hHeld ?_
        · rintro X hX; go_simp
        walk_nrm
        refine wpAnyH_ready (rs := [2]) (by kernel_rfl) (by simp) ?_
        refine AllReadyH.cons rfl (fun K hK => ?_) (AllReadyH.nil)
        go_simp
        refine (HA.out _ (Below.refl _ _).drew).mono ?_
        rintro yya wya ⟨rfl, bela⟩
        have HBa := hideP ((Below.refl wr.heap.size wr).drew.trans (bela.mono (Nat.le_refl _)))
        clear bela
        go_wp2_with fail
        refine hK.out _ _ (MK.out _ HBa.out) (fun hHeld => ?_)
        clear hK K
        walk_nrm
        refine wpAnyH_take (i := 3) (v := .bool false) rfl (by kernel_rfl) (by kernel_rfl) (by kernel_rfl) (fun _ _ _ h => h) (Or.inl ⟨by rfl, ?_⟩) hHeld ?_
        · rintro X hX; go_simp
        walk_nrm
        refine wpAnyH_take (i := 4) (v := undef) rfl (by kernel_rfl) (by kernel_rfl) (by kernel_rfl) (fun _ _ _ h => h) (Or.inr ⟨by rfl, rfl⟩) hHeld ?_
        walk_nrm
        refine wpAnyH_take (i := 5) (v := undef) rfl (by kernel_rfl) (by kernel_rfl) (by kernel_rfl) (fun _ _ _ h => h) (Or.inr ⟨by rfl, rfl⟩) hHeld ?_
        walk_nrm
        refine wpAnyH_take (i := 6) (v := undef) rfl (by kernel_rfl) (by kernel_rfl) (by kernel_rfl) (fun _ _ _ h => h) (Or.inr ⟨by rfl, rfl⟩) hHeld ?_
        walk_nrm
        refine wpAnyH_take (i := 7) (v := undef) rfl (by kernel_rfl) (by kernel_rfl) (by kernel_rfl) (fun _ _ _ h => h) (Or.inr ⟨by rfl, rfl⟩) hHeld ?_
        walk_nrm
        refine wpAnyH_take (i := 8) (v := undef) rfl (by kernel_rfl) (by kernel_rfl) (by kernel_rfl) (fun _ _ _ h => h) (Or.inr ⟨by rfl, rfl⟩) hHeld ?_
        walk_nrm
        refine wpAnyH_take (i := 9) (v := undef) rfl (by kernel_rfl) (by kernel_rfl) (by kernel_rfl) (fun _ _ _ h => h) (Or.inr ⟨by rfl, rfl⟩) hHeld ?_
        walk_nrm
        refine wpAnyH_take (i := 10) (v := undef) rfl (by kernel_rfl) (by kernel_rfl) (by kernel_rfl) (fun _ _ _ h => h) (Or.inr ⟨by rfl, rfl⟩) hHeld ?_
        walk_nrm
        refine wpAnyH_take (i := 11) (v := undef) rfl (by kernel_rfl) (by kernel_rfl) (by kernel_rfl) (fun _ _ _ h => h) (Or.inr ⟨by rfl, rfl⟩) hHeld ?_
        walk_nrm
        refine wpAnyH_take (i := 12) (v := undef) rfl (by kernel_rfl) (by kernel_rfl) (by kernel_rfl) (fun _ _ _ h => h) (Or.inr ⟨by rfl, rfl⟩) hHeld ?_
        walk_nrm
        refine wpAnyH_take (i := 13) (v := undef) rfl (by kernel_rfl) (by kernel_rfl) (by kernel_rfl) (fun _ _ _ h => h) (Or.inr ⟨by rfl, rfl⟩) hHeld ?_
        walk_nrm
        refine wpAnyH_take (i := 14) (v := undef) rfl (by kernel_rfl) (by kernel_rfl) (by kernel_rfl) (fun _ _ _ h => h) (Or.inr ⟨by rfl, rfl⟩) hHeld ?_
        walk_nrm
        refine wpAnyH_take (i := 15) (v := undef) rfl (by kernel_rfl) (by kernel_rfl) (by kernel_rfl) (fun _ _ _ h => h) (Or.inr ⟨by rfl, rfl⟩) hHeld ?_
        walk_nrm
        refine wpAnyH_take (i := 16) (v := undef) rfl (by kernel_rfl) (by kernel_rfl) (by kernel_rfl) (fun _ _ _ h => h) (Or.inr ⟨by rfl, rfl⟩) hHeld ?_
        walk_nrm
        refine wpAnyH_take (i := 17) (v := .bool false) rfl (by kernel_rfl) (by kernel_rfl) (by kernel_rfl) (fun _ _ _ h => h) (Or.inl ⟨by rfl, ?_⟩) hHeld ?_
        · rintro X hX; go_simp
        walk_nrm
        refine wpAnyH_done (by kernel_rfl) ?_ _
        clear hHeld
        go_wp2
        go_roundg (nx.length - (k + 1))
        case rel => exact ⟨k + 1, by omega, by go_num, by rw [E.out], below_trans hB.out HBa.out⟩
        case measure => omega
      · have TT : InQ blocks.length t ∧ ¬ t ∈ D := ⟨HQ.out, hD⟩
        have HA : Hid (∀ W, Below wr.heap.size wr W → Calls Try.prog 41 #[.map (some m), .int .i64 t] W fun e w' => e = .returned (.bool true) ∧ Below W.heap.size W w') := fun W hW => hasQ_any (S0.out.stays hW) hI64.out ⟨fun _ => TT, fun _ => rfl⟩
        by_cases h1 : bv = -1
        · have E := hideP (UP.out.trans (if_pos ⟨hD, Or.inl h1⟩))
          subst h1
          clear UP OR hD TT
          go_upto_region 5 with fail
          refine wp_region_held_drew (S := fun X => X.cell? ⟨Mb, 0, none⟩ = some (.map (some m))) (by kernel_rfl) (MK.out _ (Below.refl _ _).drew) (fun hHeld => ?_)
          refine wpAnyH_take (i := 0) (v := .map (some m)) rfl (by kernel_rfl) (by kernel_rfl) (by kernel_rfl) (fun _ _ _ h => h) (Or.inl ⟨by rfl, ?_⟩) hHeld ?_
          · rintro X hX; go_simp
          walk_nrm
          refine wpAnyH_take (i := 1) (v := .int .i64 t) rfl (by kernel_rfl) (by kernel_rfl) (by kernel_rfl) (fun _ _ _ h => h) (Or.inl ⟨by rfl, ?_⟩) hHeld ?_
          · rintro X hX; go_simp
          walk_nrm
          refine wpAnyH_ready (rs := [2]) (by kernel_rfl) (by simp) ?_
          refine AllReadyH.cons rfl (fun K hK => ?_) (AllReadyH.nil)
          go_simp
          refine (HA.out _ (Below.refl _ _).drew).mono ?_
          rintro yya wya ⟨rfl, bela⟩
          have HBa := hideP ((Below.refl wr.heap.size wr).drew.trans (bela.mono (Nat.le_refl _)))
          clear bela
          go_wp2_with fail
          refine hK.out _ _ (MK.out _ HBa.out) (fun hHeld => ?_)
          clear hK K
          walk_nrm
          refine wpAnyH_take (i := 3) (v := .bool true) rfl (by kernel_rfl) (by kernel_rfl) (by kernel_rfl) (fun _ _ _ h => h) (Or.inl ⟨by rfl, ?_⟩) hHeld ?_
          · rintro X hX; go_simp
          walk_nrm
          refine wpAnyH_take (i := 4) (v := .int .i64 (-1)) rfl (by kernel_rfl) (by kernel_rfl) (by kernel_rfl) (fun _ _ _ h => h) (Or.inl ⟨by rfl, ?_⟩) hHeld ?_
          · rintro X hX; go_simp
          walk_nrm
          refine wpAnyH_take (i := 5) (v := .bool true) rfl (by kernel_rfl) (by kernel_rfl) (by kernel_rfl) (fun _ _ _ h => h) (Or.inl ⟨by rfl, ?_⟩) hHeld ?_
          · rintro X hX; go_simp
          walk_nrm
          refine wpAnyH_take (i := 6) (v := .bool true) rfl (by kernel_rfl) (by kernel_rfl) (by kernel_rfl) (fun _ _ _ h => h) (Or.inl ⟨by rfl, ?_⟩) hHeld ?_
          · rintro X hX; go_simp
          walk_nrm
          refine wpAnyH_take (i := 7) (v := undef) rfl (by kernel_rfl) (by kernel_rfl) (by kernel_rfl) (fun _ _ _ h => h) (Or.inr ⟨by rfl, rfl⟩) hHeld ?_
          walk_nrm
          refine wpAnyH_take (i := 8) (v := undef) rfl (by kernel_rfl) (by kernel_rfl) (by kernel_rfl) (fun _ _ _ h => h) (Or.inr ⟨by rfl, rfl⟩) hHeld ?_
          walk_nrm
          refine wpAnyH_take (i := 9) (v := undef) rfl (by kernel_rfl) (by kernel_rfl) (by kernel_rfl) (fun _ _ _ h => h) (Or.inr ⟨by rfl, rfl⟩) hHeld ?_
          walk_nrm
          refine wpAnyH_take (i := 10) (v := undef) rfl (by kernel_rfl) (by kernel_rfl) (by kernel_rfl) (fun _ _ _ h => h) (Or.inr ⟨by rfl, rfl⟩) hHeld ?_
          walk_nrm
          refine wpAnyH_take (i := 11) (v := undef) rfl (by kernel_rfl) (by kernel_rfl) (by kernel_rfl) (fun _ _ _ h => h) (Or.inr ⟨by rfl, rfl⟩) hHeld ?_
          walk_nrm
          refine wpAnyH_take (i := 12) (v := undef) rfl (by kernel_rfl) (by kernel_rfl) (by kernel_rfl) (fun _ _ _ h => h) (Or.inr ⟨by rfl, rfl⟩) hHeld ?_
          walk_nrm
          refine wpAnyH_take (i := 13) (v := undef) rfl (by kernel_rfl) (by kernel_rfl) (by kernel_rfl) (fun _ _ _ h => h) (Or.inr ⟨by rfl, rfl⟩) hHeld ?_
          walk_nrm
          refine wpAnyH_take (i := 14) (v := undef) rfl (by kernel_rfl) (by kernel_rfl) (by kernel_rfl) (fun _ _ _ h => h) (Or.inr ⟨by rfl, rfl⟩) hHeld ?_
          walk_nrm
          refine wpAnyH_take (i := 15) (v := undef) rfl (by kernel_rfl) (by kernel_rfl) (by kernel_rfl) (fun _ _ _ h => h) (Or.inr ⟨by rfl, rfl⟩) hHeld ?_
          walk_nrm
          refine wpAnyH_take (i := 16) (v := .bool true) rfl (by kernel_rfl) (by kernel_rfl) (by kernel_rfl) (fun _ _ _ h => h) (Or.inl ⟨by rfl, ?_⟩) hHeld ?_
          · rintro X hX; go_simp
          walk_nrm
          refine wpAnyH_take (i := 17) (v := .bool true) rfl (by kernel_rfl) (by kernel_rfl) (by kernel_rfl) (fun _ _ _ h => h) (Or.inl ⟨by rfl, ?_⟩) hHeld ?_
          · rintro X hX; go_simp
          walk_nrm
          refine wpAnyH_done (by kernel_rfl) ?_ _
          clear hHeld
          go_wp2
          go_roundg (nx.length - (k + 1))
          case rel => exact ⟨k + 1, by omega, by go_num, by rw [E.out], below_trans hB.out HBa.out⟩
          case measure => omega
        · have h1b : (bv == -1) = false := by simpa using h1
          obtain ⟨hbq, _⟩ := OR.out.resolve_left h1
          obtain ⟨tn, rfl⟩ : ∃ tn : Nat, t = (tn : Int) := ⟨t.toNat, by have := HQ.out.1; omega⟩
          obtain ⟨bn, rfl⟩ : ∃ bn : Nat, bv = (bn : Int) := ⟨bv.toNat, by have := hbq.1; omega⟩
          have htn : tn < C.length := by have := HQ.out.2; omega
          have hbn : bn < C.length := by have := hbq.2; omega
          obtain ⟨b2, o2, he2, _, hb2, c2⟩ := HC.out.get tn htn
          obtain ⟨b3, o3, he3, _, hb3, c3⟩ := HC.out.get bn hbn
          obtain ⟨rfl, rfl⟩ : b3 = b2 ∧ o3 = o2 := by rw [he2] at he3; simpa using he3.symm
          subst he2
          have e1 : cntC C (tn : Int) = C[tn] := by simp [cntC, htn]
          have e2 : cntC C (bn : Int) = C[bn] := by simp [cntC, hbn]
          obtain ⟨ct, hct⟩ : ∃ ct, C[tn] = ct := ⟨_, rfl⟩
          obtain ⟨cb', hcb'⟩ : ∃ cb', C[bn] = cb' := ⟨_, rfl⟩
          rw [e1, e2, hct, hcb'] at UP
          rw [hct] at c2
          rw [hcb'] at c3
          have i0 : (0 : Int) ≤ (tn : Int) := by omega
          have i1 : (tn : Int) < (C.length : Int) := by omega
          have i2 : (0 : Int) ≤ (bn : Int) := by omega
          have i3 : (bn : Int) < (C.length : Int) := by omega
          have SK : Hid (∀ W, Below wr.heap.size wr W → W.cell? ⟨Mb, 0, none⟩ = some (.map (some m)) ∧ W.cell? ⟨Cb, 0, none⟩ = some (.slice (some ⟨b3, o3, none⟩) C.length kc) ∧ W.cell? ⟨b3, o3 + tn, none⟩ = some (.int .i64 ct) ∧ W.cell? ⟨b3, o3 + bn, none⟩ = some (.int .i64 cb')) := fun W hW => by
            have hb4 := below_trans BW.out hW
            refine ⟨MK.out W hW, (cells_of ((hb4.block _ (Array.getElem?_eq_some_iff.1 CB.out).1).trans CB.out)).1 0, (hb4.cell (p := ⟨b3, o3 + tn, none⟩) hb3).trans c2, (hb4.cell (p := ⟨b3, o3 + bn, none⟩) hb3).trans c3⟩
          clear hct hcb' e1 e2 c2 c3 he3 hbq
          by_cases hgt : cb' < ct
          · have E := hideP (UP.out.trans (if_pos ⟨hD, Or.inr hgt⟩))
            clear UP OR hD TT
            go_upto_region 5 with fail
            refine wp_region_held_drew (S := fun X => X.cell? ⟨Mb, 0, none⟩ = some (.map (some m)) ∧ X.cell? ⟨Cb, 0, none⟩ = some (.slice (some ⟨b3, o3, none⟩) C.length kc) ∧ X.cell? ⟨b3, o3 + tn, none⟩ = some (.int .i64 ct) ∧ X.cell? ⟨b3, o3 + bn, none⟩ = some (.int .i64 cb')) (by kernel_rfl) (SK.out _ (Below.refl _ _).drew) (fun hHeld => ?_)
            refine wpAnyH_take (i := 0) (v := .map (some m)) rfl (by kernel_rfl) (by kernel_rfl) (by kernel_rfl) (fun _ _ _ h => h) (Or.inl ⟨by rfl, ?_⟩) hHeld ?_
            · rintro X ⟨hX, hX1, hX2, hX3⟩; go_simp
            walk_nrm
            refine wpAnyH_take (i := 1) (v := .int .i64 (tn : Int)) rfl (by kernel_rfl) (by kernel_rfl) (by kernel_rfl) (fun _ _ _ h => h) (Or.inl ⟨by rfl, ?_⟩) hHeld ?_
            · rintro X ⟨hX, hX1, hX2, hX3⟩; go_simp
            walk_nrm
            refine wpAnyH_ready (rs := [2]) (by kernel_rfl) (by simp) ?_
            refine AllReadyH.cons rfl (fun K hK => ?_) (AllReadyH.nil)
            go_simp
            refine (HA.out _ (Below.refl _ _).drew).mono ?_
            rintro yya wya ⟨rfl, bela⟩
            have HBa := hideP ((Below.refl wr.heap.size wr).drew.trans (bela.mono (Nat.le_refl _)))
            clear bela
            go_wp2_with fail
            refine hK.out _ _ (SK.out _ HBa.out) (fun hHeld => ?_)
            clear hK K
            walk_nrm
            refine wpAnyH_take (i := 3) (v := .bool true) rfl (by kernel_rfl) (by kernel_rfl) (by kernel_rfl) (fun _ _ _ h => h) (Or.inl ⟨by rfl, ?_⟩) hHeld ?_
            · rintro X ⟨hX, hX1, hX2, hX3⟩; go_simp
            walk_nrm
            refine wpAnyH_take (i := 4) (v := .int .i64 (bn : Int)) rfl (by kernel_rfl) (by kernel_rfl) (by kernel_rfl) (fun _ _ _ h => h) (Or.inl ⟨by rfl, ?_⟩) hHeld ?_
            · rintro X ⟨hX, hX1, hX2, hX3⟩; go_simp
            walk_nrm
            refine wpAnyH_take (i := 5) (v := .bool false) rfl (by kernel_rfl) (by kernel_rfl) (by kernel_rfl) (fun _ _ _ h => h) (Or.inl ⟨by rfl, ?_⟩) hHeld ?_
            · rintro X ⟨hX, hX1, hX2, hX3⟩; go_simp
            walk_nrm
            refine wpAnyH_take (i := 6) (v := .bool false) rfl (by kernel_rfl) (by kernel_rfl) (by kernel_rfl) (fun _ _ _ h => h) (Or.inl ⟨by rfl, ?_⟩) hHeld ?_
            · rintro X ⟨hX, hX1, hX2, hX3⟩; go_simp
            walk_nrm
            refine wpAnyH_take (i := 7) (v := .slice (some ⟨b3, o3, none⟩) C.length kc) rfl (by kernel_rfl) (by kernel_rfl) (by kernel_rfl) (fun _ _ _ h => h) (Or.inl ⟨by rfl, ?_⟩) hHeld ?_
            · rintro X ⟨hX, hX1, hX2, hX3⟩; go_simp
            walk_nrm
            refine wpAnyH_take (i := 8) (v := .int .i64 (tn : Int)) rfl (by kernel_rfl) (by kernel_rfl) (by kernel_rfl) (fun _ _ _ h => h) (Or.inl ⟨by rfl, ?_⟩) hHeld ?_
            · rintro X ⟨hX, hX1, hX2, hX3⟩; go_simp
            walk_nrm
            refine wpAnyH_take (i := 9) (v := .pointer (some ⟨b3, o3 + tn, none⟩)) rfl (by kernel_rfl) (by kernel_rfl) (by kernel_rfl) (fun _ _ _ h => h) (Or.inl ⟨by rfl, ?_⟩) hHeld ?_
            · rintro X ⟨hX, hX1, hX2, hX3⟩; go_simp; all_goals (intro hbad; exfalso; omega)
            walk_nrm
            refine wpAnyH_take (i := 10) (v := .int .i64 ct) rfl (by kernel_rfl) (by kernel_rfl) (by kernel_rfl) (fun _ _ _ h => h) (Or.inl ⟨by rfl, ?_⟩) hHeld ?_
            · rintro X ⟨hX, hX1, hX2, hX3⟩; go_simp
            walk_nrm
            refine wpAnyH_take (i := 11) (v := .slice (some ⟨b3, o3, none⟩) C.length kc) rfl (by kernel_rfl) (by kernel_rfl) (by kernel_rfl) (fun _ _ _ h => h) (Or.inl ⟨by rfl, ?_⟩) hHeld ?_
            · rintro X ⟨hX, hX1, hX2, hX3⟩; go_simp
            walk_nrm
            refine wpAnyH_take (i := 12) (v := .int .i64 (bn : Int)) rfl (by kernel_rfl) (by kernel_rfl) (by kernel_rfl) (fun _ _ _ h => h) (Or.inl ⟨by rfl, ?_⟩) hHeld ?_
            · rintro X ⟨hX, hX1, hX2, hX3⟩; go_simp
            walk_nrm
            refine wpAnyH_take (i := 13) (v := .pointer (some ⟨b3, o3 + bn, none⟩)) rfl (by kernel_rfl) (by kernel_rfl) (by kernel_rfl) (fun _ _ _ h => h) (Or.inl ⟨by rfl, ?_⟩) hHeld ?_
            · rintro X ⟨hX, hX1, hX2, hX3⟩; go_simp; all_goals (intro hbad; exfalso; omega)
            walk_nrm
            refine wpAnyH_take (i := 14) (v := .int .i64 cb') rfl (by kernel_rfl) (by kernel_rfl) (by kernel_rfl) (fun _ _ _ h => h) (Or.inl ⟨by rfl, ?_⟩) hHeld ?_
            · rintro X ⟨hX, hX1, hX2, hX3⟩; go_simp
            walk_nrm
            refine wpAnyH_take (i := 15) (v := .bool true) rfl (by kernel_rfl) (by kernel_rfl) (by kernel_rfl) (fun _ _ _ h => h) (Or.inl ⟨by rfl, ?_⟩) hHeld ?_
            · rintro X ⟨hX, hX1, hX2, hX3⟩; go_simp
            walk_nrm
            refine wpAnyH_take (i := 16) (v := .bool true) rfl (by kernel_rfl) (by kernel_rfl) (by kernel_rfl) (fun _ _ _ h => h) (Or.inl ⟨by rfl, ?_⟩) hHeld ?_
            · rintro X ⟨hX, hX1, hX2, hX3⟩; go_simp
            walk_nrm
            refine wpAnyH_take (i := 17) (v := .bool true) rfl (by kernel_rfl) (by kernel_rfl) (by kernel_rfl) (fun _ _ _ h => h) (Or.inl ⟨by rfl, ?_⟩) hHeld ?_
            · rintro X ⟨hX, hX1, hX2, hX3⟩; go_simp
            walk_nrm
            refine wpAnyH_done (by kernel_rfl) ?_ _
            clear hHeld
            go_wp2
            go_roundg (nx.length - (k + 1))
            case rel => exact ⟨k + 1, by omega, by go_num, by rw [E.out], below_trans hB.out HBa.out⟩
            case measure => omega
          · have E := hideP (UP.out.trans (if_neg (fun h => h.2.elim (fun e => h1 e) hgt)))
            clear UP OR hD TT
            go_upto_region 5 with fail
            refine wp_region_held_drew (S := fun X => X.cell? ⟨Mb, 0, none⟩ = some (.map (some m)) ∧ X.cell? ⟨Cb, 0, none⟩ = some (.slice (some ⟨b3, o3, none⟩) C.length kc) ∧ X.cell? ⟨b3, o3 + tn, none⟩ = some (.int .i64 ct) ∧ X.cell? ⟨b3, o3 + bn, none⟩ = some (.int .i64 cb')) (by kernel_rfl) (SK.out _ (Below.refl _ _).drew) (fun hHeld => ?_)
            refine wpAnyH_take (i := 0) (v := .map (some m)) rfl (by kernel_rfl) (by kernel_rfl) (by kernel_rfl) (fun _ _ _ h => h) (Or.inl ⟨by rfl, ?_⟩) hHeld ?_
            · rintro X ⟨hX, hX1, hX2, hX3⟩; go_simp
            walk_nrm
            refine wpAnyH_take (i := 1) (v := .int .i64 (tn : Int)) rfl (by kernel_rfl) (by kernel_rfl) (by kernel_rfl) (fun _ _ _ h => h) (Or.inl ⟨by rfl, ?_⟩) hHeld ?_
            · rintro X ⟨hX, hX1, hX2, hX3⟩; go_simp
            walk_nrm
            refine wpAnyH_ready (rs := [2]) (by kernel_rfl) (by simp) ?_
            refine AllReadyH.cons rfl (fun K hK => ?_) (AllReadyH.nil)
            go_simp
            refine (HA.out _ (Below.refl _ _).drew).mono ?_
            rintro yya wya ⟨rfl, bela⟩
            have HBa := hideP ((Below.refl wr.heap.size wr).drew.trans (bela.mono (Nat.le_refl _)))
            clear bela
            go_wp2_with fail
            refine hK.out _ _ (SK.out _ HBa.out) (fun hHeld => ?_)
            clear hK K
            walk_nrm
            refine wpAnyH_take (i := 3) (v := .bool true) rfl (by kernel_rfl) (by kernel_rfl) (by kernel_rfl) (fun _ _ _ h => h) (Or.inl ⟨by rfl, ?_⟩) hHeld ?_
            · rintro X ⟨hX, hX1, hX2, hX3⟩; go_simp
            walk_nrm
            refine wpAnyH_take (i := 4) (v := .int .i64 (bn : Int)) rfl (by kernel_rfl) (by kernel_rfl) (by kernel_rfl) (fun _ _ _ h => h) (Or.inl ⟨by rfl, ?_⟩) hHeld ?_
            · rintro X ⟨hX, hX1, hX2, hX3⟩; go_simp
            walk_nrm
            refine wpAnyH_take (i := 5) (v := .bool false) rfl (by kernel_rfl) (by kernel_rfl) (by kernel_rfl) (fun _ _ _ h => h) (Or.inl ⟨by rfl, ?_⟩) hHeld ?_
            · rintro X ⟨hX, hX1, hX2, hX3⟩; go_simp
            walk_nrm
            refine wpAnyH_take (i := 6) (v := .bool false) rfl (by kernel_rfl) (by kernel_rfl) (by kernel_rfl) (fun _ _ _ h => h) (Or.inl ⟨by rfl, ?_⟩) hHeld ?_
            · rintro X ⟨hX, hX1, hX2, hX3⟩; go_simp
            walk_nrm
            refine wpAnyH_take (i := 7) (v := .slice (some ⟨b3, o3, none⟩) C.length kc) rfl (by kernel_rfl) (by kernel_rfl) (by kernel_rfl) (fun _ _ _ h => h) (Or.inl ⟨by rfl, ?_⟩) hHeld ?_
            · rintro X ⟨hX, hX1, hX2, hX3⟩; go_simp
            walk_nrm
            refine wpAnyH_take (i := 8) (v := .int .i64 (tn : Int)) rfl (by kernel_rfl) (by kernel_rfl) (by kernel_rfl) (fun _ _ _ h => h) (Or.inl ⟨by rfl, ?_⟩) hHeld ?_
            · rintro X ⟨hX, hX1, hX2, hX3⟩; go_simp
            walk_nrm
            refine wpAnyH_take (i := 9) (v := .pointer (some ⟨b3, o3 + tn, none⟩)) rfl (by kernel_rfl) (by kernel_rfl) (by kernel_rfl) (fun _ _ _ h => h) (Or.inl ⟨by rfl, ?_⟩) hHeld ?_
            · rintro X ⟨hX, hX1, hX2, hX3⟩; go_simp; all_goals (intro hbad; exfalso; omega)
            walk_nrm
            refine wpAnyH_take (i := 10) (v := .int .i64 ct) rfl (by kernel_rfl) (by kernel_rfl) (by kernel_rfl) (fun _ _ _ h => h) (Or.inl ⟨by rfl, ?_⟩) hHeld ?_
            · rintro X ⟨hX, hX1, hX2, hX3⟩; go_simp
            walk_nrm
            refine wpAnyH_take (i := 11) (v := .slice (some ⟨b3, o3, none⟩) C.length kc) rfl (by kernel_rfl) (by kernel_rfl) (by kernel_rfl) (fun _ _ _ h => h) (Or.inl ⟨by rfl, ?_⟩) hHeld ?_
            · rintro X ⟨hX, hX1, hX2, hX3⟩; go_simp
            walk_nrm
            refine wpAnyH_take (i := 12) (v := .int .i64 (bn : Int)) rfl (by kernel_rfl) (by kernel_rfl) (by kernel_rfl) (fun _ _ _ h => h) (Or.inl ⟨by rfl, ?_⟩) hHeld ?_
            · rintro X ⟨hX, hX1, hX2, hX3⟩; go_simp
            walk_nrm
            refine wpAnyH_take (i := 13) (v := .pointer (some ⟨b3, o3 + bn, none⟩)) rfl (by kernel_rfl) (by kernel_rfl) (by kernel_rfl) (fun _ _ _ h => h) (Or.inl ⟨by rfl, ?_⟩) hHeld ?_
            · rintro X ⟨hX, hX1, hX2, hX3⟩; go_simp; all_goals (intro hbad; exfalso; omega)
            walk_nrm
            refine wpAnyH_take (i := 14) (v := .int .i64 cb') rfl (by kernel_rfl) (by kernel_rfl) (by kernel_rfl) (fun _ _ _ h => h) (Or.inl ⟨by rfl, ?_⟩) hHeld ?_
            · rintro X ⟨hX, hX1, hX2, hX3⟩; go_simp
            walk_nrm
            refine wpAnyH_take (i := 15) (v := .bool false) rfl (by kernel_rfl) (by kernel_rfl) (by kernel_rfl) (fun _ _ _ h => h) (Or.inl ⟨by rfl, ?_⟩) hHeld ?_
            · rintro X ⟨hX, hX1, hX2, hX3⟩; go_simp
            walk_nrm
            refine wpAnyH_take (i := 16) (v := .bool false) rfl (by kernel_rfl) (by kernel_rfl) (by kernel_rfl) (fun _ _ _ h => h) (Or.inl ⟨by rfl, ?_⟩) hHeld ?_
            · rintro X ⟨hX, hX1, hX2, hX3⟩; go_simp
            walk_nrm
            refine wpAnyH_take (i := 17) (v := .bool false) rfl (by kernel_rfl) (by kernel_rfl) (by kernel_rfl) (fun _ _ _ h => h) (Or.inl ⟨by rfl, ?_⟩) hHeld ?_
            · rintro X ⟨hX, hX1, hX2, hX3⟩; go_simp
            walk_nrm
            refine wpAnyH_done (by kernel_rfl) ?_ _
            clear hHeld
            go_wp2
            go_roundg (nx.length - (k + 1))
            case rel => exact ⟨k + 1, by omega, by go_num, by rw [E.out], below_trans hB.out HBa.out⟩
            case measure => omega
    · have hkn : k = nx.length := by omega
      subst hkn
      go_wp2
      go_ret
      exact ⟨by rw [HR.out]; rfl, BW.out⟩
end Go.Proofs.YtobpcfelgobedaaR
