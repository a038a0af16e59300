/- newMachine. -/
import Derived.Test.YtpkfbabgcinhhaaDoorCkJ
import Derived.Test.YtpkfbabgcinhhaaDoorImgI
import Derived.Conc.WalkWords
import Derived.Test.YtpkfbabgcinhhaaDoorRows
import Derived.WalkKit
import Derived.LaidEql
import Derived.RowKitTokens
import Derived.Deep.RegionWith
namespace Go.Proofs.YtpkfbabgcinhhaaDoor
open Go.ChangeShapes Go.WideShapes Go.ChangeAt Go.RowKit
theorem fuelOk_any (f : Int) (w : World) : Calls Tryd.prog 37 #[.int .i64 f] w fun en w' => en = .returned (.bool (decide (0 ≤ f ∧ f ≤ 100000))) ∧ w' = w := by
  go_enter Tryd.func37, Tryd.ntmps37
  go_wp2
  all_goals go_ret
  all_goals (refine ⟨?_, rfl⟩; congr 2; simp <;> omega)
theorem givenOk_any (p : Int) (ua : Option Addr) (na ca : Nat) (ui : Option Addr) (ni ci : Nat) (w : World) : Calls Tryd.prog 38 #[.int .i64 p, .slice ua na ca, .slice ui ni ci] w fun en w' => en = .returned (.bool (decide ((na : Int) = p ∧ ni ≤ 100))) ∧ w' = w := by
  go_enter Tryd.func38, Tryd.ntmps38
  go_wp2
  all_goals go_ret
  all_goals first
    | (refine ⟨?_, rfl⟩; congr 2; simp_all; done)
    | (refine ⟨?_, rfl⟩; congr 2; simp_all; omega)
    | trace_state
end Go.Proofs.YtpkfbabgcinhhaaDoor

/- newMachine. -/
namespace Go.Proofs.YtpkfbabgcinhhaaDoor
open Go.ChangeShapes Go.WideShapes Go.ChangeAt Go.RowKit
section
variable {w : World}
set_option maxHeartbeats 8000000 in
set_option maxRecDepth 100000 in
theorem newMachine_yes {m : Img} {B : Nat} {us : Option Addr} {cs : Nat} {ub : Option Addr} {cb : Nat} (hI : ImgIs w B #[.slice us m.sizes.length cs, .int .i64 m.params, .int .i64 m.slots, .slice ub m.code.length cb] m) {args input : List Int} {f : Int} (ua : Option Addr) (ca : Nat) (ui : Option Addr) (ci : Nat) (hok : runOk m args input f = true) (ha : IntsIs w 0 ua args) (hi : IntsIs w 0 ui input) (hci : input.length ≤ ci ∧ ci ≤ maxLen) (alu : ∀ q, q < 6 → w.cell? ⟨1, q, none⟩ = some (.string ⟨(aluS q).toArray⟩)) :
    Calls Tryd.prog 23 #[.agg #[.slice us m.sizes.length cs, .int .i64 m.params, .int .i64 m.slots, .slice ub m.code.length cb], .slice ua args.length ca, .slice ui input.length ci, .int .i64 f] w fun en w' => ∃ L, en = .returned (.tuple #[.pointer (some ⟨L.b, 0, none⟩), .nilIface]) ∧ ∃ vo, PAt w L m.code ui ci vo w' (mch0 m args input f) (List.replicate 16 0) 0 := by
  have hk := hok
  unfold runOk at hk
  simp only [Bool.and_eq_true, decide_eq_true_eq] at hk
  obtain ⟨him, h1, h2, h3, h4⟩ := hk
  have FO : Hid (∀ W, Calls Tryd.prog 37 #[.int .i64 f] W fun en w' => en = .returned (.bool true) ∧ w' = W) := fun W => (fuelOk_any f W).mono (by rintro e x ⟨rfl, rfl⟩; exact ⟨by rw [decide_eq_true ⟨h3, h4⟩], rfl⟩)
  have GO : Hid (∀ W, Calls Tryd.prog 38 #[.int .i64 m.params, .slice ua args.length ca, .slice ui input.length ci] W fun en w' => en = .returned (.bool true) ∧ w' = W) := fun W => (givenOk_any m.params ua args.length ca ui input.length ci W).mono (by rintro e x ⟨rfl, rfl⟩; exact ⟨by rw [decide_eq_true ⟨h1, h2⟩], rfl⟩)
  have IO : Hid (∀ W, Below w.heap.size w W → Calls Tryd.prog 39 #[.agg #[.slice us m.sizes.length cs, .int .i64 m.params, .int .i64 m.slots, .slice ub m.code.length cb]] W fun en w' => en = .returned (.bool true) ∧ Below W.heap.size W w') := fun W hW => by
    have := impl_imageOk m W B _ (ImgKeeps.stays hI hW)
    rw [him] at this
    exact this
  have hz4 : m.sizes.length ≤ 4 ∧ ∀ z ∈ m.sizes, 1 ≤ z ∧ z ≤ 16 := by
    unfold imgOk regOk at him
    simp only [Bool.and_eq_true, decide_eq_true_eq, List.all_eq_true] at him
    refine ⟨by omega, fun z hz => ?_⟩
    have := him.1.1.1.1.1.2 z hz
    unfold szOk at this
    simpa using this
  have hsl : 0 ≤ m.params ∧ m.params ≤ m.slots ∧ m.slots ≤ 1000 := by
    unfold imgOk parOk at him
    simp only [Bool.and_eq_true, decide_eq_true_eq] at him
    omega
  obtain ⟨n, hn⟩ : ∃ n : Nat, m.slots = (n : Int) := ⟨m.slots.toNat, by omega⟩
  obtain ⟨_, _, _, _, hxe, _, hzi, hco⟩ := id hI
  simp only [Array.mk.injEq, List.cons.injEq, Value.slice.injEq, true_and, and_true] at hxe
  obtain ⟨⟨rfl, rfl⟩, rfl, rfl⟩ := hxe
  have NS : Hid (∀ X, Below w.heap.size w X → Calls Tryd.prog 41 #[.slice us m.sizes.length cs, .int .i64 m.slots, .slice ua args.length ca, .slice ui input.length ci, .int .i64 f] X fun en w' => ∃ v mp ob mb, en = .returned (.agg #[.slice (some ⟨v, 0, none⟩) n n, .map (some mp), .slice ui input.length ci, .int .i64 f, .slice (some ⟨ob, 0, none⟩) 0 0]) ∧ NsRes X n args m.sizes v mp ob mb w') := fun X hX => by
    rw [hn]
    exact newState_any us cs m.sizes (IntsIs.stays (IntsIs.mono hzi (Nat.zero_le _)) hX) hz4.1 hz4.2 n (by omega) ua ca args (IntsIs.stays ha hX) (by omega) ui input.length ci f
  have MA := fun (X : World) B0 v mp ob mb w1 w2 b N B2 hb hx => PAt.made (w0 := w) (wn := X) (w1 := w1) (w2 := w2) hok n hn (v := v) (mp := mp) (ob := ob) (mb := mb) B0 N (b := b) B2 hb (uw := ub) (cw := cb) (ui := ui) (ci := ci) hx (SlIs.mono WrdKeeps hco (Nat.zero_le _)) hi hci alu
  have HMA := hideP MA
  have HN := hideP hn
  clear hn
  clear MA hco hzi hz4 hsl ha hi alu
  clear h1 h2 h3 h4 him
  go_enter Tryd.func23, Tryd.ntmps23
  go_upto_region 1 with fail
  obtain ⟨lb, hlb⟩ : ∃ lb, w.heap.size = lb := ⟨_, rfl⟩
  obtain ⟨W, hW⟩ : ∃ W, (w.alloc (.cells #[.slice us m.sizes.length cs, .int .i64 m.params, .int .i64 m.slots, .slice ub m.code.length cb] 32)) = W := ⟨_, rfl⟩
  have al := (Below.refl w.heap.size w).alloc (Nat.le_refl _) (.cells #[.slice us m.sizes.length cs, .int .i64 m.params, .int .i64 m.slots, .slice ub m.code.length cb] 32)
  have E0 := heap_new hlb (.cells #[.slice us m.sizes.length cs, .int .i64 m.params, .int .i64 m.slots, .slice ub m.code.length cb] 32)
  rw [hW] at al E0 ⊢
  rw [hlb] at ⊢
  have d0 := (cells_of E0).1 0
  have d1 := (cells_of E0).1 1
  have d2 := (cells_of E0).1 2
  have d3 := (cells_of E0).1 3
  simp at d0 d1 d2 d3
  have HE := hideP E0
  have HAL := hideP al
  have HL := hideP hlb
  clear E0 al hlb hW hI
  go_wp2_with fail
  refine (FO.out _).mono ?_
  rintro e1 w1 ⟨rfl, rfl⟩
  go_wp2_with fail
  refine (GO.out _).mono ?_
  rintro e1 w1 ⟨rfl, rfl⟩
  go_wp2_with fail
  refine (IO.out _ HAL.out).mono ?_
  rintro e1 w2 ⟨rfl, bw⟩
  have HBW := hideP bw
  clear bw d0 d1 d2 d3
  go_upto_region 3 with fail
  have hlw : lb < w1.heap.size := lt_some HE.out
  have E2 := (HBW.out.block lb hlw).trans HE.out
  refine wp_region_held_drew (S := fun X => X.heap[lb]? = some (.cells #[.slice us m.sizes.length cs, .int .i64 m.params, .int .i64 m.slots, .slice ub m.code.length cb] 32 (0, 0))) (by kernel_rfl) E2 (fun hHeld => ?_)
  refine wpAnyH_take (i := 0) (v := (.pointer (some ⟨lb, 3, none⟩))) rfl (by kernel_rfl) (by kernel_rfl) (by kernel_rfl) (fun _ _ _ h => h) (Or.inl ⟨by rfl, ?_⟩) hHeld ?_
  · intro X hX; have q0 := (cells_of hX).1 0; have q2 := (cells_of hX).1 2; have q3 := (cells_of hX).1 3; simp at q0 q2 q3; go_simp
  walk_nrm
  refine wpAnyH_take (i := 1) (v := (.slice ub m.code.length cb)) rfl (by kernel_rfl) (by kernel_rfl) (by kernel_rfl) (fun _ _ _ h => h) (Or.inl ⟨by rfl, ?_⟩) hHeld ?_
  · intro X hX; have q0 := (cells_of hX).1 0; have q2 := (cells_of hX).1 2; have q3 := (cells_of hX).1 3; simp at q0 q2 q3; go_simp
  walk_nrm
  refine wpAnyH_take (i := 2) (v := (.pointer (some ⟨lb, 0, none⟩))) rfl (by kernel_rfl) (by kernel_rfl) (by kernel_rfl) (fun _ _ _ h => h) (Or.inl ⟨by rfl, ?_⟩) hHeld ?_
  · intro X hX; have q0 := (cells_of hX).1 0; have q2 := (cells_of hX).1 2; have q3 := (cells_of hX).1 3; simp at q0 q2 q3; go_simp
  walk_nrm
  refine wpAnyH_take (i := 3) (v := (.slice us m.sizes.length cs)) rfl (by kernel_rfl) (by kernel_rfl) (by kernel_rfl) (fun _ _ _ h => h) (Or.inl ⟨by rfl, ?_⟩) hHeld ?_
  · intro X hX; have q0 := (cells_of hX).1 0; have q2 := (cells_of hX).1 2; have q3 := (cells_of hX).1 3; simp at q0 q2 q3; go_simp
  walk_nrm
  refine wpAnyH_take (i := 4) (v := (.pointer (some ⟨lb, 2, none⟩))) rfl (by kernel_rfl) (by kernel_rfl) (by kernel_rfl) (fun _ _ _ h => h) (Or.inl ⟨by rfl, ?_⟩) hHeld ?_
  · intro X hX; have q0 := (cells_of hX).1 0; have q2 := (cells_of hX).1 2; have q3 := (cells_of hX).1 3; simp at q0 q2 q3; go_simp
  walk_nrm
  refine wpAnyH_take (i := 5) (v := (.int .i64 m.slots)) rfl (by kernel_rfl) (by kernel_rfl) (by kernel_rfl) (fun _ _ _ h => h) (Or.inl ⟨by rfl, ?_⟩) hHeld ?_
  · intro X hX; have q0 := (cells_of hX).1 0; have q2 := (cells_of hX).1 2; have q3 := (cells_of hX).1 3; simp at q0 q2 q3; go_simp
  walk_nrm
  refine wpAnyH_take (i := 6) (v := (.slice ua args.length ca)) rfl (by kernel_rfl) (by kernel_rfl) (by kernel_rfl) (fun _ _ _ h => h) (Or.inl ⟨by rfl, ?_⟩) hHeld ?_
  · intro X hX; have q0 := (cells_of hX).1 0; have q2 := (cells_of hX).1 2; have q3 := (cells_of hX).1 3; simp at q0 q2 q3; go_simp
  walk_nrm
  refine wpAnyH_take (i := 7) (v := (.slice ui input.length ci)) rfl (by kernel_rfl) (by kernel_rfl) (by kernel_rfl) (fun _ _ _ h => h) (Or.inl ⟨by rfl, ?_⟩) hHeld ?_
  · intro X hX; have q0 := (cells_of hX).1 0; have q2 := (cells_of hX).1 2; have q3 := (cells_of hX).1 3; simp at q0 q2 q3; go_simp
  walk_nrm
  refine wpAnyH_take (i := 8) (v := (.int .i64 f)) rfl (by kernel_rfl) (by kernel_rfl) (by kernel_rfl) (fun _ _ _ h => h) (Or.inl ⟨by rfl, ?_⟩) hHeld ?_
  · intro X hX; have q0 := (cells_of hX).1 0; have q2 := (cells_of hX).1 2; have q3 := (cells_of hX).1 3; simp at q0 q2 q3; go_simp
  walk_nrm
  refine wpAnyH_ready (rs := [9]) (by kernel_rfl) (by simp) ?_
  refine AllReadyH.cons rfl (fun K hK => ?_) (AllReadyH.nil)
  go_simp
  have bz : Below w.heap.size w w2.drew := (HAL.out.trans (HBW.out.mono HAL.out.size)).drew
  have hsz2 : lb < w2.drew.heap.size := lt_some E2
  refine (NS.out _ bz).mono ?_
  rintro e1 w3 ⟨v, mp, ob, mb, rfl, N⟩
  have E3 := (N.1.block lb hsz2).trans E2
  have HNR := hideP N
  have HBZ := hideP bz
  clear N bz hsz2 E2
  go_wp2_with fail
  refine hK.out _ _ E3 (fun hHeld => ?_)
  clear hK K
  refine wpAnyH_ready (rs := [10]) (by kernel_rfl) (by simp) ?_
  refine AllReadyH.cons rfl (fun K hK => ?_) (AllReadyH.nil)
  go_simp
  refine (machineOf_any ub m.code.length cb v n n mp ui input.length ci f (some ⟨ob, 0, none⟩) 0 0).mono ?_
  rintro e1 w4 ⟨rfl, B4, hx4⟩
  have E4 := (B4.block lb (lt_some E3)).trans E3
  have RES := hideP (HMA.out w2.drew HBZ.out v mp ob mb w3 w4 (w3.heap.size + 1) HNR.out B4 (by omega) hx4)
  clear B4 hx4 E3
  go_wp2_with fail
  refine hK.out _ _ E4 (fun hHeld => ?_)
  clear hK K
  refine wpAnyH_take (i := 11) (v := (.pointer (some ⟨w3.heap.size + 1, 0, none⟩))) rfl (by kernel_rfl) (by kernel_rfl) (by kernel_rfl) (fun _ _ _ h => h) (Or.inl ⟨by rfl, ?_⟩) hHeld ?_
  · intro X hX; go_simp
  walk_nrm
  refine wpAnyH_take (i := 12) (v := .nilIface) rfl (by kernel_rfl) (by kernel_rfl) (by kernel_rfl) (fun _ _ _ h => h) (Or.inl ⟨by rfl, ?_⟩) hHeld ?_
  · intro X hX; go_simp
  walk_nrm
  refine wpAnyH_done (by kernel_rfl) ?_ _
  clear hHeld
  go_wp2
  refine bodyPost_ret (results_tmp2 rfl _ _ _) rfl ?_
  exact ⟨_, rfl, _, RES.out⟩
set_option maxHeartbeats 8000000 in
set_option maxRecDepth 100000 in
theorem newMachine_no {m : Img} {B : Nat} {us : Option Addr} {cs : Nat} {ub : Option Addr} {cb : Nat} (hI : ImgIs w B #[.slice us m.sizes.length cs, .int .i64 m.params, .int .i64 m.slots, .slice ub m.code.length cb] m) {args input : List Int} {f : Int} (ua : Option Addr) (ca : Nat) (ui : Option Addr) (ci : Nat) (hok : runOk m args input f = false) (E : Value) (hE : w.cell? ⟨0, 0, none⟩ = some E) :
    Calls Tryd.prog 23 #[.agg #[.slice us m.sizes.length cs, .int .i64 m.params, .int .i64 m.slots, .slice ub m.code.length cb], .slice ua args.length ca, .slice ui input.length ci, .int .i64 f] w fun en w' => en = .returned (.tuple #[.pointer none, E]) ∧ Below w.heap.size w w' := by
  have FO0 := fun W => fuelOk_any f W
  have GO0 := fun W => givenOk_any m.params ua args.length ca ui input.length ci W
  have IO0 := fun W (hW : Below w.heap.size w W) => impl_imageOk m W B _ (ImgKeeps.stays hI hW)
  obtain ⟨y1, hy1⟩ : ∃ y, decide (0 ≤ f ∧ f ≤ 100000) = y := ⟨_, rfl⟩
  obtain ⟨y2, hy2⟩ : ∃ y, decide (((args.length : Nat) : Int) = m.params ∧ input.length ≤ 100) = y := ⟨_, rfl⟩
  obtain ⟨y3, hy3⟩ : ∃ y, imgOk m = y := ⟨_, rfl⟩
  rw [hy1] at FO0
  rw [hy2] at GO0
  rw [hy3] at IO0
  have hnot : ¬ (y1 = true ∧ y2 = true ∧ y3 = true) := by
    rintro ⟨rfl, rfl, rfl⟩
    simp only [decide_eq_true_eq] at hy1 hy2
    unfold runOk at hok
    rw [hy3, decide_eq_true ⟨hy2.1, hy2.2, hy1.1, hy1.2⟩] at hok
    cases hok
  have FO := hideP FO0
  have GO := hideP GO0
  have IO := hideP IO0
  have HNOT := hideP hnot
  clear FO0 GO0 IO0 hy1 hy2 hy3 hnot hok hI
  have hel := World.block_lt_of_cell? _ _ hE
  go_enter Tryd.func23, Tryd.ntmps23
  go_upto_region 1 with fail
  obtain ⟨lb, hlb⟩ : ∃ lb, w.heap.size = lb := ⟨_, rfl⟩
  obtain ⟨W, hW⟩ : ∃ W, (w.alloc (.cells #[.slice us m.sizes.length cs, .int .i64 m.params, .int .i64 m.slots, .slice ub m.code.length cb] 32)) = W := ⟨_, rfl⟩
  have al := (Below.refl w.heap.size w).alloc (Nat.le_refl _) (.cells #[.slice us m.sizes.length cs, .int .i64 m.params, .int .i64 m.slots, .slice ub m.code.length cb] 32)
  have E0 := heap_new hlb (.cells #[.slice us m.sizes.length cs, .int .i64 m.params, .int .i64 m.slots, .slice ub m.code.length cb] 32)
  rw [hW] at al E0 ⊢
  rw [hlb] at ⊢
  have d0 := (cells_of E0).1 0
  have d1 := (cells_of E0).1 1
  have d2 := (cells_of E0).1 2
  have d3 := (cells_of E0).1 3
  simp at d0 d1 d2 d3
  have g1 := (al.cell (p := ⟨0, 0, none⟩) hel).trans hE
  have HAL := hideP al
  clear E0 al hlb hW hE
  cases y1 with
  | false =>
    go_wp2_with fail
    refine (FO.out _).mono ?_
    rintro e1 w1 ⟨rfl, rfl⟩
    go_wp2_with fail
    go_region
    all_goals go_wp2_with fail
    all_goals (refine bodyPost_ret (results_tmp2 rfl _ _ _) rfl ?_; exact ⟨by first | rfl | trivial, by first | exact HAL.out.drew | exact HAL.out⟩)
  | true =>
    go_wp2_with fail
    refine (FO.out _).mono ?_
    rintro e1 w1 ⟨rfl, rfl⟩
    cases y2 with
    | false =>
      go_wp2_with fail
      refine (GO.out _).mono ?_
      rintro e1 w1 ⟨rfl, rfl⟩
      go_wp2_with fail
      go_region
      all_goals go_wp2_with fail
      all_goals (refine bodyPost_ret (results_tmp2 rfl _ _ _) rfl ?_; exact ⟨by first | rfl | trivial, by first | exact HAL.out.drew | exact HAL.out⟩)
    | true =>
      cases y3 with
      | true => exact absurd (by simp) HNOT.out
      | false =>
        go_wp2_with fail
        refine (GO.out _).mono ?_
        rintro e1 w1 ⟨rfl, rfl⟩
        go_wp2_with fail
        refine (IO.out _ HAL.out).mono ?_
        rintro e1 w2 ⟨rfl, bw⟩
        have g2 := (bw.cell (p := ⟨0, 0, none⟩) (World.block_lt_of_cell? _ _ g1)).trans g1
        have HB2 := hideP (HAL.out.trans (bw.mono HAL.out.size))
        clear bw g1 d0 d1 d2 d3
        go_wp2_with fail
        go_region
        all_goals go_wp2_with fail
        all_goals (refine bodyPost_ret (results_tmp2 rfl _ _ _) rfl ?_; exact ⟨by first | rfl | trivial, by first | exact HB2.out.drew | exact HB2.out⟩)
end
end Go.Proofs.YtpkfbabgcinhhaaDoor

/- errors.Is of nil, and of the very error that is asked for, at the dump's own numbers. -/
namespace Go.Proofs.YtpkfbabgcinhhaaDoor
open Go.RowKit Go.Extern
theorem isNilE (w : World) (u : TypeId) (p : Value) :
    Calls Tryd.prog 24 #[.nilIface, .iface u p] w fun e w' => e = .returned (.bool false) ∧ w' = w := by
  have hn := run_eql_iface_nil_left (P := Tryd.prog) w u p Tryd.underlying50
  go_enter Tryd.func24, Tryd.ntmps24
  go_wp2
  go_ret
  exact ⟨rfl, rfl⟩
theorem tofE (v : Value) (w : World) : (Extern.ReflectliteType.typeOf #[.iface 136 v]).run Tryd.prog w = .ok (.iface 100 (.agg #[.pointer (some ⟨3, 136, none⟩)])) w := by kernel_rfl
theorem cmpE (w : World) : (callFunc 99 #[.agg #[.pointer (some ⟨3, 136, none⟩)]]).run Tryd.prog w = .ok (.value (.bool true)) w := by
  rw [@run_callFunc_extern Tryd.prog 99 _ (Extern.ReflectliteType.method fun t => do Go.Extern.Rtype.noPackHeld "Comparable" t; pure (.bool (← typeInfo t).comparable)) Tryd.func99 (by kernel_rfl) (by kernel_rfl) (by kernel_rfl) (by kernel_rfl)]
  kernel_rfl
theorem mthE (v : Value) (w : World) : (Go.method 269 100 v "Comparable").run Tryd.prog w = .ok (99, v) w := by kernel_rfl
theorem okE : (Tryd.prog.info? 136).map (·.comparable) = some true := by kernel_rfl
theorem sizE : (Tryd.prog.info? 157).map (·.size) = some 1 := by kernel_rfl
set_option maxHeartbeats 4000000 in
/-- errors.Is of an error made by errors.New and of that error. -/
theorem isSameE (a : Addr) (w : World) :
    Calls Tryd.prog 24 #[.iface 136 (.pointer (some a)), .iface 136 (.pointer (some a))] w fun e w' => e = .returned (.bool true) ∧ w' = w := by
  obtain ⟨i, hi, hcmp⟩ := Option.map_eq_some_iff.1 okE
  obtain ⟨j, hj, _⟩ := Option.map_eq_some_iff.1 sizE
  have hT := @run_callFunc_extern Tryd.prog 42 _ Extern.ReflectliteType.typeOf Tryd.func42 (by kernel_rfl) (by kernel_rfl) (by kernel_rfl) (by kernel_rfl)
  have tT := tofE
  have cT := cmpE
  have mR := mthE
  have heq := run_eql_iface_ptr_same (P := Tryd.prog) w a Tryd.underlying50 Tryd.underlying136 hi hcmp hj
  have IS : Hid (Calls Tryd.prog 43 #[.iface 136 (.pointer (some a)), .iface 136 (.pointer (some a)), .bool true] w fun e w' => e = .returned (.bool true) ∧ w' = w) := by
    show Calls _ _ _ _ _
    go_enter Tryd.func43, Tryd.ntmps43
    go_wp2
    refine wp_loop_rounds 1 ?_
    rw [rounds_succ]
    go_wp2
    go_ret
    exact ⟨rfl, rfl⟩
  go_enter Tryd.func24, Tryd.ntmps24
  go_wp2_with (go_at_call 43; refine IS.out.mono ?_; rintro e1 w1 ⟨rfl, rfl⟩)
  go_ret
  exact ⟨rfl, rfl⟩
end Go.Proofs.YtpkfbabgcinhhaaDoor
