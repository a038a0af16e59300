/- The contract of impl.loop over ways. -/
import Derived.Test.YtooaoankloocmabCtA
import Derived.Test.YtooaoankloocmabLopP
import Derived.Test.YtooaoankloocmabAhdI
namespace Go.Proofs.Ytooaoankloocmab
open Go.ChangeShapes Go.WideShapes Go.ChangeAt Go.RowKit Go.Maps
set_option maxRecDepth 100000 in
set_option maxHeartbeats 4000000 in
theorem loop_any (n : Nat) (pre : Nat → List Int) (fs : List Int) (hd : Int) (w : World) (lo ga B : Nat) (av : Nat → Value) (v : Value) (h : AhAt lo n ga av pre w) (hv : OwnI w B v fs) (hin : ∀ i, i < n → ∀ y ∈ pre i, InR n y) (hfs : ∀ y ∈ fs, InR n y) (hh : InR n hd) (hn : n ≤ 300) (hS : fs.length + restN pre [] n ≤ 100000) :
    Calls Try.prog 28 #[.slice (some ⟨ga, 0, none⟩) n n, .int .i64 hd, v] w fun e w' => SetMade w 301 (fun y => y = hd ∨ Way pre fs hd y) e w' := by
  have CT := hideP (comeTo_any n pre fs hd w lo ga B av v h hv hin hfs hn hS)
  have IH : Hid (I64 hd) := by obtain ⟨h1, h2⟩ := hh; show I64 _; unfold I64; omega
  obtain ⟨gv, cv, hvv, _⟩ := id hv
  subst hvv
  clear h hv hin hfs hh hS
  go_enter Try.func28, Try.ntmps28
  go_wp2_with fail
  refine CT.out.mono ?_
  rintro e1 w1 ⟨m1, n1, l1, rfl, hm1, s1, hn1, hl1, b1⟩
  have al := (Below.refl w1.heap.size w1).alloc (Nat.le_refl _) (.cells #[.int .i64 hd] 3)
  have CA := hideP (addI_any l1 [hd] _ m1 n1 _ _ (s1.stays al) (own_lit w1 [hd] #[.int .i64 hd] w1.heap.size 1 rfl rfl rfl (by simp)) (fun s hs => by rw [List.mem_singleton.1 hs]; exact IH.out) (by omega) (by simp))
  have B1 := hideP (below_trans b1 al)
  have HL := hideP hl1
  clear s1 b1 al CT hl1
  go_wp2_with fail
  refine CA.out.mono ?_
  rintro e2 w2 ⟨rfl, s2, b2⟩
  have S2 : Hid (SetIs InK w2 m1 (n1 + 1) (l1 ++ [hd])) := s2
  have B2 := hideP (B1.out.trans (b2.below hm1 B1.out.size))
  clear s2 b2 CA
  go_wp2
  go_ret
  exact ⟨_, _, _, rfl, hm1, S2.out, by omega, fun y => by rw [List.mem_append, HL.out, List.mem_singleton]; exact or_comm, B2.out⟩
theorem way_prd {xs : List Blk} {pre : Nat → List Int} (hp : ∀ t, t < xs.length → ∀ y, y ∈ pre t ↔ y ∈ prdL xs t) {fs : List Int} (hf : ∀ y ∈ fs, InR xs.length y) {hd y : Int} : Way pre fs hd y ↔ Way (prdL xs) fs hd y := by
  have key : ∀ {p q : Nat → List Int}, (∀ t, t < xs.length → ∀ y, y ∈ p t ↔ y ∈ q t) → (∀ t, t < xs.length → ∀ y ∈ p t, InR xs.length y) → ∀ {y}, Way p fs hd y → Way q fs hd y ∧ InR xs.length y := fun {p q} h1 h2 {y} h => by
    induction h with
    | zero hz hw => exact ⟨Way.zero hz hw, hf _ hz⟩
    | @step b c hb hc hw ih =>
      have hbl : b.toNat < xs.length := by have := ih.2.1; have := ih.2.2; omega
      exact ⟨Way.step ih.1 ((h1 _ hbl _).1 hc) hw, h2 _ hbl _ hc⟩
  exact ⟨fun h => (key hp (fun t ht y hy => prdL_in y ((hp t ht y).1 hy)) h).1, fun h => (key (fun t ht y => (hp t ht y).symm) (fun t _ y hy => prdL_in y hy) h).1⟩
end Go.Proofs.Ytooaoankloocmab
