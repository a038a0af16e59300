/- The contract of impl.sorted over a set of numbers. -/
import Derived.Test.YtooaoankloocmaaSetAll
import Derived.Test.YtooaoankloocmaaShelfK
import Derived.Test.YtooaoankloocmaaOrdPA
import Derived.Shelf.AbstractIn
namespace Go.Proofs.Ytooaoankloocmaa
open Go.ChangeShapes Go.WideShapes Go.ChangeAt Go.RowKit Go.Maps Go.Sort Go.Shelf
set_option maxRecDepth 100000 in
set_option maxHeartbeats 4000000 in
theorem sorted_raw {H : Type} (b nn : Nat) (D0 : DataW H) (R : Value → Option (DataW H × List MemPlace)) (w : World) (hown : w.ownsMap Try.prog 3 R b nn D0) (hmax : Maps.size D0 ≤ maxLen) (hbytes : Maps.size D0 * 8 ≤ 140737488355328) :
    Calls Try.prog 46 #[.map (some b)] w fun e w' => ∃ (v : Value) (ss : List Int), e = .returned v ∧ ss.Perm (intKeys D0) ∧
      w'.ownsRow w.heap.size 3 1 v ss.length ((ss.mergeSort (fun x y => decide (x ≤ y))).map encZ) ∧ (v = .slice none 0 0 ↔ ss = []) ∧ Below w.heap.size w w' := by
  refine (callsIn_wide (n := 6)).1 ?_
  have hbl := hown.lt
  have hseq : SeqGives Fence.wide 2 Try.prog 87 #[.pointer (some ⟨w.heap.size, 0, none⟩)] encZ (fun ss => ss.Perm (intKeys D0)) (Maps.size D0) (w.alloc (.cells #[.map (some b)] 59)) :=
    AnyZI.keys_gives (ρ := Try.keysA_ren) { Try.keysA with } Fence.wide _ trivial rfl (by omega) w.heap.size b nn D0 _ (by simp) (by simp) (by
      obtain ⟨es, clock, hb, Ft, hs, hD⟩ := hown
      exact ⟨es, clock, (Below.heap_alloc _ _ b hbl).trans hb, Ft, hs, hD⟩)
  have cK : ∀ mb W, CallsIn Fence.wide 5 Try.prog 70 #[.map mb] W fun e w' => e = .returned (.func (.func 87) #[] #[.pointer (some ⟨W.heap.size, 0, none⟩)]) ∧ w' = W.alloc (.cells #[.map mb] 59) := fun mb W => AnyZI.keys_in Try.keysA Fence.wide 5 trivial rfl mb W
  have cS := AnyZI.sorted_in Try.sortedA Fence.wide 5 trivial trivial trivial trivial rfl (by omega) (Try.sortsA _) (enters_of Try.func72 (by kernel_rfl) rfl) 87 #[.pointer (some ⟨w.heap.size, 0, none⟩)] trivial (enters_of Try.func87 (by kernel_rfl) rfl) _ _ hmax hbytes _ hseq
  change CallsIn _ _ Try.prog 69 _ _ _ at cS
  have hfK : Fence.wide.fn 70 := trivial
  have hfS : Fence.wide.fn 69 := trivial
  refine callsIn_of_wp Try.func46 rfl trivial ?_ rfl
  simp only [Try.ntmps46, List.size_toArray, List.length_cons, List.length_nil, Nat.reduceAdd, Nat.reduceSub, Array.replicate_succ, Array.replicate_zero, List.push_toArray, List.append_toArray, List.nil_append, List.cons_append]
  gi_wp2_with (first
    | (gi_at_call 70; refine (cK _ _).mono ?_; rintro e w' ⟨rfl, rfl⟩)
    | (gi_at_call 69; refine cS.mono ?_; rintro e w' ⟨v, ss, rfl, hS, hrow, hnil, hb⟩))
  go_ret
  exact ⟨v, ss, rfl, hS, ownsRow_base_a hrow (by simp), hnil, ((Below.refl _ w).alloc (Nat.le_refl _) _).trans (hb.mono (by simp))⟩
open Classical in
/-- The members, rising. -/
noncomputable def srtP (P : Int → Prop) (N : Nat) : List Int := upB (fun k => decide (P (k : Int))) N
open Classical in
theorem srtP_mem {P : Int → Prop} {N : Nat} (h : ∀ y, P y → InR N y) (y : Int) : y ∈ srtP P N ↔ P y := by
  unfold srtP
  rw [upB_mem]
  constructor
  · rintro ⟨i, rfl, _, hf⟩; exact of_decide_eq_true hf
  · intro hy
    obtain ⟨h1, h2⟩ := h y hy
    exact ⟨y.toNat, by omega, by omega, by rw [decide_eq_true_eq, show ((y.toNat : Nat) : Int) = y by omega]; exact hy⟩
theorem pk_int {pk : Int → Lit} (F : SKeyFn InK pk) {x : Int} (h : I64 x) : pk x = .int .i64 x := by
  have h1 := F.key (p := x) h
  have h2 : keyOf Try.prog 3 (.int .i64 x) = some (.int .i64 x) := keyOf_int_mk Try.underlying3 (WalkArith.wf_i64 h)
  exact Option.some.inj (h1.symm.trans h2)
open Classical in
theorem sorted_any (P : Int → Prop) (N : Nat) (l : List Int) (w : World) (b n : Nat) (h : SetIs InK w b n l) (hl : ∀ y, y ∈ l ↔ P y) (hP : ∀ y, P y → InR N y) (hn : n ≤ 1000000) :
    Calls Try.prog 46 #[.map (some b)] w fun e w' => ∃ v, e = .returned v ∧ NumN w' w.heap.size v (srtP P N) ∧ Below w.heap.size w w' := by
  obtain ⟨ok, pk, F, D, hown, hrd⟩ := h
  have hsz := World.ownsMap.size_le hown
  refine (sorted_raw b n D unitElem w hown (by unfold maxLen; omega) (by omega)).mono ?_
  rintro e w' ⟨v, ss, rfl, hss, hrow, hnil, hb⟩
  refine ⟨v, rfl, ?_, hb⟩
  have hi64 : ∀ {y}, P y → I64 y := fun {y} hy => ok y ((hl y).2 hy)
  have hC : CollectedI D (fun _ => false) (srtP P N) := by
    refine ⟨(upB_up _ N).imp (fun {a b} h => by omega), fun x => ?_⟩
    rw [srtP_mem hP, hrd]
    constructor
    · intro hx
      exact ⟨⟨x, (hl x).2 hx, pk_int F (hi64 hx)⟩, rfl⟩
    · rintro ⟨⟨q, hq, e⟩, _⟩
      rw [pk_int F (ok q hq)] at e
      have : q = x := by simpa using e
      rw [← this]; exact (hl q).1 hq
  have hp : (srtP P N).Perm (intKeys D) := hC.perm hown lawI Try.underlying3 (fun _ => rfl)
  have hlen : ss.length = (srtP P N).length := hss.length_eq.trans hp.length_eq.symm
  have hms : ss.mergeSort leI = srtP P N := by
    rw [mergeSort_of_perm_i (hss.trans hp.symm)]
    exact List.mergeSort_of_pairwise ((upB_up _ N).imp (fun {a b} h => by simp only [leI, decide_eq_true_eq]; omega))
  by_cases h0 : ss = []
  · exact Or.inl ⟨hnil.2 h0, List.length_eq_zero_iff.1 (by rw [← hlen, h0]; rfl)⟩
  · right
    have hms2 : ss.mergeSort (fun x y => decide (x ≤ y)) = srtP P N := hms
    rw [hms2, hlen] at hrow
    obtain ⟨_, ⟨h1, _⟩ | ⟨g', cap', _, hv', _⟩⟩ := id hrow
    · exact absurd (hnil.1 h1) h0
    · exact ⟨g', cap', hv', hrow⟩
end Go.Proofs.Ytooaoankloocmaa
