/- A map from numbers to lists: which list stands at which number. -/
import Derived.Test.YtooaoankloocmabSetAll
namespace Go.Proofs.Ytooaoankloocmab
open Go.ChangeShapes Go.WideShapes Go.ChangeAt Go.RowKit Go.Maps
def heldV (v : Value) : Option (DataW Value × List MemPlace) := some (.held v, [])
theorem emKey {s : Int} (h : I64 s) : keyOf Try.prog 3 (.int .i64 s) = some (.int .i64 s) := keyOf_int_mk Try.underlying3 (WalkArith.wf_i64 h)
theorem emLit {s : Int} (h : I64 s) : WideAt.IsKeyLit (.int .i64 s) := lawI.key (emKey h)
theorem emIs {s : Int} {kl : Lit} (h : keyOf Try.prog 3 (.int .i64 s) = some kl) : I64 s ∧ kl = .int .i64 s := by
  have hi : I64 s := InK_ok.of_key (p := s) h
  exact ⟨hi, Option.some.inj (h.symm.trans (emKey hi))⟩
theorem emNe {a b : Int} (h : a ≠ b) : (Lit.int .i64 a : Lit) ≠ .int .i64 b := fun e => h (by simpa using e)
theorem emZero (w : World) : (zeroValue 22).run Try.prog w = .ok (.slice none 0 0) w := by kernel_rfl
def ReadsE (D : DataW Value) (E : Int → Option Value) : Prop := ∀ s, I64 s → Maps.has D (.int .i64 s) = (E s).isSome ∧ ∀ v, E s = some v → ∀ z, D.atKey (.int .i64 s) z = .held v
/-- The map in block b is this function. -/
def EmAt (w : World) (b n : Nat) (E : Int → Option Value) : Prop := (∀ s v, E s = some v → I64 s) ∧ ∃ D : DataW Value, w.ownsMap Try.prog 3 heldV b n D ∧ ReadsE D E
section
variable {w w' : World} {b n : Nat} {E : Int → Option Value}
theorem EmAt.made (w : World) : EmAt (w.alloc (.map #[] 0)) w.heap.size 0 (fun _ => none) := ⟨fun _ _ e => (by cases e), _, World.ownsMap_made _ _ _ _, fun s _ => ⟨by simp [Maps.has], fun _ e => (by cases e)⟩⟩
theorem EmAt.lt (h : EmAt w b n E) : b < w.heap.size := let ⟨_, _, h1, _⟩ := h; h1.lt
theorem EmAt.isMap (h : EmAt w b n E) : ∃ es clock, w.heap[b]? = some (.map es clock) := let ⟨_, _, ⟨es, clock, h1, _⟩, _⟩ := h; ⟨es, clock, h1⟩
theorem EmAt.blk (h : EmAt w b n E) (hb : w'.heap[b]? = w.heap[b]?) : EmAt w' b n E := let ⟨ok, D, ⟨es, clock, h1, h2⟩, h3⟩ := h; ⟨ok, D, ⟨es, clock, hb.trans h1, h2⟩, h3⟩
theorem EmAt.stays (h : EmAt w b n E) (bel : Below w.heap.size w w') : EmAt w' b n E := h.blk (bel.block b h.lt)
theorem EmAt.num (h : EmAt w b n E) (t : NumT w w') : EmAt w' b n E := by
  obtain ⟨es, cl, h3⟩ := h.isMap
  exact h.blk (t.block b h.lt (fun c T e => by rw [h3] at e; cases e))
/-- A look into it. -/
theorem EmAt.look (h : EmAt w b n E) {T : TypeId} (ht : Try.prog.underlying T = some (.map 3 22)) {s : Int} (hs : I64 s) : (Instr.lookup T (.map (some b)) (.int .i64 s) false).run Try.prog w = .ok ((E s).getD (.slice none 0 0)) w := by
  obtain ⟨_, D, h1, h2⟩ := h
  obtain ⟨v, ps, hr, hv⟩ := h1.lookup lawI ht (emZero w) (zd := .held (.slice none 0 0)) (zp := []) rfl (emKey hs)
  have e : v = (E s).getD (.slice none 0 0) := by
    unfold heldV at hv
    cases he : E s with
    | none =>
      have hf : Maps.has D (.int .i64 s) = false := by rw [(h2 s hs).1, he]; rfl
      rw [Maps.atKey_of_not_has hf] at hv
      simp at hv
      simpa using hv.1
    | some u =>
      rw [(h2 s hs).2 u he] at hv
      simp at hv
      simpa using hv.1
  rw [hr, e]
/-- One put into it. -/
theorem EmAt.put (h : EmAt w b n E) {T : TypeId} (ht : Try.prog.underlying T = some (.map 3 22)) {s : Int} (hs : I64 s) (v : Value) (hn : n < 1000000) : ∃ w', (Instr.mapUpdate T (.map (some b)) (.int .i64 s) v).run Try.prog w = .ok () w' ∧ EmAt w' b (n + 1) (fun z => if z = s then some v else E z) ∧ But b w w' := by
  obtain ⟨ok, D, h1, h2⟩ := h
  obtain ⟨w', hr, hw', hg⟩ := h1.update lawI ht (by unfold maxLen; omega) (emKey hs) (d := .held v) (ps := []) (val := v) rfl
  refine ⟨w', hr, ⟨fun z u e => ?_, _, hw', fun z hz => ?_⟩, But.ofG hg⟩
  · by_cases ez : z = s
    · rw [ez]; exact hs
    · simp only [if_neg ez] at e; exact ok z u e
  · by_cases ez : z = s
    · subst ez
      refine ⟨by rw [Maps.has_put_same h1.isMap (emLit hs)]; simp, fun u e zd => ?_⟩
      simp only [if_true] at e
      cases e
      exact Maps.atKey_put_same h1.isMap (emLit hs) _ _
    · have hne := emNe ez
      refine ⟨by rw [Maps.has_put_other hne, (h2 z hz).1]; simp [ez], fun u e zd => ?_⟩
      simp only [if_neg ez] at e
      rw [Maps.atKey_put_other hne]
      exact (h2 z hz).2 u e zd
end
/-- Block r goes over it; dn have come. -/
def RgE (w : World) (b r n : Nat) (E : Int → Option Value) (dn : List Int) (cnt : Nat) : Prop := (∀ s v, E s = some v → I64 s) ∧ ∃ (D : DataW Value) (left : Lit → Bool), ReadsE D E ∧ w.ranges Try.prog 3 heldV b r n D left cnt ∧ (∀ s, (E s).isSome = true → (left (.int .i64 s) = true ↔ ¬ s ∈ dn)) ∧ (∀ kl, left kl = true → Maps.has D kl = true) ∧ (∀ s ∈ dn, (E s).isSome = true) ∧ dn.Nodup
section
variable {w w' : World} {b r n cnt : Nat} {E : Int → Option Value} {dn : List Int}
theorem RgE.keep (h : RgE w b r n E dn cnt) (hb : w'.heap[b]? = w.heap[b]?) (hr : w'.heap[r]? = w.heap[r]?) : RgE w' b r n E dn cnt := by
  obtain ⟨h0, D, left, h1, ⟨es, clock, since, seen, c0, q1, F, hs, hD, q2, rest⟩, h3⟩ := h
  exact ⟨h0, D, left, h1, ⟨es, clock, since, seen, c0, hb.trans q1, F, hs, hD, hr.trans q2, rest⟩, h3⟩
theorem RgE.objs (h : RgE w b r n E dn cnt) : (∃ es cl, w.heap[b]? = some (.map es cl)) ∧ ∃ a s e c, w.heap[r]? = some (.mapIter a s e c) := by
  obtain ⟨h0, D, left, h1, ⟨es, clock, since, seen, c0, q1, F, hs, hD, q2, rest⟩, h3⟩ := h
  exact ⟨⟨_, _, q1⟩, _, _, _, _, q2⟩
theorem RgE.left_eq (h : RgE w b r n E dn cnt) : w.rangeLeft b r = cnt := let ⟨_, _, _, _, h3, _⟩ := h; h3.left_eq
theorem RgE.lt (h : RgE w b r n E dn cnt) : b < w.heap.size ∧ r < w.heap.size := let ⟨_, _, _, _, h3, _⟩ := h; ⟨h3.owns.lt, h3.lt⟩
theorem RgE.stays (h : RgE w b r n E dn cnt) (bel : Below w.heap.size w w') : RgE w' b r n E dn cnt := h.keep (bel.block _ h.lt.1) (bel.block _ h.lt.2)
end
theorem rge_range {ops : Array Oper} {o : Oper} {a : Act} {Q : Exit → Act → World → Prop} {rest : List Oper} (w : World) (hg : o.guard = none) (m : Operand) (T : TypeId) (hT : Try.prog.underlying T = some (.map 3 22)) (hop : o.op = Op.range T m) (b n : Nat) (E : Int → Option Value) (hm : a.eval m = .map (some b)) (hs : EmAt w b n E)
    (hK : ∀ w' cnt, RgE w' b w.heap.size n E [] cnt → w.grownBy w' none → w'.heap.size = w.heap.size + 1 → wpList Try.prog ops Q rest (a.put o.dst (.pointer (some ⟨w.heap.size, 0, none⟩))) w') : wpList Try.prog ops Q (o :: rest) a w := by
  obtain ⟨ok, D, hown, hrd⟩ := hs
  exact wpList_range_own w hg m T hop 3 22 lawI hT heldV b n D hm hown (fun w' h1 h2 h3 => hK w' _ ⟨ok, D, _, hrd, h1, fun s hs => ⟨fun _ h => by simp at h, fun _ => by
    obtain ⟨u, hu⟩ := Option.isSome_iff_exists.1 hs
    rw [(hrd s (ok s u hu)).1]; exact hs⟩, fun kl h => h, fun s hs => by simp at hs, List.nodup_nil⟩ h2 h3)
theorem rge_next {ops : Array Oper} {o : Oper} {a : Act} {Q : Exit → Act → World → Prop} {rest : List Oper} (w : World) (hg : o.guard = none) (it : Operand) (hop : o.op = Op.next it false) (b r n : Nat) (E : Int → Option Value) (dn : List Int) (cnt : Nat) (hit : a.eval it = .pointer (some ⟨r, 0, none⟩)) (h : RgE w b r n E dn cnt)
    (hDone : (∀ s, s ∈ dn ↔ (E s).isSome = true) → dn.Nodup → wpList Try.prog ops Q rest (a.put o.dst (.tuple #[.bool false])) w)
    (hMore : ∀ (x : Int) (c : Value) (w' : World) (cnt' : Nat), E x = some c → ¬ x ∈ dn → I64 x → RgE w' b r n E (dn ++ [x]) cnt' → cnt' < cnt → w.grownBy w' (some r) → w'.heap.size = w.heap.size → (Instr.entry (.pointer (some ⟨r, 0, none⟩))).run Try.prog w' = .ok (.tuple #[.int .i64 x, c]) w' → wpList Try.prog ops Q rest (a.put o.dst (.tuple #[.bool true, .int .i64 x, c])) w') :
    wpList Try.prog ops Q (o :: rest) a w := by
  obtain ⟨ok, D, left, hrd, hrg, hl, hl2, hdn, hnd⟩ := h
  refine wpList_next_ranges w hg it hop 3 lawI heldV (fun x : Int => Value.int .i64 x) (fun c : Value => c) InK_ok.invK (fun v _ _ => ⟨v, rfl⟩) b r n D left cnt hit hrg (fun _ h0 => hDone (fun s => ⟨hdn s, fun hs => ?_⟩) hnd) (fun x c kl y w' cnt' hkey hlk hc hat hrg1 hlt hg1 hs1 hen => ?_)
  · cases Classical.em (s ∈ dn) with
    | inl h => exact h
    | inr h => exact absurd ((hl s hs).2 h) (by rw [h0]; simp)
  · obtain ⟨hin, rfl⟩ := emIs hkey
    have hsm : (E x).isSome = true := by rw [← (hrd x hin).1]; exact hl2 _ hlk
    obtain ⟨u, hu⟩ := Option.isSome_iff_exists.1 hsm
    have hcu : c = u := by
      have h1 := (hrd x hin).2 u hu (.nil)
      rw [hat] at h1
      have hc2 : some ((DataW.held c : DataW Value), ([] : List MemPlace)) = some y := hc
      have hy : y = (DataW.held c, []) := (Option.some.inj hc2).symm
      rw [hy] at h1
      have h3 : (DataW.held c : DataW Value) = .held u := h1
      injection h3
    subst hcu
    have hnew : ¬ x ∈ dn := (hl x hsm).1 hlk
    refine hMore x c w' cnt' hu hnew hin ⟨ok, D, _, hrd, hrg1, fun s hs => ?_, fun kl h => hl2 kl (by simp at h; exact h.1), fun s hs => ?_, ?_⟩ hlt hg1 hs1 hen
    · obtain ⟨u2, hu2⟩ := Option.isSome_iff_exists.1 hs
      have hsi := ok s u2 hu2
      rw [Bool.and_eq_true, hl s hs, List.mem_append, List.mem_singleton]
      by_cases e : s = x
      · subst e
        have : (Lit.int .i64 s).sameKey (.int .i64 s) = true := WideAt.sameKey_self (emLit hsi)
        simp [this]
      · have : (Lit.int .i64 s).sameKey (.int .i64 x) = false := by
          cases h9 : (Lit.int .i64 s).sameKey (.int .i64 x) with
          | false => rfl
          | true => exact absurd (WideAt.sameKey_eq h9) (emNe e)
        simp [this, e]
    · rcases List.mem_append.1 hs with hs | hs
      · exact hdn s hs
      · rw [List.mem_singleton.1 hs]; exact hsm
    · exact List.nodup_append.2 ⟨hnd, by simp, fun a ha b hb => by rw [List.mem_singleton.1 hb]; exact fun e => hnew (e ▸ ha)⟩
end Go.Proofs.Ytooaoankloocmab
