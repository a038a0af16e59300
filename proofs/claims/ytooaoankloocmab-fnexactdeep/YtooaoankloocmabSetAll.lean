/- Sets of numbers: maps whose elements are empty structs (written by wip/mkseth.py). -/
import Derived.Test.YtooaoankloocmabOwnA
import Derived.Test.YtooaoankloocmabShD
import Derived.Maps.RangeWalk
import Derived.Maps.OwnSet
import Derived.Maps.OwnOps
import Derived.DeepKeys4
import Derived.Deep.LoopGhost
import Derived.Deep.CutRange
import Derived.Deep.RegionHeld3
namespace Go.Proofs.Ytooaoankloocmab
open Go.ChangeShapes Go.WideShapes Go.ChangeAt Go.RowKit Go.Maps
theorem hltP {w : World} {b : Nat} {o : Obj} (h : w.heap[b]? = some o) : b < w.heap.size := (Array.getElem?_eq_some_iff.1 h).1
theorem grows_below {w w' : World} (h : Below w.heap.size w w') : w.grownBy w' none := ⟨h.os, h.tape, h.output, h.size, fun i hi _ => h.block i hi⟩
theorem But.ofG {b : Nat} {w w' : World} (h : w.grownBy w' (some b)) : But b w w' := ⟨h.os, h.tape, h.output, h.size, fun k hk hne => h.block k hk (by simpa using hne)⟩
theorem But.grow {b : Nat} {w w' : World} (h : But b w w') : w.grownBy w' (some b) := ⟨h.os, h.tape, h.output, h.size, fun k hk hne => h.block k hk (by simpa using hne)⟩
theorem But.thenB {b : Nat} {w w1 w2 : World} (h : Below w.heap.size w w1) (k : But b w1 w2) : But b w w2 :=
  ⟨k.os.trans h.os, k.tape.trans h.tape, k.output.trans h.output, Nat.le_trans h.size k.size, fun i hi hne => (k.block i (Nat.lt_of_lt_of_le hi h.size) hne).trans (h.block i hi)⟩
theorem But.keepB {b k : Nat} {w w' : World} {o : Obj} (h : But b w w') (hx : w.heap[k]? = some o) (hne : k ≠ b) : w'.heap[k]? = some o := (h.block k (hltP hx) hne).trans hx
theorem But.twice {b : Nat} {w w1 w2 : World} (h : But b w w1) (k : But b w1 w2) : But b w w2 :=
  ⟨k.os.trans h.os, k.tape.trans h.tape, k.output.trans h.output, Nat.le_trans h.size k.size, fun i hi hne => (k.block i (Nat.lt_of_lt_of_le hi h.size) hne).trans (h.block i hi hne)⟩
/-- The numbers of a list that a call owns. -/
theorem ints_at {w : World} {B g n cap : Nat} {l : List Int} (h : OwnI w B (.slice (some ⟨g, 0, none⟩) n cap) l) (j : Nat) (hj : j < l.length) : w.cell? ⟨g, j, none⟩ = some (.int .i64 l[j]) := by
  obtain ⟨g', cap', cur, hv, _, hh, _, _, _, hx⟩ := h.parts
  injection hv with e1
  injection e1 with e1
  injection e1 with e1
  subst e1
  simp only [World.cell?, hh]
  exact hx j hj
/-- How a set's members stand: their type, which are members at all, their values. -/
structure SKey (α : Type) where
  K : TypeId
  ok : α → Prop
  v : α → Value
/-- What each member reads as, as a key. -/
structure SKeyFn {α : Type} (S : SKey α) (pk : α → Lit) : Prop where
  key : ∀ {p : α}, S.ok p → keyOf Try.prog S.K (S.v p) = some (pk p)
  lit : ∀ {p : α}, S.ok p → WideAt.IsKeyLit (pk p)
  inj : ∀ {p q : α}, S.ok p → S.ok q → pk p = pk q → p = q
structure SKey.Ok {α : Type} (S : SKey α) : Prop where
  law : Keyed Try.prog S.K
  inv : ∀ key kl, keyOf Try.prog S.K key = some kl → ∃ p, key = S.v p ∧ S.ok p
  fn : ∃ pk, SKeyFn S pk
  vinj : ∀ p q, S.v p = S.v q → p = q
section
variable {α : Type} {S : SKey α} {pk : α → Lit}
theorem SKey.Ok.invK (O : S.Ok) : ∀ key kl, keyOf Try.prog S.K key = some kl → ∃ p, key = S.v p := fun key kl h => let ⟨p, e, _⟩ := O.inv key kl h; ⟨p, e⟩
theorem invU : ∀ (v : Value) (y : DataW Unit × List MemPlace), unitElem v = some y → ∃ _ : Unit, v = Value.agg #[] := fun _ _ h => ⟨(), (unitElem_inv h).1⟩
theorem SKey.Ok.of_key (O : S.Ok) {p : α} {kl : Lit} (h : keyOf Try.prog S.K (S.v p) = some kl) : S.ok p := by
  obtain ⟨q, e, hq⟩ := O.inv _ _ h
  rw [O.vinj _ _ e]; exact hq
/-- The map reads as these members. -/
def ReadsS (pk : α → Lit) (D : DataW Unit) (l : List α) : Prop := ∀ kl, Maps.has D kl = true ↔ ∃ q ∈ l, pk q = kl
theorem readsS_nil : ReadsS pk (.map []) [] := fun kl => by simp [Maps.has]
theorem ReadsS.congr {D : DataW Unit} {l l' : List α} (h : ReadsS pk D l) (e : ∀ q, q ∈ l' ↔ q ∈ l) : ReadsS pk D l' := fun kl => by
  rw [h kl]
  exact ⟨fun ⟨q, hq, e1⟩ => ⟨q, (e q).2 hq, e1⟩, fun ⟨q, hq, e1⟩ => ⟨q, (e q).1 hq, e1⟩⟩
theorem readsS_put (F : SKeyFn S pk) {D : DataW Unit} {l : List α} (hD : Maps.IsMap D) (h : ReadsS pk D l) {p : α} (hp : S.ok p) (d : DataW Unit) : ReadsS pk (D.put (pk p) d) (l ++ [p]) := fun kl => by
  by_cases e : kl = pk p
  · subst e
    rw [Maps.has_put_same hD (F.lit hp)]
    exact ⟨fun _ => ⟨p, by simp, rfl⟩, fun _ => rfl⟩
  · rw [Maps.has_put_other e, h kl]
    constructor
    · rintro ⟨y, hy, rfl⟩; exact ⟨y, by simp [hy], rfl⟩
    · rintro ⟨y, hy, rfl⟩
      rcases List.mem_append.1 hy with hy | hy
      · exact ⟨y, hy, rfl⟩
      · rw [List.mem_singleton.1 hy] at e; exact absurd rfl e
theorem readsS_del (F : SKeyFn S pk) {D : DataW Unit} {l l' : List α} (h : ReadsS pk D l) (ok : ∀ q ∈ l, S.ok q) {p : α} (hp : S.ok p) (hm : ∀ q, q ∈ l' ↔ q ∈ l ∧ q ≠ p) : ReadsS pk (D.del (pk p)) l' := fun kl => by
  by_cases e : kl = pk p
  · subst e
    rw [Maps.has_del_same]
    refine ⟨fun h => (by cases h), ?_⟩
    rintro ⟨y, hy, e1⟩
    have := (hm y).1 hy
    exact absurd (F.inj (ok y this.1) hp e1) this.2
  · rw [Maps.has_del_other e, h kl]
    constructor
    · rintro ⟨y, hy, rfl⟩
      exact ⟨y, (hm y).2 ⟨hy, fun e1 => e (by rw [e1])⟩, rfl⟩
    · rintro ⟨y, hy, rfl⟩
      exact ⟨y, ((hm y).1 hy).1, rfl⟩
theorem readsS_has (F : SKeyFn S pk) {D : DataW Unit} {l : List α} (h : ReadsS pk D l) (ok : ∀ q ∈ l, S.ok q) {p : α} (hp : S.ok p) : Maps.has D (pk p) = true ↔ p ∈ l := by
  rw [h]
  constructor
  · rintro ⟨q, hq, e⟩
    rw [← F.inj (ok q hq) hp e]; exact hq
  · exact fun hq => ⟨p, hq, rfl⟩
/-- Of a range that deletes: those that stay, and those that have not come yet. -/
def keepS (pk : α → Lit) (keep : α → Bool) (left : Lit → Bool) (l : List α) : List α := l.filter fun q => keep q || left (pk q)
theorem keepS_start {D : DataW Unit} {l : List α} (h : ReadsS pk D l) (keep : α → Bool) : keepS pk keep (Maps.has D) l = l :=
  List.filter_eq_self.2 (fun q hq => by rw [(h _).2 ⟨q, hq, rfl⟩]; simp)
theorem keepS_end {keep : α → Bool} {left : Lit → Bool} (l : List α) (h : ∀ kl, left kl = false) : keepS pk keep left l = l.filter keep := by
  unfold keepS
  simp [h]
theorem sameS_iff (F : SKeyFn S pk) {a b : α} (ha : S.ok a) (hb : S.ok b) : (pk a).sameKey (pk b) = true ↔ a = b := by
  constructor
  · intro h
    exact F.inj ha hb (WideAt.sameKey_eq h)
  · rintro rfl
    exact WideAt.sameKey_self (F.lit ha)
theorem sameS_no (F : SKeyFn S pk) {a b : α} (ha : S.ok a) (hb : S.ok b) (e : a ≠ b) : (pk a).sameKey (pk b) = false := by
  cases hs : (pk a).sameKey (pk b)
  · rfl
  · exact absurd ((sameS_iff F ha hb).1 hs) e
theorem keepS_strike (F : SKeyFn S pk) {l : List α} (ok : ∀ q ∈ l, S.ok q) {keep : α → Bool} {left : Lit → Bool} {D : DataW Unit} (h : ReadsS pk D (keepS pk keep left l)) {p : α} (hp : S.ok p) (hk : keep p = false) :
    ReadsS pk (D.del (pk p)) (keepS pk keep (fun z => left z && !z.sameKey (pk p)) l) := by
  refine readsS_del F h (fun q hq => ok q (List.mem_filter.1 hq).1) hp (fun y => ?_)
  simp only [keepS, List.mem_filter]
  by_cases hy : y ∈ l
  · by_cases e : y = p
    · subst e
      simp [hk, (sameS_iff F hp hp).2 rfl]
    · simp [hy, e, sameS_no F (ok y hy) hp e]
  · simp [hy]
theorem keepS_stay (F : SKeyFn S pk) {l : List α} (ok : ∀ q ∈ l, S.ok q) {keep : α → Bool} {left : Lit → Bool} {p : α} (hp : S.ok p) (hk : keep p = true) :
    keepS pk keep (fun z => left z && !z.sameKey (pk p)) l = keepS pk keep left l := by
  unfold keepS
  refine List.filter_congr (fun y hy => ?_)
  by_cases e : y = p
  · subst e
    simp [hk]
  · simp [sameS_no F (ok y hy) hp e]
/-- The map in block b is the set of these members. -/
def SetIs (S : SKey α) (w : World) (b n : Nat) (l : List α) : Prop := (∀ q ∈ l, S.ok q) ∧ ∃ pk, SKeyFn S pk ∧ ∃ D : DataW Unit, w.ownsMap Try.prog S.K unitElem b n D ∧ ReadsS pk D l
theorem SetIs.congr {w : World} {b n : Nat} {l l' : List α} (h : SetIs S w b n l) (e : ∀ q, q ∈ l' ↔ q ∈ l) : SetIs S w b n l' :=
  let ⟨ok, pk, F, D, h1, h2⟩ := h
  ⟨fun q hq => ok q ((e q).1 hq), pk, F, D, h1, h2.congr e⟩
theorem SetIs.made (O : S.Ok) (w : World) : SetIs S (w.alloc (.map #[] 0)) w.heap.size 0 [] := by
  obtain ⟨pk, F⟩ := O.fn
  exact ⟨by simp, pk, F, _, World.ownsMap_made _ _ _ _, readsS_nil⟩
theorem SetIs.kept {w w' : World} {b n : Nat} {l : List α} {row : Option Nat} (h : SetIs S w b n l) (hg : w.grownBy w' row) (hne : some b ≠ row) : SetIs S w' b n l :=
  let ⟨ok, pk, F, D, h1, h2⟩ := h
  ⟨ok, pk, F, D, h1.kept hg hne, h2⟩
theorem SetIs.stays {w w' : World} {b n : Nat} {l : List α} (h : SetIs S w b n l) (bel : Below w.heap.size w w') : SetIs S w' b n l := h.kept (grows_below bel) (by simp)
theorem SetIs.but {w w' : World} {b n k : Nat} {l : List α} (h : SetIs S w b n l) (hb : But k w w') (hne : b ≠ k) : SetIs S w' b n l := h.kept hb.grow (by simpa using hne)
theorem SetIs.up {w : World} {b n m : Nat} {l : List α} (h : SetIs S w b n l) (hn : n ≤ m) : SetIs S w b m l :=
  let ⟨ok, pk, F, D, h1, h2⟩ := h
  ⟨ok, pk, F, D, h1.mono hn, h2⟩
theorem SetIs.lt {w : World} {b n : Nat} {l : List α} (h : SetIs S w b n l) : b < w.heap.size := let ⟨_, _, _, _, h1, _⟩ := h; h1.lt
theorem SetIs.blk {w w' : World} {b n : Nat} {l : List α} (h : SetIs S w b n l) (hb : w'.heap[b]? = w.heap[b]?) : SetIs S w' b n l :=
  let ⟨ok, pk, F, D, ⟨es, clock, h1, h2⟩, h3⟩ := h
  ⟨ok, pk, F, D, ⟨es, clock, hb.trans h1, h2⟩, h3⟩
end
/-- Numbers as members. -/
def InK : SKey Int := ⟨3, I64, fun p => .int .i64 p⟩
theorem InK_ok : InK.Ok := by
  have hk := Try.underlying3
  refine ⟨int_keyed hk, fun key kl h => ?_, ⟨fun n => .int .i64 n, fun {p} h => keyOf_int_mk hk (WalkArith.wf_i64 h), fun {p} h => ?_, fun _ _ e => ?_⟩, fun p q e => ?_⟩
  · obtain ⟨x, rfl, _, hw⟩ := Maps.keyOf_int_inv hk h
    refine ⟨x, rfl, ?_⟩
    have := hw
    simp [Lit.wf] at this
    exact this
  · exact (int_keyed hk).key (keyOf_int_mk hk (WalkArith.wf_i64 h))
  · simpa using e
  · have e2 : Value.int .i64 p = .int .i64 q := e
    simpa using e2
theorem zeroU (w : World) : (zeroValue 88).run Try.prog w = .ok (.agg #[]) w := by kernel_rfl
theorem newB8 (w : World) (o : Obj) : (w.alloc o).heap[w.heap.size]? = some o := by show (w.heap.push _)[w.heap.size]? = _; exact Array.getElem?_push_size
theorem lawI : Keyed Try.prog 3 := int_keyed Try.underlying3
open Classical in
noncomputable def inL (l : List Int) (s : Int) : Bool := decide (s ∈ l)
theorem inL_iff {l : List Int} {s : Int} : inL l s = true ↔ s ∈ l := by unfold inL; exact decide_eq_true_iff
theorem SetIs.int {w : World} {b n : Nat} {l : List Int} (h : SetIs InK w b n l) {s : Int} (hs : I64 s) : ∃ (D : DataW Unit) (kl : Lit), w.ownsMap Try.prog 3 unitElem b n D ∧ keyOf Try.prog 3 (.int .i64 s) = some kl ∧ Maps.has D kl = inL l s ∧ (∀ W, W.ownsMap Try.prog 3 unitElem b (n + 1) (D.put kl (.agg [])) → SetIs InK W b (n + 1) (l ++ [s])) ∧ ∀ W, W.ownsMap Try.prog 3 unitElem b n (D.del kl) → SetIs InK W b n (l.filter (fun q => decide (q ≠ s))) := by
  obtain ⟨ok, pk, F, D, hown, hrd⟩ := h
  refine ⟨D, pk s, hown, F.key hs, Bool.eq_iff_iff.2 ((readsS_has F hrd ok hs).trans inL_iff.symm), fun W hW => ⟨fun q hq => ?_, pk, F, _, hW, readsS_put F hown.isMap hrd hs _⟩, fun W hW => ⟨fun q hq => ok q (List.mem_filter.1 hq).1, pk, F, _, hW, readsS_del F hrd ok hs (fun q => by simp [List.mem_filter])⟩⟩
  rcases List.mem_append.1 hq with hq | hq
  · exact ok q hq
  · rw [List.mem_singleton.1 hq]; exact hs
set_option maxRecDepth 100000 in
set_option maxHeartbeats 4000000 in
theorem hasI_any (l : List Int) (s : Int) (w : World) (b n : Nat) (h : SetIs InK w b n l) (hs : I64 s) :
    Calls Try.prog 39 #[.map (some b), .int .i64 s] w fun e w' => e = .returned (.bool (inL l s)) ∧ Below w.heap.size w w' := by
  obtain ⟨D, kl, hown, hkey, hm, _⟩ := h.int hs
  have HM := hideP hm
  obtain ⟨m, hmm⟩ : ∃ m, inL l s = m := ⟨_, rfl⟩
  rw [hmm] at HM ⊢
  have AL2 : Hid (Below w.heap.size w (w.alloc (.cells #[] 88))) := (Below.refl w.heap.size w).alloc (Nat.le_refl _) _
  clear hm hmm h
  go_enter Try.func39, Try.ntmps39
  go_wp2_with (at_lookup; refine wpList_lookup_own_unit _ rfl _ _ 52 rfl 3 88 lawI Try.underlying52 (zeroU _) b n D rfl hown _ _ rfl hkey ?_; rw [HM.out])
  go_ret
  exact ⟨rfl, AL2.out⟩
set_option maxRecDepth 100000 in
set_option maxHeartbeats 4000000 in
theorem addI_any (l us : List Int) (w : World) (b n B : Nat) (v : Value) (h : SetIs InK w b n l) (hv : OwnI w B v us) (hus : ∀ s ∈ us, I64 s) (hn : n ≤ 100000000) (hl : us.length ≤ 1000) :
    Calls Try.prog 53 #[.map (some b), v] w fun e w' => e = .returned (.tuple #[]) ∧ SetIs InK w' b (n + us.length) (l ++ us) ∧ But b w w' := by
  obtain ⟨g, cap, rfl, _⟩ := id hv
  have HV := hideP hv
  have hgb : g ≠ b := fun e => by
    obtain ⟨_, _, cur, hv2, _, hh, _⟩ := hv.parts
    obtain ⟨_, _, _, _, ⟨es, clock, h1, _⟩, _⟩ := h
    injection hv2 with e1
    injection e1 with e1
    injection e1 with e1
    subst e1
    rw [e, h1] at hh
    cases hh
  have HS := hideP h
  have HU := hideP hus
  have hu : unitElem (H := Unit) (.agg #[]) = some (.agg [], []) := unitElem_mk
  obtain ⟨N, hN⟩ : ∃ N, us.length = N := ⟨_, rfl⟩
  have HN := hideP hN
  rw [hN] at hl ⊢
  clear h hv hus hN
  go_enter Try.func53, Try.ntmps53
  go_wp2
  go_loopg [8] N (fun gk ix wr => ∃ k : Nat, gk + k = N ∧ ix = .int .i64 k ∧ Hid (SetIs InK wr b (n + k) (l ++ us.take k)) ∧ Hid (But b w wr))
  case atStart => exact ⟨0, by simp, rfl, by show SetIs _ _ _ _ _; simp; exact HS.out, But.refl _ _⟩
  case round =>
    obtain ⟨k, hk, rfl, hS, hB⟩ := hrel
    by_cases hlt : k < N
    · have hkl : k < us.length := by rw [HN.out]; exact hlt
      obtain ⟨s, hs⟩ : ∃ s, us[k] = s := ⟨_, rfl⟩
      have x0 := ints_at (HV.out.butG hB.out (by simp [Value.ownBlock]; omega)) k hkl
      rw [hs] at x0
      obtain ⟨D, kl, hown, hkey, _, hput, _⟩ := hS.out.int (HU.out s (by rw [← hs]; exact List.getElem_mem hkl))
      have TK : Hid (us.take (k + 1) = us.take k ++ [s]) := by show _ = _; rw [List.take_succ_eq_append_getElem hkl, hs]
      have PUT := hideP hput
      clear hs hput hS
      go_wp2_with (at_mapUpdate; refine wpList_mapUpdate_in _ rfl _ _ _ 52 rfl 3 88 lawI Try.underlying52 _ b (n + k) _ rfl hown (by unfold maxLen; omega) _ _ _ rfl rfl hkey _ [] hu ?_; intro w5 hown5 hturn5)
      have S5 : Hid (SetIs InK w5 b (n + (k + 1)) (l ++ us.take (k + 1))) := by
        have := PUT.out _ hown5
        rw [TK.out, ← List.append_assoc, ← Nat.add_assoc]
        exact this
      have B5 := hideP (hB.out.twice (But.ofG hturn5.grown))
      clear hown5 hturn5 hown PUT TK hB x0
      go_wp2
      go_roundg (N - (k + 1))
      case rel => exact ⟨k + 1, by omega, by go_num, S5.out, B5.out⟩
      case measure => omega
    · have hkn : k = N := by omega
      subst hkn
      have E : Hid (SetIs InK wr b (n + k) (l ++ us)) := by
        have := hS.out
        rw [show us.take k = us by rw [← HN.out]; exact List.take_length] at this
        exact this
      go_wp2
      go_end0
      exact ⟨rfl, E.out, hB.out⟩
end Go.Proofs.Ytooaoankloocmab

/- Rows of lists of numbers, and of sets (written by wip/mkseth.py). -/
namespace Go.Proofs.Ytooaoankloocmab
open Go.ChangeShapes Go.WideShapes Go.ChangeAt Go.RowKit Go.Maps
def SetMade (w : World) (N : Nat) (P : Int → Prop) (e : Ending) (w' : World) : Prop := ∃ m n l, e = .returned (.map (some m)) ∧ w.heap.size ≤ m ∧ SetIs InK w' m n l ∧ n ≤ N ∧ (∀ s, s ∈ l ↔ P s) ∧ Below w.heap.size w w'
/-- A list of numbers that a call owns, or nil. -/
def NumN (w : World) (lo : Nat) (v : Value) (l : List Int) : Prop := (v = .slice none 0 0 ∧ l = []) ∨ OwnI w lo v l
theorem NumN.keep {w w' : World} {lo : Nat} {v : Value} {l : List Int} (h : NumN w lo v l) (hk : ∀ g, v.ownBlock = some g → g < w.heap.size → w'.heap[g]? = w.heap[g]?) : NumN w' lo v l := by
  rcases h with h | h
  · exact Or.inl h
  · right
    obtain ⟨g, cap, cur, rfl, hB, hh, hc, hm, hs, hx⟩ := h.parts
    exact OwnI.of_parts hB ((hk g rfl (hltP hh)).trans hh) hc hm hs hx
theorem NumN.low {w : World} {lo : Nat} {v : Value} {l : List Int} (h : NumN w lo v l) : ∀ b, v.ownBlock = some b → lo ≤ b ∧ b < w.heap.size ∧ ∃ cur, w.heap[b]? = some (.cells cur 3 (0, 0)) := fun b hb => by
  rcases h with ⟨rfl, _⟩ | h
  · cases hb
  · obtain ⟨g, cap, cur, rfl, hB, hh, _⟩ := h.parts
    have : g = b := by simpa [Value.ownBlock] using hb
    subst this
    exact ⟨hB, hltP hh, cur, hh⟩
theorem run_appN {w : World} {lo : Nat} {v : Value} {l : List Int} {x : Int} {b o cap2 : Nat} (ty : TypeId) (h1 : NumN w lo v l) (h2 : w.cell? ⟨b, o, none⟩ = some (.int .i64 x)) (hn : l.length + 1 ≤ 8000000) (hB : lo ≤ w.heap.size) :
    ∃ v' w', (Builtin.append_ #[22, 22] ty #[v, .slice (some ⟨b, o, none⟩) 1 cap2]).run Try.prog w = .ok v' w' ∧ OwnI w' lo v' (l ++ [x]) ∧ w.grownBy w' v.ownBlock ∧ (v'.ownBlock = v.ownBlock ∨ v'.ownBlock = some w.heap.size) := by
  rcases h1 with ⟨rfl, rfl⟩ | h1
  · obtain ⟨i0, hi, hz0, hz1, hz2⟩ := info_parts infoInt
    obtain ⟨v', w', hr, ho, hg, hnil, hloc⟩ := run_append_own_at (P := Try.prog) w lo 22 ty 3 i0 (.int .i64 0) 1 8 Try.underlying22 hi hz0 hz1 hz2 rfl (by omega) (.slice none 0 0) 0 [] (World.ownsRow_nil _ _ _ _) ⟨b, o, none⟩ 1 cap2 [.int .i64 x] rfl (fun j u hj => by
      have hj0 : j = 0 := by have := (List.getElem?_eq_some_iff.1 hj).1; simpa using this
      subst hj0
      simp at hj
      rw [addr_add', Nat.add_zero, h2, hj]) (fun u hu => by simp at hu; rw [hu]; rfl) (by unfold maxLen; omega) (by omega) hB
    refine ⟨v', w', hr, ?_, hg, hloc⟩
    obtain ⟨_, ⟨h0, _⟩ | ⟨g', cap', _, hv', _⟩⟩ := id ho
    · have := (hnil.1 h0).2; omega
    · exact ⟨g', cap', hv', by simpa using ho⟩
  · exact run_appI (l2 := [x]) ty h1 (fun j hj => by
      have hj0 : j = 0 := by simpa using hj
      subst hj0
      simpa using h2) (by simpa using hn) hB
theorem step_appN {ops : Array Oper} {o : Oper} {a : Act} {Q : Exit → Act → World → Prop} {K : Act → World → Prop} {F : Prop} (w : World) (hgd : o.guard = none) (s y : Operand) (ho : o.op = .call { callee := .builtin .append, args := #[s, y], argTypes := #[22, 22] })
    (lo : Nat) (v : Value) (l : List Int) (x : Int) (b o2 cap2 : Nat) (hs : a.eval s = v) (hx : a.eval y = .slice (some ⟨b, o2, none⟩) 1 cap2) (h1 : NumN w lo v l) (h2 : w.cell? ⟨b, o2, none⟩ = some (.int .i64 x)) (hn : l.length + 1 ≤ 8000000) (hB : lo ≤ w.heap.size)
    (h : ∀ v' w', OwnI w' lo v' (l ++ [x]) → w.grownBy w' v.ownBlock → (v'.ownBlock = v.ownBlock ∨ v'.ownBlock = some w.heap.size) → K (a.put o.dst v') w') :
    if Region.wanted o (yielded ops a.tmps) = true then Oper.wp Try.prog o a w K Q else F := by
  have hw : Region.wanted o (yielded ops a.tmps) = true := by simp [Region.wanted, hgd]
  rw [if_pos hw]
  obtain ⟨v', w', hr, r1, r2, r3⟩ := run_appN (cap2 := cap2) o.type h1 h2 hn hB
  unfold Oper.wp execOp
  simp only [ho, resolve, invoke, builtin, Sem.run_bind, Sem.run_pure, Result.andThen_ok, List.map_toArray, List.map_cons, List.map_nil, hs, hx, hr]
  exact h v' w' r1 r2 r3
/-- Row ga: for each block a list of numbers, each in a block of its own. -/
structure AhAt (lo n ga : Nat) (av : Nat → Value) (pre : Nat → List Int) (W : World) : Prop where
  row : ∃ cur, W.heap[ga]? = some (.cells cur 22 (0, 0)) ∧ cur.size = n ∧ ∀ t, t < n → cur[t]? = some (av t)
  own : ∀ t, t < n → NumN W lo (av t) (pre t)
  dis : ∀ t u, t < n → u < n → t ≠ u → ∀ g, (av t).ownBlock = some g → (av u).ownBlock ≠ some g
section
variable {lo n ga : Nat} {av : Nat → Value} {pre : Nat → List Int} {W W' : World}
theorem AhAt.keep (h : AhAt lo n ga av pre W) (hk : ∀ (g : Nat) c T, W.heap[g]? = some (.cells c T (0, 0)) → (T = 3 ∨ T = 22) → W'.heap[g]? = W.heap[g]?) : AhAt lo n ga av pre W' := by
  obtain ⟨cur, h1, h2⟩ := h.row
  refine ⟨⟨cur, (hk ga _ _ h1 (Or.inr rfl)).trans h1, h2⟩, fun t ht => (h.own t ht).keep (fun g hg _ => ?_), h.dis⟩
  obtain ⟨_, _, c, hc⟩ := (h.own t ht).low g hg
  exact hk g _ _ hc (Or.inl rfl)
theorem AhAt.stays (h : AhAt lo n ga av pre W) (b : Below W.heap.size W W') : AhAt lo n ga av pre W' := h.keep (fun g _ _ hg _ => b.block g (hltP hg))
theorem AhAt.other (h : AhAt lo n ga av pre W) {b : Nat} (hb : But b W W') (hne : ∀ c T, W.heap[b]? = some (.cells c T (0, 0)) → ¬ (T = 3 ∨ T = 22)) : AhAt lo n ga av pre W' := h.keep (fun g c T hg hT => hb.block g (hltP hg) (fun e => by subst e; exact hne c T hg hT))
theorem AhAt.at (h : AhAt lo n ga av pre W) {t : Nat} (ht : t < n) : W.cell? ⟨ga, t, none⟩ = some (av t) ∧ ∀ i, W.frozen? ⟨ga, i, none⟩ = false := by
  obtain ⟨cur, h1, _, h3⟩ := h.row
  exact ⟨by simp only [World.cell?, h1]; exact h3 t ht, (cells_of h1).2⟩
/-- One number more in list t. -/
theorem AhAt.app (h : AhAt lo n ga av pre W) {t : Nat} (ht : t < n) {W1 W2 : World} (b1 : Below W.heap.size W W1) {v' : Value} {x : Int} (ho : OwnI W2 lo v' (pre t ++ [x])) (hg : W1.grownBy W2 (av t).ownBlock) (hl : v'.ownBlock = (av t).ownBlock ∨ v'.ownBlock = some W1.heap.size) :
    AhAt lo n ga (fun u => if u = t then v' else av u) (fun u => if u = t then pre t ++ [x] else pre u) (W2.setCell ⟨ga, t, none⟩ v') := by
  have h1 := h.stays b1
  obtain ⟨cur, r1, r2, r3⟩ := h1.row
  have hga : (av t).ownBlock ≠ some ga := fun e => by
    obtain ⟨_, _, c, hc⟩ := (h1.own t ht).low ga e
    rw [r1] at hc
    injection hc with hc
    injection hc with _ e2
    exact absurd e2 (by decide)
  have r1' : W2.heap[ga]? = some (.cells cur 22 (0, 0)) := (hg.block _ (hltP r1) (fun e => hga e.symm)).trans r1
  have hb : But ga W2 (W2.setCell ⟨ga, t, none⟩ v') := (But.refl ga W2).set _ _
  have notga : ∀ g, v'.ownBlock = some g → g ≠ ga := fun g hg2 e => by
    subst e
    rcases hl with hl | hl
    · rw [hl] at hg2; exact hga hg2
    · rw [hl] at hg2
      have : W1.heap.size = g := by simpa using hg2
      have := hltP r1
      omega
  refine ⟨⟨cur.setIfInBounds t v', heap_setCell_same W2 ga t cur _ _ r1', by simpa using r2, fun u hu => ?_⟩, fun u hu => ?_, fun u s hu hs hus g hg1 => ?_⟩
  · rw [Array.getElem?_setIfInBounds]
    by_cases e : t = u
    · subst e
      rw [if_pos rfl, if_pos (by omega), if_pos rfl]
    · rw [if_neg e, if_neg (fun e2 => e e2.symm)]
      exact r3 u hu
  · by_cases e : u = t
    · subst e
      simp only [if_pos]
      exact NumN.keep (Or.inr ho) (fun g hg2 hlt => hb.block g hlt (notga g hg2))
    · simp only [if_neg e]
      refine (h1.own u hu).keep (fun g hg2 hlt => ?_)
      have hne : g ≠ ga := fun e2 => by
        subst e2
        obtain ⟨_, _, c, hc⟩ := (h1.own u hu).low g hg2
        rw [r1] at hc
        injection hc with hc
        injection hc with _ e2
        exact absurd e2 (by decide)
      have hnt : (av t).ownBlock ≠ some g := fun e2 => h.dis t u ht hu (fun e3 => e e3.symm) g e2 hg2
      exact (hb.block g (Nat.lt_of_lt_of_le hlt hg.size) hne).trans (hg.block g hlt (fun e2 => hnt e2.symm))
  · by_cases e1 : u = t
    · subst e1
      simp only [if_pos] at hg1
      rw [if_neg (fun e2 => hus e2.symm)]
      intro h2
      rcases hl with hl | hl
      · rw [hl] at hg1
        exact h.dis u s hu hs hus g hg1 h2
      · rw [hl] at hg1
        have e3 : W1.heap.size = g := by simpa using hg1
        have := ((h1.own s hs).low g h2).2.1
        omega
    · simp only [if_neg e1] at hg1
      by_cases e2 : s = t
      · subst e2
        rw [if_pos rfl]
        intro h2
        rcases hl with hl | hl
        · rw [hl] at h2
          exact h.dis s u hs hu (fun e3 => hus e3.symm) g h2 hg1
        · rw [hl] at h2
          have e3 : W1.heap.size = g := by simpa using h2
          have := ((h1.own u hu).low g hg1).2.1
          omega
      · rw [if_neg e2]
        exact h.dis u s hu hs hus g hg1
end
/-- Row gm: the first k cells name sets, each in a block of its own. -/
structure BhAt (lo n gm : Nat) (ms : Nat → Nat) (k : Nat) (c : Nat → Nat) (ls : Nat → List Int) (W : World) : Prop where
  row : ∃ cur, W.heap[gm]? = some (.cells cur 52 (0, 0)) ∧ cur.size = n ∧ (∀ i, i < k → cur[i]? = some (.map (some (ms i))))
  set : ∀ i, i < k → SetIs InK W (ms i) (c i) (ls i) ∧ lo ≤ ms i
  dis : ∀ i j, i < k → j < k → i ≠ j → ms i ≠ ms j
section
variable {lo n gm : Nat} {ms : Nat → Nat} {k : Nat} {c c' : Nat → Nat} {ls ls' : Nat → List Int} {W W' : World}
theorem SetIs.isMap {w : World} {b n : Nat} {l : List Int} (h : SetIs InK w b n l) : ∃ es clock, w.heap[b]? = some (.map es clock) := let ⟨_, _, _, _, ⟨es, clock, h1, _⟩, _⟩ := h; ⟨es, clock, h1⟩
theorem BhAt.keep (h : BhAt lo n gm ms k c ls W) (hm : ∀ (g : Nat) es cl, W.heap[g]? = some (.map es cl) → W'.heap[g]? = W.heap[g]?) (hc : ∀ (g : Nat) c, W.heap[g]? = some (.cells c 52 (0, 0)) → W'.heap[g]? = W.heap[g]?) : BhAt lo n gm ms k c ls W' := by
  obtain ⟨cur, h1, h2⟩ := h.row
  refine ⟨⟨cur, (hc gm _ h1).trans h1, h2⟩, fun i hi => ⟨?_, (h.set i hi).2⟩, h.dis⟩
  obtain ⟨es, cl, h3⟩ := (h.set i hi).1.isMap
  exact (h.set i hi).1.blk (hm _ _ _ h3)
theorem BhAt.stays (h : BhAt lo n gm ms k c ls W) (b : Below W.heap.size W W') : BhAt lo n gm ms k c ls W' := h.keep (fun g _ _ hg => b.block g (hltP hg)) (fun g _ hg => b.block g (hltP hg))
theorem BhAt.other (h : BhAt lo n gm ms k c ls W) {b : Option Nat} (hb : W.grownBy W' b) (hne : ∀ g, b = some g → ∃ c T, W.heap[g]? = some (.cells c T (0, 0)) ∧ T ≠ 52) : BhAt lo n gm ms k c ls W' := by
  refine h.keep (fun g _ _ hg => hb.block g (hltP hg) (fun e => ?_)) (fun g _ hg => hb.block g (hltP hg) (fun e => ?_))
  · obtain ⟨c, T, h1, _⟩ := hne g e.symm
    rw [hg] at h1; cases h1
  · obtain ⟨c, T, h1, h2⟩ := hne g e.symm
    rw [hg] at h1
    injection h1 with h1
    injection h1 with _ e2
    exact h2 e2.symm
theorem BhAt.at (h : BhAt lo n gm ms k c ls W) {i : Nat} (hi : i < k) : W.cell? ⟨gm, i, none⟩ = some (.map (some (ms i))) := by
  obtain ⟨cur, h1, _, h3⟩ := h.row
  simp only [World.cell?, h1]; exact h3 i hi
/-- One set is written. -/
theorem BhAt.put (h : BhAt lo n gm ms k c ls W) {i : Nat} (hi : i < k) (hb : But (ms i) W W') (hs : SetIs InK W' (ms i) (c' i) (ls' i)) (e : ∀ j, j ≠ i → c' j = c j ∧ ls' j = ls j) : BhAt lo n gm ms k c' ls' W' := by
  obtain ⟨cur, h1, h2⟩ := h.row
  have hne : gm ≠ ms i := fun e => by
    obtain ⟨es, cl, h3⟩ := (h.set i hi).1.isMap
    rw [← e, h1] at h3; cases h3
  refine ⟨⟨cur, (hb.block gm (hltP h1) hne).trans h1, h2⟩, fun j hj => ⟨?_, (h.set j hj).2⟩, h.dis⟩
  by_cases e1 : j = i
  · subst e1; exact hs
  · rw [(e j e1).1, (e j e1).2]
    exact (h.set j hj).1.blk (hb.block _ (h.set j hj).1.lt (h.dis j i hj hi e1))
/-- One set more. -/
theorem BhAt.more (h : BhAt lo n gm ms k c ls W) (hk : k < n) (hlo : lo ≤ W.heap.size) (hc : c k = 0) (hls : ls k = []) : BhAt lo n gm (fun i => if i = k then W.heap.size else ms i) (k + 1) c ls ((W.alloc (.map #[] 0)).setCell ⟨gm, k, none⟩ (.map (some W.heap.size))) := by
  have b1 : Below W.heap.size W (W.alloc (.map #[] 0)) := (Below.refl W.heap.size W).alloc (Nat.le_refl _) _
  have h1 := h.stays b1
  obtain ⟨cur, r1, r2, r3⟩ := h1.row
  obtain ⟨cur0, q1, _⟩ := h.row
  have hb : But gm (W.alloc (.map #[] 0)) ((W.alloc (.map #[] 0)).setCell ⟨gm, k, none⟩ (.map (some W.heap.size))) := (But.refl gm _).set _ _
  have hgm := hltP q1
  refine ⟨⟨cur.setIfInBounds k (.map (some W.heap.size)), heap_setCell_same _ gm k cur _ _ r1, by simpa using r2, fun i hi => ?_⟩, fun i hi => ?_, fun i j hi hj hij => ?_⟩
  · rw [Array.getElem?_setIfInBounds]
    by_cases e : k = i
    · subst e
      rw [if_pos rfl, if_pos (by omega), if_pos rfl]
    · rw [if_neg e, if_neg (fun e2 => e e2.symm)]
      exact r3 i (by omega)
  · by_cases e : i = k
    · subst e
      simp only [if_pos]
      refine ⟨?_, hlo⟩
      rw [hc, hls]
      exact (SetIs.made InK_ok W).blk (hb.block _ (by simp) (by omega))
    · simp only [if_neg e]
      obtain ⟨s1, s2⟩ := h1.set i (by omega)
      refine ⟨s1.blk (hb.block _ s1.lt (fun e2 => ?_)), s2⟩
      obtain ⟨es, cl, h3⟩ := s1.isMap
      rw [e2, r1] at h3; cases h3
  · have key : ∀ a, a < k → ms a ≠ W.heap.size := fun a ha => by have := (h.set a ha).1.lt; omega
    by_cases e1 : i = k
    · subst e1
      rw [if_pos rfl, if_neg (fun e2 => hij e2.symm)]
      exact fun e2 => key j (by omega) e2.symm
    · rw [if_neg e1]
      by_cases e2 : j = k
      · subst e2
        rw [if_pos rfl]
        exact key i (by omega)
      · rw [if_neg e2]
        exact h.dis i j (by omega) (by omega) hij
end
theorem newB9 (w : World) (o : Obj) : ∀ (b : Nat) (ob : Obj), w.heap[b]? = some ob → (w.alloc o).heap[b]? = some ob := fun b _ h => (((Below.refl w.heap.size w).alloc (Nat.le_refl _) o).block b (hltP h)).trans h
theorem made_one (z : Value) (n : Nat) : ∀ t, t < n → (madeCells #[z] n)[t]? = some z := fun t ht => by simp [madeCells, ht, Nat.mod_one]
theorem infoIS : (Try.prog.info? 22).map (fun i => (i.zero, i.size, i.bytes)) = some (some (.slice none 0 0), 1, 24) := by kernel_rfl
theorem infoSI : (Try.prog.info? 52).map (fun i => (i.zero, i.size, i.bytes)) = some (some (.map none), 1, 8) := by kernel_rfl
theorem make_ints (n : Nat) (hn : n ≤ 1000) (W : World) : (Instr.makeSlice 48 (.int .i64 (n : Int)) (.int .i64 (n : Int))).run Try.prog W = .ok (.slice (some ⟨W.heap.size, 0, none⟩) n n) (W.alloc (.cells (madeCells #[.slice none 0 0] n) 22)) := by
  have := make_n (P := Try.prog) Try.underlying48 infoIS n (by omega) (by omega) W
  rw [Nat.mul_one] at this
  exact this
theorem make_sets (n : Nat) (hn : n ≤ 1000) (W : World) : (Instr.makeSlice 81 (.int .i64 (n : Int)) (.int .i64 (n : Int))).run Try.prog W = .ok (.slice (some ⟨W.heap.size, 0, none⟩) n n) (W.alloc (.cells (madeCells #[.map none] n) 52)) := by
  have := make_n (P := Try.prog) Try.underlying81 infoSI n (by omega) (by omega) W
  rw [Nat.mul_one] at this
  exact this
end Go.Proofs.Ytooaoankloocmab

/- A row's list put anew; a set put into a row of sets (written by wip/mkahh.py). -/
namespace Go.Proofs.Ytooaoankloocmab
open Go.ChangeShapes Go.WideShapes Go.ChangeAt Go.RowKit Go.Maps
section
variable {lo n ga : Nat} {av : Nat → Value} {pre : Nat → List Int} {W W' : World}
/-- List t put anew. -/
theorem AhAt.putL (h : AhAt lo n ga av pre W) {t : Nat} (ht : t < n) {W1 W2 : World} (b1 : Below W.heap.size W W1) {v' : Value} {l : List Int} (ho : OwnI W2 lo v' l) (hg : W1.grownBy W2 (av t).ownBlock) (hl : v'.ownBlock = (av t).ownBlock ∨ ∃ q, v'.ownBlock = some q ∧ W1.heap.size ≤ q) :
    AhAt lo n ga (fun u => if u = t then v' else av u) (fun u => if u = t then l else pre u) (W2.setCell ⟨ga, t, none⟩ v') := by
  have h1 := h.stays b1
  obtain ⟨cur, r1, r2, r3⟩ := h1.row
  have hga : (av t).ownBlock ≠ some ga := fun e => by
    obtain ⟨_, _, c, hc⟩ := (h1.own t ht).low ga e
    rw [r1] at hc
    injection hc with hc
    injection hc with _ e2
    exact absurd e2 (by decide)
  have r1' : W2.heap[ga]? = some (.cells cur 22 (0, 0)) := (hg.block _ (hltP r1) (fun e => hga e.symm)).trans r1
  have hb : But ga W2 (W2.setCell ⟨ga, t, none⟩ v') := (But.refl ga W2).set _ _
  have notga : ∀ g, v'.ownBlock = some g → g ≠ ga := fun g hg2 e => by
    subst e
    rcases hl with hl | ⟨q, hl, hq⟩
    · rw [hl] at hg2; exact hga hg2
    · rw [hl] at hg2
      have : q = g := by simpa using hg2
      have := hltP r1
      omega
  refine ⟨⟨cur.setIfInBounds t v', heap_setCell_same W2 ga t cur _ _ r1', by simpa using r2, fun u hu => ?_⟩, fun u hu => ?_, fun u s hu hs hus g hg1 => ?_⟩
  · rw [Array.getElem?_setIfInBounds]
    by_cases e : t = u
    · subst e
      rw [if_pos rfl, if_pos (by omega), if_pos rfl]
    · rw [if_neg e, if_neg (fun e2 => e e2.symm)]
      exact r3 u hu
  · by_cases e : u = t
    · subst e
      simp only [if_pos]
      exact NumN.keep (Or.inr ho) (fun g hg2 hlt => hb.block g hlt (notga g hg2))
    · simp only [if_neg e]
      refine (h1.own u hu).keep (fun g hg2 hlt => ?_)
      have hne : g ≠ ga := fun e2 => by
        subst e2
        obtain ⟨_, _, c, hc⟩ := (h1.own u hu).low g hg2
        rw [r1] at hc
        injection hc with hc
        injection hc with _ e2
        exact absurd e2 (by decide)
      have hnt : (av t).ownBlock ≠ some g := fun e2 => h.dis t u ht hu (fun e3 => e e3.symm) g e2 hg2
      exact (hb.block g (Nat.lt_of_lt_of_le hlt hg.size) hne).trans (hg.block g hlt (fun e2 => hnt e2.symm))
  · by_cases e1 : u = t
    · subst e1
      simp only [if_pos] at hg1
      rw [if_neg (fun e2 => hus e2.symm)]
      intro h2
      rcases hl with hl | ⟨q, hl, hq⟩
      · rw [hl] at hg1
        exact h.dis u s hu hs hus g hg1 h2
      · rw [hl] at hg1
        have e3 : q = g := by simpa using hg1
        have := ((h1.own s hs).low g h2).2.1
        omega
    · simp only [if_neg e1] at hg1
      by_cases e2 : s = t
      · subst e2
        rw [if_pos rfl]
        intro h2
        rcases hl with hl | ⟨q, hl, hq⟩
        · rw [hl] at h2
          exact h.dis s u hs hu (fun e3 => hus e3.symm) g h2 hg1
        · rw [hl] at h2
          have e3 : q = g := by simpa using h2
          have := ((h1.own u hu).low g hg1).2.1
          omega
      · rw [if_neg e2]
        exact h.dis u s hu hs hus g hg1
theorem grows_any {w w' : World} {row : Option Nat} (h : Below w.heap.size w w') : w.grownBy w' row := ⟨h.os, h.tape, h.output, h.size, fun k hk _ => h.block k hk⟩
theorem AhAt.congr {pre' : Nat → List Int} (h : AhAt lo n ga av pre W) (e : ∀ t, t < n → pre t = pre' t) : AhAt lo n ga av pre' W := ⟨h.row, fun t ht => by rw [← e t ht]; exact h.own t ht, h.dis⟩
theorem AhAt.congrA {av' : Nat → Value} (h : AhAt lo n ga av pre W) (e : ∀ t, t < n → av t = av' t) : AhAt lo n ga av' pre W := by
  obtain ⟨cur, h1, h2, h3⟩ := h.row
  exact ⟨⟨cur, h1, h2, fun t ht => by rw [← e t ht]; exact h3 t ht⟩, fun t ht => by rw [← e t ht]; exact h.own t ht, fun t u ht hu => by rw [← e t ht, ← e u hu]; exact h.dis t u ht hu⟩
theorem AhAt.mono {lo' : Nat} (h : AhAt lo n ga av pre W) (hl : lo' ≤ lo) : AhAt lo' n ga av pre W := ⟨h.row, fun t ht => (h.own t ht).elim Or.inl (fun h2 => Or.inr (h2.mono hl)), h.dis⟩
theorem ahAt_made (w : World) (n lo : Nat) : AhAt lo n w.heap.size (fun _ => .slice none 0 0) (fun _ => []) (w.alloc (.cells (madeCells #[.slice none 0 0] n) 22)) :=
  ⟨⟨_, newB8 w _, size_madeCells _ _, made_one _ n⟩, fun _ _ => Or.inl ⟨rfl, rfl⟩, fun _ _ _ _ _ g hg => by cases hg⟩
end
section
variable {lo n gm : Nat} {ms : Nat → Nat} {k : Nat} {c c' : Nat → Nat} {ls ls' : Nat → List Int} {W W1 : World}
/-- One set more, which a call made. -/
theorem BhAt.add (h : BhAt lo n gm ms k c ls W) (hk : k < n) (b1 : Below W.heap.size W W1) {b m : Nat} {l : List Int} (hs : SetIs InK W1 b m l) (hb : W.heap.size ≤ b) (hlo : lo ≤ W.heap.size) (e1 : ∀ i, i < k → c' i = c i ∧ ls' i = ls i) (e2 : c' k = m ∧ ls' k = l) :
    BhAt lo n gm (fun i => if i = k then b else ms i) (k + 1) c' ls' (W1.setCell ⟨gm, k, none⟩ (.map (some b))) := by
  have h1 := h.stays b1
  obtain ⟨cur, r1, r2, r3⟩ := h1.row
  have hbt : But gm W1 (W1.setCell ⟨gm, k, none⟩ (.map (some b))) := (But.refl gm _).set _ _
  have hne : ∀ {q m l}, SetIs InK W1 q m l → q ≠ gm := fun hq e => by
    obtain ⟨es, cl, h3⟩ := hq.isMap
    rw [e, r1] at h3; cases h3
  refine ⟨⟨cur.setIfInBounds k (.map (some b)), heap_setCell_same _ gm k cur _ _ r1, by simpa using r2, fun i hi => ?_⟩, fun i hi => ?_, fun i j hi hj hij => ?_⟩
  · rw [Array.getElem?_setIfInBounds]
    by_cases e : k = i
    · subst e
      rw [if_pos rfl, if_pos (by omega), if_pos rfl]
    · rw [if_neg e, if_neg (fun e2 => e e2.symm)]
      exact r3 i (by omega)
  · by_cases e : i = k
    · subst e
      simp only [if_pos]
      rw [e2.1, e2.2]
      exact ⟨hs.blk (hbt.block _ hs.lt (hne hs)), by omega⟩
    · simp only [if_neg e]
      rw [(e1 i (by omega)).1, (e1 i (by omega)).2]
      obtain ⟨s1, s2⟩ := h1.set i (by omega)
      exact ⟨s1.blk (hbt.block _ s1.lt (hne s1)), s2⟩
  · have key : ∀ a, a < k → ms a ≠ b := fun a ha => by have := (h.set a ha).1.lt; omega
    by_cases e1 : i = k
    · subst e1
      rw [if_pos rfl, if_neg (fun e2 => hij e2.symm)]
      exact fun e2 => key j (by omega) e2.symm
    · rw [if_neg e1]
      by_cases e2 : j = k
      · subst e2
        rw [if_pos rfl]
        exact key i (by omega)
      · rw [if_neg e2]
        exact h.dis i j (by omega) (by omega) hij
theorem bhAt_made (w : World) (n lo : Nat) (ms c : Nat → Nat) (ls : Nat → List Int) : BhAt lo n w.heap.size ms 0 c ls (w.alloc (.cells (madeCells #[.map none] n) 52)) :=
  ⟨⟨_, newB8 w _, size_madeCells _ _, fun _ hi => absurd hi (Nat.not_lt_zero _)⟩, fun _ hi => absurd hi (Nat.not_lt_zero _), fun _ _ hi => absurd hi (Nat.not_lt_zero _)⟩
end
end Go.Proofs.Ytooaoankloocmab

/- A range over a set of numbers: which have come. -/
namespace Go.Proofs.Ytooaoankloocmab
open Go.ChangeShapes Go.WideShapes Go.ChangeAt Go.RowKit Go.Maps
/-- Block r goes over the set l in block b; dn have come. -/
def RgS (w : World) (b r n : Nat) (l dn : List Int) (cnt : Nat) : Prop := (∀ q ∈ l, I64 q) ∧ ∃ (pk : Int → Lit) (D : DataW Unit) (left : Lit → Bool), SKeyFn InK pk ∧ ReadsS pk D l ∧ w.ranges Try.prog 3 unitElem b r n D left cnt ∧ (∀ q ∈ l, left (pk q) = true ↔ ¬ q ∈ dn) ∧ (∀ kl, left kl = true → ∃ q ∈ l, pk q = kl) ∧ (∀ q ∈ dn, q ∈ l) ∧ cnt + dn.length ≤ n
section
variable {w w' : World} {b r n cnt : Nat} {l dn : List Int}
theorem RgS.kept {row : Option Nat} (h : RgS w b r n l dn cnt) (hg : w.grownBy w' row) (hb : some b ≠ row) (hr : some r ≠ row) : RgS w' b r n l dn cnt :=
  let ⟨h0, pk, D, left, h1, h2, h3, h4⟩ := h
  ⟨h0, pk, D, left, h1, h2, h3.kept hg hb hr, h4⟩
theorem RgS.stays (h : RgS w b r n l dn cnt) (bel : Below w.heap.size w w') : RgS w' b r n l dn cnt := h.kept (grows_below bel) (by simp) (by simp)
theorem RgS.left_eq (h : RgS w b r n l dn cnt) : w.rangeLeft b r = cnt := let ⟨_, _, _, _, _, _, h3, _⟩ := h; h3.left_eq
theorem RgS.lt (h : RgS w b r n l dn cnt) : r < w.heap.size := let ⟨_, _, _, _, _, _, h3, _⟩ := h; h3.lt
theorem RgS.keepO (h : RgS w b r n l dn cnt) (hg : w.grownBy w' (some r)) {g : Nat} {o : Obj} (ho : w.heap[g]? = some o) (hn : ∀ a s e c, o ≠ .mapIter a s e c) : w'.heap[g]? = w.heap[g]? := by
  obtain ⟨_, _, _, _, _, _, ⟨es, clock, since, seen, c0, _, _, _, _, hr, _⟩, _⟩ := h
  refine hg.block g (hltP ho) (fun e => ?_)
  injection e with e
  subst e
  rw [ho] at hr
  injection hr with hr
  exact hn _ _ _ _ hr
theorem RgS.set (h : RgS w b r n l dn cnt) : SetIs InK w b n l := let ⟨h0, pk, D, _, h1, h2, h3, _⟩ := h; ⟨h0, pk, h1, D, h3.owns, h2⟩
theorem RgS.sub (h : RgS w b r n l dn cnt) : ∀ q ∈ dn, q ∈ l := let ⟨_, _, _, _, _, _, _, _, _, h6, _⟩ := h; h6
theorem RgS.few (h : RgS w b r n l dn cnt) : cnt + dn.length ≤ n := let ⟨_, _, _, _, _, _, _, _, _, _, h7⟩ := h; h7
end
theorem rgs_range {ops : Array Oper} {o : Oper} {a : Act} {Q : Exit → Act → World → Prop} {rest : List Oper} (w : World) (hg : o.guard = none) (m : Operand) (hop : o.op = Op.range 52 m) (b n : Nat) (l : List Int) (hm : a.eval m = .map (some b)) (hs : SetIs InK w b n l)
    (hK : ∀ w' cnt, RgS w' b w.heap.size n l [] cnt → w.grownBy w' none → w'.heap.size = w.heap.size + 1 → wpList Try.prog ops Q rest (a.put o.dst (.pointer (some ⟨w.heap.size, 0, none⟩))) w') : wpList Try.prog ops Q (o :: rest) a w := by
  obtain ⟨ok, pk, F, D, hown, hrd⟩ := hs
  exact wpList_range_own w hg m 52 hop 3 88 lawI Try.underlying52 unitElem b n D hm hown (fun w' h1 h2 h3 => hK w' _ ⟨ok, pk, D, _, F, hrd, h1, fun q hq => ⟨fun _ h => by simp at h, fun _ => (hrd _).2 ⟨q, hq, rfl⟩⟩, fun kl h => (hrd kl).1 h, fun q hq => by simp at hq, by simpa using World.ownsMap.size_le hown⟩ h2 h3)
theorem rgs_next {ops : Array Oper} {o : Oper} {a : Act} {Q : Exit → Act → World → Prop} {rest : List Oper} (w : World) (hg : o.guard = none) (it : Operand) (hop : o.op = Op.next it false) (b r n : Nat) (l dn : List Int) (cnt : Nat) (hit : a.eval it = .pointer (some ⟨r, 0, none⟩)) (h : RgS w b r n l dn cnt)
    (hDone : (∀ q, q ∈ dn ↔ q ∈ l) → wpList Try.prog ops Q rest (a.put o.dst (.tuple #[.bool false])) w)
    (hMore : ∀ (x : Int) (w' : World) (cnt' : Nat), x ∈ l → ¬ x ∈ dn → I64 x → RgS w' b r n l (dn ++ [x]) cnt' → cnt' < cnt → w.grownBy w' (some r) → w'.heap.size = w.heap.size → (Instr.entry (.pointer (some ⟨r, 0, none⟩))).run Try.prog w' = .ok (.tuple #[.int .i64 x, .agg #[]]) w' → wpList Try.prog ops Q rest (a.put o.dst (.tuple #[.bool true, .int .i64 x, .agg #[]])) w') :
    wpList Try.prog ops Q (o :: rest) a w := by
  obtain ⟨ok, pk, D, left, F, hrd, hrg, hl, hl2, hdn, hfw⟩ := h
  refine wpList_next_ranges w hg it hop 3 lawI unitElem (fun x : Int => Value.int .i64 x) (fun _ : Unit => Value.agg #[]) InK_ok.invK invU b r n D left cnt hit hrg (fun _ h0 => hDone (fun q => ⟨hdn q, fun hq => ?_⟩)) (fun x c kl y w' cnt' hkey hlk _ _ hrg1 hlt hg1 hs1 hen => ?_)
  · cases Classical.em (q ∈ dn) with
    | inl h => exact h
    | inr h => exact absurd ((hl q hq).2 h) (by rw [h0]; simp)
  · have hin : I64 x := InK_ok.of_key (p := x) hkey
    have hkl : kl = pk x := Option.some.inj (hkey.symm.trans (F.key hin))
    subst hkl
    obtain ⟨q, hq, e⟩ := hl2 _ hlk
    have e2 := F.inj (ok q hq) hin e
    subst e2
    refine hMore q w' cnt' hq ((hl q hq).1 hlk) hin ⟨ok, pk, D, _, F, hrd, hrg1, fun z hz => ?_, fun kl h => hl2 kl (by simp at h; exact h.1), fun z hz => ?_, by rw [List.length_append, List.length_singleton]; omega⟩ hlt hg1 hs1 hen
    · rw [Bool.and_eq_true, hl z hz, List.mem_append, List.mem_singleton]
      by_cases e : z = q
      · subst e
        simp [(sameS_iff F hin hin).2 rfl]
      · simp [sameS_no F (ok z hz) hin e, e]
    · rcases List.mem_append.1 hz with hz | hz
      · exact hdn z hz
      · rw [List.mem_singleton.1 hz]; exact hq
end Go.Proofs.Ytooaoankloocmab

/- Worlds that differ in blocks of numbers and of lists of numbers alone. -/
namespace Go.Proofs.Ytooaoankloocmab
open Go.ChangeShapes Go.WideShapes Go.ChangeAt Go.RowKit Go.Maps
def NoNum (o : Option Obj) : Prop := ∀ c T, o = some (.cells c T (0, 0)) → T ≠ 3 ∧ T ≠ 22
structure NumT (w w' : World) : Prop where
  os : w'.os = w.os
  tape : w'.tape = w.tape
  output : w'.output = w.output
  size : w.heap.size ≤ w'.heap.size
  block : ∀ k, k < w.heap.size → NoNum w.heap[k]? → w'.heap[k]? = w.heap[k]?
theorem NumT.refl (w : World) : NumT w w := ⟨rfl, rfl, rfl, Nat.le_refl _, fun _ _ _ => rfl⟩
theorem NumT.of_below {w w' : World} (h : Below w.heap.size w w') : NumT w w' := ⟨h.os, h.tape, h.output, h.size, fun k hk _ => h.block k hk⟩
theorem NumT.trans {w w1 w2 : World} (h : NumT w w1) (k : NumT w1 w2) : NumT w w2 :=
  ⟨k.os.trans h.os, k.tape.trans h.tape, k.output.trans h.output, Nat.le_trans h.size k.size, fun i hi hn => by
    have e := h.block i hi hn
    exact (k.block i (Nat.lt_of_lt_of_le hi h.size) (by rw [e]; exact hn)).trans e⟩
theorem NumT.of_grown {w w' : World} {row : Option Nat} (h : w.grownBy w' row) (hr : ∀ g, row = some g → ∃ c T, w.heap[g]? = some (.cells c T (0, 0)) ∧ (T = 3 ∨ T = 22)) : NumT w w' :=
  ⟨h.os, h.tape, h.output, h.size, fun k hk hn => h.block k hk (fun e => by
    obtain ⟨c, T, h1, h2⟩ := hr k e.symm
    have := hn c T h1
    rcases h2 with h2 | h2
    · exact this.1 h2
    · exact this.2 h2)⟩
theorem NumT.of_set {w : World} {g i : Nat} {c : Array Value} {T : TypeId} (h : w.heap[g]? = some (.cells c T (0, 0))) (hT : T = 3 ∨ T = 22) (v : Value) : NumT w (w.setCell ⟨g, i, none⟩ v) :=
  NumT.of_grown (((But.refl g w).set i v).grow) (fun g' e => by injection e with e; subst e; exact ⟨c, T, h, hT⟩)
theorem SetIs.num {w w' : World} {b n : Nat} {l : List Int} (h : SetIs InK w b n l) (t : NumT w w') : SetIs InK w' b n l := by
  obtain ⟨es, cl, h3⟩ := h.isMap
  exact h.blk (t.block b h.lt (fun c T e => by rw [h3] at e; cases e))
theorem BhAt.num {lo n gm : Nat} {ms : Nat → Nat} {k : Nat} {c : Nat → Nat} {ls : Nat → List Int} {W W' : World} (h : BhAt lo n gm ms k c ls W) (t : NumT W W') : BhAt lo n gm ms k c ls W' :=
  h.keep (fun g _ _ hg => t.block g (hltP hg) (fun c T e => by rw [hg] at e; cases e)) (fun g _ hg => t.block g (hltP hg) (fun c T e => by
    rw [hg] at e
    injection e with e
    injection e with _ e2
    subst e2
    decide))
theorem RgS.num {w w' : World} {b r n cnt : Nat} {l dn : List Int} (h : RgS w b r n l dn cnt) (t : NumT w w') : RgS w' b r n l dn cnt := by
  obtain ⟨h0, pk, D, left, h1, h2, h3, h4⟩ := h
  refine ⟨h0, pk, D, left, h1, h2, ?_, h4⟩
  have k1 := h3.owns.lt
  have k2 := h3.lt
  obtain ⟨es, clock, since, seen, c0, hb, F, hs, hD, hr, rest⟩ := h3
  exact ⟨es, clock, since, seen, c0, (t.block b k1 (fun c T e => by rw [hb] at e; cases e)).trans hb, F, hs, hD, (t.block r k2 (fun c T e => by rw [hr] at e; cases e)).trans hr, rest⟩
theorem AhAt.appT {lo n ga : Nat} {av : Nat → Value} {pre : Nat → List Int} {W W1 W2 : World} (h : AhAt lo n ga av pre W) (hga : lo ≤ ga) (hlo : lo ≤ W.heap.size) {t : Nat} (ht : t < n) (b1 : Below W.heap.size W W1) {v' : Value} {x : Int} (ho : OwnI W2 lo v' (pre t ++ [x])) (hg : W1.grownBy W2 (av t).ownBlock) (hl : v'.ownBlock = (av t).ownBlock ∨ v'.ownBlock = some W1.heap.size) :
    AhAt lo n ga (fun u => if u = t then v' else av u) (fun u => if u = t then pre t ++ [x] else pre u) (W2.setCell ⟨ga, t, none⟩ v') ∧ NumT W (W2.setCell ⟨ga, t, none⟩ v') ∧ Below lo W (W2.setCell ⟨ga, t, none⟩ v') := by
  have h1 := h.stays b1
  obtain ⟨cur, r1, _⟩ := h1.row
  have hown : ∀ g, (av t).ownBlock = some g → lo ≤ g ∧ ∃ cur, W1.heap[g]? = some (.cells cur 3 (0, 0)) := fun g hg2 => let ⟨a, _, b⟩ := (h1.own t ht).low g hg2; ⟨a, b⟩
  have t2 : NumT W1 W2 := NumT.of_grown hg (fun g e => let ⟨_, c, hc⟩ := hown g e; ⟨c, _, hc, Or.inl rfl⟩)
  have r1' : W2.heap[ga]? = some (.cells cur 22 (0, 0)) := (hg.block _ (hltP r1) (fun e => by
    obtain ⟨_, c2, hc2⟩ := hown ga e.symm
    rw [r1] at hc2
    injection hc2 with hc2
    injection hc2 with _ e2
    exact absurd e2 (by decide))).trans r1
  have hb : But ga W2 (W2.setCell ⟨ga, t, none⟩ v') := (But.refl ga W2).set _ _
  have hbel : Below lo W1 W2 := ⟨hg.os, hg.tape, hg.output, hg.size, fun k hk => hg.block k (by have := b1.size; omega) (fun e => by have := (hown k e.symm).1; omega)⟩
  exact ⟨h.app ht b1 ho hg hl, (NumT.of_below b1).trans (t2.trans (NumT.of_set r1' (Or.inr rfl) _)), ((b1.mono hlo).trans hbel).trans (hb.below hga (by have := b1.size; have := hg.size; omega))⟩
theorem list_appN {ops : Array Oper} {o : Oper} {a : Act} {Q : Exit → Act → World → Prop} {rest : List Oper} (w : World) (hgd : o.guard = none) (s y : Operand) (ho : o.op = .call { callee := .builtin .append, args := #[s, y], argTypes := #[22, 22] })
    (lo : Nat) (v : Value) (l : List Int) (x : Int) (b o2 cap2 : Nat) (hs : a.eval s = v) (hx : a.eval y = .slice (some ⟨b, o2, none⟩) 1 cap2) (h1 : NumN w lo v l) (h2 : w.cell? ⟨b, o2, none⟩ = some (.int .i64 x)) (hn : l.length + 1 ≤ 8000000) (hB : lo ≤ w.heap.size)
    (h : ∀ v' w', OwnI w' lo v' (l ++ [x]) → w.grownBy w' v.ownBlock → (v'.ownBlock = v.ownBlock ∨ v'.ownBlock = some w.heap.size) → wpList Try.prog ops Q rest (a.put o.dst v') w') :
    wpList Try.prog ops Q (o :: rest) a w := by
  refine wpList_plain hgd fun K hK => ?_
  obtain ⟨v', w', hr, r1, r2, r3⟩ := run_appN (cap2 := cap2) o.type h1 h2 hn hB
  unfold Oper.wp execOp
  simp only [ho, resolve, invoke, builtin, Sem.run_bind, Sem.run_pure, Result.andThen_ok, List.map_toArray, List.map_cons, List.map_nil, hs, hx, hr]
  exact hK _ _ (h v' w' r1 r2 r3)
end Go.Proofs.Ytooaoankloocmab
