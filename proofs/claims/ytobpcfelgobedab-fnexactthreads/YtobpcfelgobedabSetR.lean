/- Sets of numbers: maps whose elements are empty structs (written by wip/mkseth.py). -/
import Derived.Test.YtobpcfelgobedabOwnIntL
import Derived.Test.YtobpcfelgobedabSl
import Derived.Maps.RangeWalk
import Derived.Maps.OwnSet
import Derived.Maps.OwnOps
import Derived.DeepKeys4
import Derived.Deep.LoopGhost
import Derived.Deep.CutRange
import Derived.Deep.RegionHeld3
namespace Go.Proofs.Ytobpcfelgobedab
open Go.ChangeShapes Go.WideShapes Go.ChangeAt Go.RowKit Go.Maps
theorem hltP {w : World} {b : Nat} {o : Obj} (h : w.heap[b]? = some o) : b < w.heap.size := (Array.getElem?_eq_some_iff.1 h).1
theorem grows_below {w w' : World} (h : Below w.heap.size w w') : w.grownBy w' none := ⟨h.os, h.tape, h.output, h.size, fun i hi _ => h.block i hi⟩
theorem But.ofG {b : Nat} {w w' : World} (h : w.grownBy w' (some b)) : But b w w' := ⟨h.os, h.tape, h.output, h.size, fun k hk hne => h.block k hk (by simpa using hne)⟩
theorem But.grow {b : Nat} {w w' : World} (h : But b w w') : w.grownBy w' (some b) := ⟨h.os, h.tape, h.output, h.size, fun k hk hne => h.block k hk (by simpa using hne)⟩
theorem But.thenB {b : Nat} {w w1 w2 : World} (h : Below w.heap.size w w1) (k : But b w1 w2) : But b w w2 :=
  ⟨k.os.trans h.os, k.tape.trans h.tape, k.output.trans h.output, Nat.le_trans h.size k.size, fun i hi hne => (k.block i (Nat.lt_of_lt_of_le hi h.size) hne).trans (h.block i hi)⟩
theorem But.keepB {b k : Nat} {w w' : World} {o : Obj} (h : But b w w') (hx : w.heap[k]? = some o) (hne : k ≠ b) : w'.heap[k]? = some o := (h.block k (hltP hx) hne).trans hx
theorem But.twice {b : Nat} {w w1 w2 : World} (h : But b w w1) (k : But b w1 w2) : But b w w2 :=
  ⟨k.os.trans h.os, k.tape.trans h.tape, k.output.trans h.output, Nat.le_trans h.size k.size, fun i hi hne => (k.block i (Nat.lt_of_lt_of_le hi h.size) hne).trans (h.block i hi hne)⟩
/-- The numbers of a list that a call owns. -/
theorem ints_at {w : World} {B g n cap : Nat} {l : List Int} (h : OwnI w B (.slice (some ⟨g, 0, none⟩) n cap) l) (j : Nat) (hj : j < l.length) : w.cell? ⟨g, j, none⟩ = some (.int .i64 l[j]) := by
  obtain ⟨g', cap', cur, hv, _, hh, _, _, _, hx⟩ := h.parts
  injection hv with e1
  injection e1 with e1
  injection e1 with e1
  subst e1
  simp only [World.cell?, hh]
  exact hx j hj
/-- How a set's members stand: their type, which are members at all, their values. -/
structure SKey (α : Type) where
  K : TypeId
  ok : α → Prop
  v : α → Value
/-- What each member reads as, as a key. -/
structure SKeyFn {α : Type} (S : SKey α) (pk : α → Lit) : Prop where
  key : ∀ {p : α}, S.ok p → keyOf Try.prog S.K (S.v p) = some (pk p)
  lit : ∀ {p : α}, S.ok p → WideAt.IsKeyLit (pk p)
  inj : ∀ {p q : α}, S.ok p → S.ok q → pk p = pk q → p = q
structure SKey.Ok {α : Type} (S : SKey α) : Prop where
  law : Keyed Try.prog S.K
  inv : ∀ key kl, keyOf Try.prog S.K key = some kl → ∃ p, key = S.v p ∧ S.ok p
  fn : ∃ pk, SKeyFn S pk
  vinj : ∀ p q, S.v p = S.v q → p = q
section
variable {α : Type} {S : SKey α} {pk : α → Lit}
theorem SKey.Ok.invK (O : S.Ok) : ∀ key kl, keyOf Try.prog S.K key = some kl → ∃ p, key = S.v p := fun key kl h => let ⟨p, e, _⟩ := O.inv key kl h; ⟨p, e⟩
theorem invU : ∀ (v : Value) (y : DataW Unit × List MemPlace), unitElem v = some y → ∃ _ : Unit, v = Value.agg #[] := fun _ _ h => ⟨(), (unitElem_inv h).1⟩
theorem SKey.Ok.of_key (O : S.Ok) {p : α} {kl : Lit} (h : keyOf Try.prog S.K (S.v p) = some kl) : S.ok p := by
  obtain ⟨q, e, hq⟩ := O.inv _ _ h
  rw [O.vinj _ _ e]; exact hq
/-- The map reads as these members. -/
def ReadsS (pk : α → Lit) (D : DataW Unit) (l : List α) : Prop := ∀ kl, Maps.has D kl = true ↔ ∃ q ∈ l, pk q = kl
theorem readsS_nil : ReadsS pk (.map []) [] := fun kl => by simp [Maps.has]
theorem ReadsS.congr {D : DataW Unit} {l l' : List α} (h : ReadsS pk D l) (e : ∀ q, q ∈ l' ↔ q ∈ l) : ReadsS pk D l' := fun kl => by
  rw [h kl]
  exact ⟨fun ⟨q, hq, e1⟩ => ⟨q, (e q).2 hq, e1⟩, fun ⟨q, hq, e1⟩ => ⟨q, (e q).1 hq, e1⟩⟩
theorem readsS_put (F : SKeyFn S pk) {D : DataW Unit} {l : List α} (hD : Maps.IsMap D) (h : ReadsS pk D l) {p : α} (hp : S.ok p) (d : DataW Unit) : ReadsS pk (D.put (pk p) d) (l ++ [p]) := fun kl => by
  by_cases e : kl = pk p
  · subst e
    rw [Maps.has_put_same hD (F.lit hp)]
    exact ⟨fun _ => ⟨p, by simp, rfl⟩, fun _ => rfl⟩
  · rw [Maps.has_put_other e, h kl]
    constructor
    · rintro ⟨y, hy, rfl⟩; exact ⟨y, by simp [hy], rfl⟩
    · rintro ⟨y, hy, rfl⟩
      rcases List.mem_append.1 hy with hy | hy
      · exact ⟨y, hy, rfl⟩
      · rw [List.mem_singleton.1 hy] at e; exact absurd rfl e
theorem readsS_del (F : SKeyFn S pk) {D : DataW Unit} {l l' : List α} (h : ReadsS pk D l) (ok : ∀ q ∈ l, S.ok q) {p : α} (hp : S.ok p) (hm : ∀ q, q ∈ l' ↔ q ∈ l ∧ q ≠ p) : ReadsS pk (D.del (pk p)) l' := fun kl => by
  by_cases e : kl = pk p
  · subst e
    rw [Maps.has_del_same]
    refine ⟨fun h => (by cases h), ?_⟩
    rintro ⟨y, hy, e1⟩
    have := (hm y).1 hy
    exact absurd (F.inj (ok y this.1) hp e1) this.2
  · rw [Maps.has_del_other e, h kl]
    constructor
    · rintro ⟨y, hy, rfl⟩
      exact ⟨y, (hm y).2 ⟨hy, fun e1 => e (by rw [e1])⟩, rfl⟩
    · rintro ⟨y, hy, rfl⟩
      exact ⟨y, ((hm y).1 hy).1, rfl⟩
theorem readsS_has (F : SKeyFn S pk) {D : DataW Unit} {l : List α} (h : ReadsS pk D l) (ok : ∀ q ∈ l, S.ok q) {p : α} (hp : S.ok p) : Maps.has D (pk p) = true ↔ p ∈ l := by
  rw [h]
  constructor
  · rintro ⟨q, hq, e⟩
    rw [← F.inj (ok q hq) hp e]; exact hq
  · exact fun hq => ⟨p, hq, rfl⟩
/-- Of a range that deletes: those that stay, and those that have not come yet. -/
def keepS (pk : α → Lit) (keep : α → Bool) (left : Lit → Bool) (l : List α) : List α := l.filter fun q => keep q || left (pk q)
theorem keepS_start {D : DataW Unit} {l : List α} (h : ReadsS pk D l) (keep : α → Bool) : keepS pk keep (Maps.has D) l = l :=
  List.filter_eq_self.2 (fun q hq => by rw [(h _).2 ⟨q, hq, rfl⟩]; simp)
theorem keepS_end {keep : α → Bool} {left : Lit → Bool} (l : List α) (h : ∀ kl, left kl = false) : keepS pk keep left l = l.filter keep := by
  unfold keepS
  simp [h]
theorem sameS_iff (F : SKeyFn S pk) {a b : α} (ha : S.ok a) (hb : S.ok b) : (pk a).sameKey (pk b) = true ↔ a = b := by
  constructor
  · intro h
    exact F.inj ha hb (WideAt.sameKey_eq h)
  · rintro rfl
    exact WideAt.sameKey_self (F.lit ha)
theorem sameS_no (F : SKeyFn S pk) {a b : α} (ha : S.ok a) (hb : S.ok b) (e : a ≠ b) : (pk a).sameKey (pk b) = false := by
  cases hs : (pk a).sameKey (pk b)
  · rfl
  · exact absurd ((sameS_iff F ha hb).1 hs) e
theorem keepS_strike (F : SKeyFn S pk) {l : List α} (ok : ∀ q ∈ l, S.ok q) {keep : α → Bool} {left : Lit → Bool} {D : DataW Unit} (h : ReadsS pk D (keepS pk keep left l)) {p : α} (hp : S.ok p) (hk : keep p = false) :
    ReadsS pk (D.del (pk p)) (keepS pk keep (fun z => left z && !z.sameKey (pk p)) l) := by
  refine readsS_del F h (fun q hq => ok q (List.mem_filter.1 hq).1) hp (fun y => ?_)
  simp only [keepS, List.mem_filter]
  by_cases hy : y ∈ l
  · by_cases e : y = p
    · subst e
      simp [hk, (sameS_iff F hp hp).2 rfl]
    · simp [hy, e, sameS_no F (ok y hy) hp e]
  · simp [hy]
theorem keepS_stay (F : SKeyFn S pk) {l : List α} (ok : ∀ q ∈ l, S.ok q) {keep : α → Bool} {left : Lit → Bool} {p : α} (hp : S.ok p) (hk : keep p = true) :
    keepS pk keep (fun z => left z && !z.sameKey (pk p)) l = keepS pk keep left l := by
  unfold keepS
  refine List.filter_congr (fun y hy => ?_)
  by_cases e : y = p
  · subst e
    simp [hk]
  · simp [sameS_no F (ok y hy) hp e]
/-- The map in block b is the set of these members. -/
def SetIs (S : SKey α) (w : World) (b n : Nat) (l : List α) : Prop := (∀ q ∈ l, S.ok q) ∧ ∃ pk, SKeyFn S pk ∧ ∃ D : DataW Unit, w.ownsMap Try.prog S.K unitElem b n D ∧ ReadsS pk D l
theorem SetIs.congr {w : World} {b n : Nat} {l l' : List α} (h : SetIs S w b n l) (e : ∀ q, q ∈ l' ↔ q ∈ l) : SetIs S w b n l' :=
  let ⟨ok, pk, F, D, h1, h2⟩ := h
  ⟨fun q hq => ok q ((e q).1 hq), pk, F, D, h1, h2.congr e⟩
theorem SetIs.made (O : S.Ok) (w : World) : SetIs S (w.alloc (.map #[] 0)) w.heap.size 0 [] := by
  obtain ⟨pk, F⟩ := O.fn
  exact ⟨by simp, pk, F, _, World.ownsMap_made _ _ _ _, readsS_nil⟩
theorem SetIs.kept {w w' : World} {b n : Nat} {l : List α} {row : Option Nat} (h : SetIs S w b n l) (hg : w.grownBy w' row) (hne : some b ≠ row) : SetIs S w' b n l :=
  let ⟨ok, pk, F, D, h1, h2⟩ := h
  ⟨ok, pk, F, D, h1.kept hg hne, h2⟩
theorem SetIs.stays {w w' : World} {b n : Nat} {l : List α} (h : SetIs S w b n l) (bel : Below w.heap.size w w') : SetIs S w' b n l := h.kept (grows_below bel) (by simp)
theorem SetIs.but {w w' : World} {b n k : Nat} {l : List α} (h : SetIs S w b n l) (hb : But k w w') (hne : b ≠ k) : SetIs S w' b n l := h.kept hb.grow (by simpa using hne)
theorem SetIs.up {w : World} {b n m : Nat} {l : List α} (h : SetIs S w b n l) (hn : n ≤ m) : SetIs S w b m l :=
  let ⟨ok, pk, F, D, h1, h2⟩ := h
  ⟨ok, pk, F, D, h1.mono hn, h2⟩
theorem SetIs.lt {w : World} {b n : Nat} {l : List α} (h : SetIs S w b n l) : b < w.heap.size := let ⟨_, _, _, _, h1, _⟩ := h; h1.lt
theorem SetIs.blk {w w' : World} {b n : Nat} {l : List α} (h : SetIs S w b n l) (hb : w'.heap[b]? = w.heap[b]?) : SetIs S w' b n l :=
  let ⟨ok, pk, F, D, ⟨es, clock, h1, h2⟩, h3⟩ := h
  ⟨ok, pk, F, D, ⟨es, clock, hb.trans h1, h2⟩, h3⟩
end
/-- Numbers as members. -/
def InK : SKey Int := ⟨3, I64, fun p => .int .i64 p⟩
theorem InK_ok : InK.Ok := by
  have hk := Try.underlying3
  refine ⟨int_keyed hk, fun key kl h => ?_, ⟨fun n => .int .i64 n, fun {p} h => keyOf_int_mk hk (WalkArith.wf_i64 h), fun {p} h => ?_, fun _ _ e => ?_⟩, fun p q e => ?_⟩
  · obtain ⟨x, rfl, _, hw⟩ := Maps.keyOf_int_inv hk h
    refine ⟨x, rfl, ?_⟩
    have := hw
    simp [Lit.wf] at this
    exact this
  · exact (int_keyed hk).key (keyOf_int_mk hk (WalkArith.wf_i64 h))
  · simpa using e
  · have e2 : Value.int .i64 p = .int .i64 q := e
    simpa using e2
theorem zeroU (w : World) : (zeroValue 82).run Try.prog w = .ok (.agg #[]) w := by kernel_rfl
theorem newB8 (w : World) (o : Obj) : (w.alloc o).heap[w.heap.size]? = some o := by show (w.heap.push _)[w.heap.size]? = _; exact Array.getElem?_push_size
theorem lawI : Keyed Try.prog 3 := int_keyed Try.underlying3
open Classical in
noncomputable def inL (l : List Int) (s : Int) : Bool := decide (s ∈ l)
theorem inL_iff {l : List Int} {s : Int} : inL l s = true ↔ s ∈ l := by unfold inL; exact decide_eq_true_iff
theorem SetIs.int {w : World} {b n : Nat} {l : List Int} (h : SetIs InK w b n l) {s : Int} (hs : I64 s) : ∃ (D : DataW Unit) (kl : Lit), w.ownsMap Try.prog 3 unitElem b n D ∧ keyOf Try.prog 3 (.int .i64 s) = some kl ∧ Maps.has D kl = inL l s ∧ (∀ W, W.ownsMap Try.prog 3 unitElem b (n + 1) (D.put kl (.agg [])) → SetIs InK W b (n + 1) (l ++ [s])) ∧ ∀ W, W.ownsMap Try.prog 3 unitElem b n (D.del kl) → SetIs InK W b n (l.filter (fun q => decide (q ≠ s))) := by
  obtain ⟨ok, pk, F, D, hown, hrd⟩ := h
  refine ⟨D, pk s, hown, F.key hs, Bool.eq_iff_iff.2 ((readsS_has F hrd ok hs).trans inL_iff.symm), fun W hW => ⟨fun q hq => ?_, pk, F, _, hW, readsS_put F hown.isMap hrd hs _⟩, fun W hW => ⟨fun q hq => ok q (List.mem_filter.1 hq).1, pk, F, _, hW, readsS_del F hrd ok hs (fun q => by simp [List.mem_filter])⟩⟩
  rcases List.mem_append.1 hq with hq | hq
  · exact ok q hq
  · rw [List.mem_singleton.1 hq]; exact hs
set_option maxRecDepth 100000 in
set_option maxHeartbeats 4000000 in
theorem hasI_any (l : List Int) (s : Int) (w : World) (b n : Nat) (h : SetIs InK w b n l) (hs : I64 s) :
    Calls Try.prog 41 #[.map (some b), .int .i64 s] w fun e w' => e = .returned (.bool (inL l s)) ∧ Below w.heap.size w w' := by
  obtain ⟨D, kl, hown, hkey, hm, _⟩ := h.int hs
  have HM := hideP hm
  obtain ⟨m, hmm⟩ : ∃ m, inL l s = m := ⟨_, rfl⟩
  rw [hmm] at HM ⊢
  have AL2 : Hid (Below w.heap.size w (w.alloc (.cells #[] 82))) := (Below.refl w.heap.size w).alloc (Nat.le_refl _) _
  clear hm hmm h
  go_enter Try.func41, Try.ntmps41
  go_wp2_with (at_lookup; refine wpList_lookup_own_unit _ rfl _ _ 65 rfl 3 82 lawI Try.underlying65 (zeroU _) b n D rfl hown _ _ rfl hkey ?_; rw [HM.out])
  go_ret
  exact ⟨rfl, AL2.out⟩
set_option maxRecDepth 100000 in
set_option maxHeartbeats 4000000 in
theorem addI_any (l us : List Int) (w : World) (b n B : Nat) (v : Value) (h : SetIs InK w b n l) (hv : OwnI w B v us) (hus : ∀ s ∈ us, I64 s) (hn : n ≤ 100000000) (hl : us.length ≤ 100000) :
    Calls Try.prog 40 #[.map (some b), v] w fun e w' => e = .returned (.tuple #[]) ∧ SetIs InK w' b (n + us.length) (l ++ us) ∧ But b w w' := by
  obtain ⟨g, cap, rfl, _⟩ := id hv
  have HV := hideP hv
  have hgb : g ≠ b := fun e => by
    obtain ⟨_, _, cur, hv2, _, hh, _⟩ := hv.parts
    obtain ⟨_, _, _, _, ⟨es, clock, h1, _⟩, _⟩ := h
    injection hv2 with e1
    injection e1 with e1
    injection e1 with e1
    subst e1
    rw [e, h1] at hh
    cases hh
  have HS := hideP h
  have HU := hideP hus
  have hu : unitElem (H := Unit) (.agg #[]) = some (.agg [], []) := unitElem_mk
  obtain ⟨N, hN⟩ : ∃ N, us.length = N := ⟨_, rfl⟩
  have HN := hideP hN
  rw [hN] at hl ⊢
  clear h hv hus hN
  go_enter Try.func40, Try.ntmps40
  go_wp2
  go_loopg [8] N (fun gk ix wr => ∃ k : Nat, gk + k = N ∧ ix = .int .i64 k ∧ Hid (SetIs InK wr b (n + k) (l ++ us.take k)) ∧ Hid (But b w wr))
  case atStart => exact ⟨0, by simp, rfl, by show SetIs _ _ _ _ _; simp; exact HS.out, But.refl _ _⟩
  case round =>
    obtain ⟨k, hk, rfl, hS, hB⟩ := hrel
    by_cases hlt : k < N
    · have hkl : k < us.length := by rw [HN.out]; exact hlt
      obtain ⟨s, hs⟩ : ∃ s, us[k] = s := ⟨_, rfl⟩
      have x0 := ints_at (HV.out.butG hB.out (by simp [Value.ownBlock]; omega)) k hkl
      rw [hs] at x0
      obtain ⟨D, kl, hown, hkey, _, hput, _⟩ := hS.out.int (HU.out s (by rw [← hs]; exact List.getElem_mem hkl))
      have TK : Hid (us.take (k + 1) = us.take k ++ [s]) := by show _ = _; rw [List.take_succ_eq_append_getElem hkl, hs]
      have PUT := hideP hput
      clear hs hput hS
      go_wp2_with (at_mapUpdate; refine wpList_mapUpdate_in _ rfl _ _ _ 65 rfl 3 82 lawI Try.underlying65 _ b (n + k) _ rfl hown (by unfold maxLen; omega) _ _ _ rfl rfl hkey _ [] hu ?_; intro w5 hown5 hturn5)
      have S5 : Hid (SetIs InK w5 b (n + (k + 1)) (l ++ us.take (k + 1))) := by
        have := PUT.out _ hown5
        rw [TK.out, ← List.append_assoc, ← Nat.add_assoc]
        exact this
      have B5 := hideP (hB.out.twice (But.ofG hturn5.grown))
      clear hown5 hturn5 hown PUT TK hB x0
      go_wp2
      go_roundg (N - (k + 1))
      case rel => exact ⟨k + 1, by omega, by go_num, S5.out, B5.out⟩
      case measure => omega
    · have hkn : k = N := by omega
      subst hkn
      have E : Hid (SetIs InK wr b (n + k) (l ++ us)) := by
        have := hS.out
        rw [show us.take k = us by rw [← HN.out]; exact List.take_length] at this
        exact this
      go_wp2
      go_end0
      exact ⟨rfl, E.out, hB.out⟩
end Go.Proofs.Ytobpcfelgobedab

/- Sets of numbers told by what is in them: made, added to, asked, deleted from, counted. -/
namespace Go.Proofs.Ytobpcfelgobedab
open Go.ChangeShapes Go.WideShapes Go.ChangeAt Go.RowKit Go.Maps
/-- The map in block b is the set of all that P holds of; it has at most N entries. -/
def SetP (w : World) (b N : Nat) (P : Int → Prop) : Prop := ∃ l, SetIs InK w b N l ∧ ∀ q, q ∈ l ↔ P q
section
variable {w w' : World} {b N : Nat} {P P' : Int → Prop}
theorem SetP.lt (h : SetP w b N P) : b < w.heap.size := let ⟨_, h1, _⟩ := h; h1.lt
theorem SetP.made (w : World) : SetP (w.alloc (.map #[] 0)) w.heap.size 0 (fun _ => False) := ⟨[], SetIs.made InK_ok w, by simp⟩
theorem SetP.congr (h : SetP w b N P) (e : ∀ q, P q ↔ P' q) : SetP w b N P' := let ⟨l, h1, h2⟩ := h; ⟨l, h1, fun q => (h2 q).trans (e q)⟩
theorem SetP.stays (h : SetP w b N P) (bel : Below w.heap.size w w') : SetP w' b N P := let ⟨l, h1, h2⟩ := h; ⟨l, h1.stays bel, h2⟩
theorem SetP.kept {row : Option Nat} (h : SetP w b N P) (hg : w.grownBy w' row) (hne : some b ≠ row) : SetP w' b N P := let ⟨l, h1, h2⟩ := h; ⟨l, h1.kept hg hne, h2⟩
theorem SetP.blk (h : SetP w b N P) (hb : w'.heap[b]? = w.heap[b]?) : SetP w' b N P := let ⟨l, h1, h2⟩ := h; ⟨l, h1.blk hb, h2⟩
theorem SetP.up {M : Nat} (h : SetP w b N P) (hm : N ≤ M) : SetP w b M P := let ⟨l, h1, h2⟩ := h; ⟨l, h1.up hm, h2⟩
theorem SetP.ne (h : SetP w b N P) {g : Nat} {cs : Array Value} {T : TypeId} {f : Nat × Nat} (hg : w.heap[g]? = some (.cells cs T f)) : g ≠ b := fun e => by
  obtain ⟨l, ⟨_, _, _, _, ⟨es, clock, h1, _⟩, _⟩, _⟩ := h
  rw [e, h1] at hg
  cases hg
open Classical in
theorem addQ_any {s : Int} {B : Nat} {v : Value} (h : SetP w b N P) (hv : OwnI w B v [s]) (hs : I64 s) (hn : N ≤ 100000000) :
    Calls Try.prog 40 #[.map (some b), v] w fun e w' => e = .returned (.tuple #[]) ∧ SetP w' b (N + 1) (fun q => P q ∨ q = s) ∧ But b w w' := by
  obtain ⟨l, h1, h2⟩ := h
  refine (addI_any l [s] w b N B v h1 hv (fun x hx => by rw [List.mem_singleton.1 hx]; exact hs) hn (by simp)).mono ?_
  rintro e w1 ⟨rfl, s1, b1⟩
  exact ⟨rfl, ⟨_, s1, fun q => by rw [List.mem_append, h2, List.mem_singleton]⟩, b1⟩
theorem hasQ_any {s : Int} {y : Bool} (h : SetP w b N P) (hs : I64 s) (hy : y = true ↔ P s) :
    Calls Try.prog 41 #[.map (some b), .int .i64 s] w fun e w' => e = .returned (.bool y) ∧ Below w.heap.size w w' := by
  obtain ⟨l, h1, h2⟩ := h
  refine (hasI_any l s w b N h1 hs).mono ?_
  rintro e w1 ⟨rfl, b1⟩
  refine ⟨?_, b1⟩
  rw [show inL l s = y from Bool.eq_iff_iff.2 (by rw [inL_iff, h2, hy])]
/-- No key is there: it has no entries. -/
theorem map_nil0 {n : Nat} {D : DataW Unit} (h : w.ownsMap Try.prog 3 unitElem b n D) (hn : ∀ kl, Maps.has D kl = false) : Maps.size D = 0 := by
  obtain ⟨es, clock, _, F, _, rfl⟩ := h
  rw [Maps.size_eq, (sorted_perm _).length_eq, List.length_map]
  cases he : es.toList with
  | nil => rfl
  | cons x r =>
    exfalso
    obtain ⟨y, hy⟩ := F.reads x (by rw [he]; simp)
    have hk := lawI.key (WideElems.rd_key hy)
    have h1 := hn y.1
    rw [Maps.has_eq, List.any_eq_false] at h1
    have hm : y ∈ ((es.toList.map (WideElems.rg Try.prog 3 unitElem)).foldr DataW.insert []) := by
      rw [(sorted_perm _).mem_iff, he]
      simp [WideElems.rg, hy]
    exact h1 y hm (WideAt.sameKey_self hk)
theorem SetP.count (h : SetP w b N P) : ∃ D : DataW Unit, w.ownsMap Try.prog 3 unitElem b N D ∧ (Maps.size D = 0 ↔ ∀ q, ¬ P q) := by
  obtain ⟨l, ⟨ok, pk, F, D, hown, hrd⟩, h2⟩ := h
  refine ⟨D, hown, fun h0 q hq => ?_, fun hno => map_nil0 hown (fun kl => ?_)⟩
  · have hq2 := (readsS_has F hrd ok (ok q ((h2 q).2 hq))).2 ((h2 q).2 hq)
    obtain ⟨es, rfl⟩ := hown.isMap
    rw [Maps.size_eq] at h0
    rw [List.length_eq_zero_iff.1 h0] at hq2
    simp [Maps.has] at hq2
  · cases hh : Maps.has D kl
    · rfl
    · obtain ⟨q, hq, _⟩ := (hrd kl).1 hh
      exact absurd ((h2 q).1 hq) (hno q)
end
section
variable {ops : Array Oper} {rest : List Oper} {o : Oper} {a : Act} {Q : Exit → Act → World → Prop}
theorem sq_del (w : World) (hg : o.guard = none) (m x : Operand) (t : TypeId) (hop : o.op = Op.call { callee := Callee.builtin Builtin.delete, args := #[m, x], argTypes := #[t, 3] }) (ht : Try.prog.underlying t = some (.map 3 82)) (b N : Nat) (P : Int → Prop) (s : Int)
    (hm : a.eval m = .map (some b)) (hx : a.eval x = .int .i64 s) (h : SetP w b N P) (hs : I64 s)
    (hK : ∀ w', SetP w' b N (fun q => P q ∧ q ≠ s) → But b w w' → wpList Try.prog ops Q rest (a.put o.dst (.tuple #[])) w') : wpList Try.prog ops Q (o :: rest) a w := by
  obtain ⟨l, h1, h2⟩ := h
  obtain ⟨D, kl, hown, hkey, _, _, hdel⟩ := h1.int hs
  exact wpList_delete_own w hg m x t 3 hop 82 lawI ht _ b N D hm hown _ _ hx hkey (fun w' hw' ht' => hK w' ⟨_, hdel w' hw', fun q => by rw [List.mem_filter, h2]; simp⟩ (But.ofG ht'.grown))
theorem sq_len (w : World) (hg : o.guard = none) (m : Operand) (t : TypeId) (hop : o.op = Op.call { callee := Callee.builtin Builtin.len, args := #[m], argTypes := #[t] }) (ht : Try.prog.underlying t = some (.map 3 82)) (b N : Nat) (P : Int → Prop)
    (hm : a.eval m = .map (some b)) (h : SetP w b N P)
    (hK : ∀ k : Nat, (k = 0 ↔ ∀ q, ¬ P q) → wpList Try.prog ops Q rest (a.put o.dst (.int .i64 (k : Int))) w) : wpList Try.prog ops Q (o :: rest) a w := by
  obtain ⟨D, hown, hc⟩ := h.count
  exact wpList_len_own w hg m t hop 3 82 ht _ b N D hm hown (hK _ hc)
end
end Go.Proofs.Ytobpcfelgobedab
