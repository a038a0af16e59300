/- Sets: maps whose elements are empty structs, over keys of any kind. -/
import Derived.Test.YtelkpikbjfkpcaaGreatFwdPQ
import Derived.Test.YtelkpikbjfkpcaaGreatShD
import Derived.Deep.CutRange
import Derived.Deep.RegionHeld3
namespace Go.Proofs.YtelkpikbjfkpcaaGreat
open Go.ChangeShapes Go.WideShapes Go.ChangeAt Go.RowKit Go.Maps
/-- How a set's members stand: their type, which are members at all, their values. -/
structure SKey (α : Type) where
  K : TypeId
  ok : α → Prop
  v : α → Value
/-- What each member reads as, as a key. -/
structure SKeyFn {α : Type} (S : SKey α) (pk : α → Lit) : Prop where
  key : ∀ {p : α}, S.ok p → keyOf Tryz.prog S.K (S.v p) = some (pk p)
  lit : ∀ {p : α}, S.ok p → WideAt.IsKeyLit (pk p)
  inj : ∀ {p q : α}, S.ok p → S.ok q → pk p = pk q → p = q
structure SKey.Ok {α : Type} (S : SKey α) : Prop where
  law : Keyed Tryz.prog S.K
  inv : ∀ key kl, keyOf Tryz.prog S.K key = some kl → ∃ p, key = S.v p ∧ S.ok p
  fn : ∃ pk, SKeyFn S pk
  vinj : ∀ p q, S.v p = S.v q → p = q
section
variable {α : Type} {S : SKey α} {pk : α → Lit}
theorem SKey.Ok.invK (O : S.Ok) : ∀ key kl, keyOf Tryz.prog S.K key = some kl → ∃ p, key = S.v p := fun key kl h => let ⟨p, e, _⟩ := O.inv key kl h; ⟨p, e⟩
theorem invU : ∀ (v : Value) (y : DataW Unit × List MemPlace), unitElem v = some y → ∃ _ : Unit, v = Value.agg #[] := fun _ _ h => ⟨(), (unitElem_inv h).1⟩
theorem SKey.Ok.of_key (O : S.Ok) {p : α} {kl : Lit} (h : keyOf Tryz.prog S.K (S.v p) = some kl) : S.ok p := by
  obtain ⟨q, e, hq⟩ := O.inv _ _ h
  rw [O.vinj _ _ e]; exact hq
/-- The map reads as these members. -/
def ReadsS (pk : α → Lit) (D : DataW Unit) (l : List α) : Prop := ∀ kl, Maps.has D kl = true ↔ ∃ q ∈ l, pk q = kl
theorem readsS_nil : ReadsS pk (.map []) [] := fun kl => by simp [Maps.has]
theorem ReadsS.congr {D : DataW Unit} {l l' : List α} (h : ReadsS pk D l) (e : ∀ q, q ∈ l' ↔ q ∈ l) : ReadsS pk D l' := fun kl => by
  rw [h kl]
  exact ⟨fun ⟨q, hq, e1⟩ => ⟨q, (e q).2 hq, e1⟩, fun ⟨q, hq, e1⟩ => ⟨q, (e q).1 hq, e1⟩⟩
theorem readsS_put (F : SKeyFn S pk) {D : DataW Unit} {l : List α} (hD : Maps.IsMap D) (h : ReadsS pk D l) {p : α} (hp : S.ok p) (d : DataW Unit) : ReadsS pk (D.put (pk p) d) (l ++ [p]) := fun kl => by
  by_cases e : kl = pk p
  · subst e
    rw [Maps.has_put_same hD (F.lit hp)]
    exact ⟨fun _ => ⟨p, by simp, rfl⟩, fun _ => rfl⟩
  · rw [Maps.has_put_other e, h kl]
    constructor
    · rintro ⟨y, hy, rfl⟩; exact ⟨y, by simp [hy], rfl⟩
    · rintro ⟨y, hy, rfl⟩
      rcases List.mem_append.1 hy with hy | hy
      · exact ⟨y, hy, rfl⟩
      · rw [List.mem_singleton.1 hy] at e; exact absurd rfl e
theorem readsS_del (F : SKeyFn S pk) {D : DataW Unit} {l l' : List α} (h : ReadsS pk D l) (ok : ∀ q ∈ l, S.ok q) {p : α} (hp : S.ok p) (hm : ∀ q, q ∈ l' ↔ q ∈ l ∧ q ≠ p) : ReadsS pk (D.del (pk p)) l' := fun kl => by
  by_cases e : kl = pk p
  · subst e
    rw [Maps.has_del_same]
    refine ⟨fun h => (by cases h), ?_⟩
    rintro ⟨y, hy, e1⟩
    have := (hm y).1 hy
    exact absurd (F.inj (ok y this.1) hp e1) this.2
  · rw [Maps.has_del_other e, h kl]
    constructor
    · rintro ⟨y, hy, rfl⟩
      exact ⟨y, (hm y).2 ⟨hy, fun e1 => e (by rw [e1])⟩, rfl⟩
    · rintro ⟨y, hy, rfl⟩
      exact ⟨y, ((hm y).1 hy).1, rfl⟩
theorem readsS_has (F : SKeyFn S pk) {D : DataW Unit} {l : List α} (h : ReadsS pk D l) (ok : ∀ q ∈ l, S.ok q) {p : α} (hp : S.ok p) : Maps.has D (pk p) = true ↔ p ∈ l := by
  rw [h]
  constructor
  · rintro ⟨q, hq, e⟩
    rw [← F.inj (ok q hq) hp e]; exact hq
  · exact fun hq => ⟨p, hq, rfl⟩
/-- Of a range that deletes: those that stay, and those that have not come yet. -/
def keepS (pk : α → Lit) (keep : α → Bool) (left : Lit → Bool) (l : List α) : List α := l.filter fun q => keep q || left (pk q)
theorem keepS_start {D : DataW Unit} {l : List α} (h : ReadsS pk D l) (keep : α → Bool) : keepS pk keep (Maps.has D) l = l :=
  List.filter_eq_self.2 (fun q hq => by rw [(h _).2 ⟨q, hq, rfl⟩]; simp)
theorem keepS_end {keep : α → Bool} {left : Lit → Bool} (l : List α) (h : ∀ kl, left kl = false) : keepS pk keep left l = l.filter keep := by
  unfold keepS
  simp [h]
theorem sameS_iff (F : SKeyFn S pk) {a b : α} (ha : S.ok a) (hb : S.ok b) : (pk a).sameKey (pk b) = true ↔ a = b := by
  constructor
  · intro h
    exact F.inj ha hb (WideAt.sameKey_eq h)
  · rintro rfl
    exact WideAt.sameKey_self (F.lit ha)
theorem sameS_no (F : SKeyFn S pk) {a b : α} (ha : S.ok a) (hb : S.ok b) (e : a ≠ b) : (pk a).sameKey (pk b) = false := by
  cases hs : (pk a).sameKey (pk b)
  · rfl
  · exact absurd ((sameS_iff F ha hb).1 hs) e
theorem keepS_strike (F : SKeyFn S pk) {l : List α} (ok : ∀ q ∈ l, S.ok q) {keep : α → Bool} {left : Lit → Bool} {D : DataW Unit} (h : ReadsS pk D (keepS pk keep left l)) {p : α} (hp : S.ok p) (hk : keep p = false) :
    ReadsS pk (D.del (pk p)) (keepS pk keep (fun z => left z && !z.sameKey (pk p)) l) := by
  refine readsS_del F h (fun q hq => ok q (List.mem_filter.1 hq).1) hp (fun y => ?_)
  simp only [keepS, List.mem_filter]
  by_cases hy : y ∈ l
  · by_cases e : y = p
    · subst e
      simp [hk, (sameS_iff F hp hp).2 rfl]
    · simp [hy, e, sameS_no F (ok y hy) hp e]
  · simp [hy]
theorem keepS_stay (F : SKeyFn S pk) {l : List α} (ok : ∀ q ∈ l, S.ok q) {keep : α → Bool} {left : Lit → Bool} {p : α} (hp : S.ok p) (hk : keep p = true) :
    keepS pk keep (fun z => left z && !z.sameKey (pk p)) l = keepS pk keep left l := by
  unfold keepS
  refine List.filter_congr (fun y hy => ?_)
  by_cases e : y = p
  · subst e
    simp [hk]
  · simp [sameS_no F (ok y hy) hp e]
/-- The map in block b is the set of these members. -/
def SetIs (S : SKey α) (w : World) (b n : Nat) (l : List α) : Prop := (∀ q ∈ l, S.ok q) ∧ ∃ pk, SKeyFn S pk ∧ ∃ D : DataW Unit, w.ownsMap Tryz.prog S.K unitElem b n D ∧ ReadsS pk D l
theorem SetIs.congr {w : World} {b n : Nat} {l l' : List α} (h : SetIs S w b n l) (e : ∀ q, q ∈ l' ↔ q ∈ l) : SetIs S w b n l' :=
  let ⟨ok, pk, F, D, h1, h2⟩ := h
  ⟨fun q hq => ok q ((e q).1 hq), pk, F, D, h1, h2.congr e⟩
theorem SetIs.made (O : S.Ok) (w : World) : SetIs S (w.alloc (.map #[] 0)) w.heap.size 0 [] := by
  obtain ⟨pk, F⟩ := O.fn
  exact ⟨by simp, pk, F, _, World.ownsMap_made _ _ _ _, readsS_nil⟩
theorem SetIs.kept {w w' : World} {b n : Nat} {l : List α} {row : Option Nat} (h : SetIs S w b n l) (hg : w.grownBy w' row) (hne : some b ≠ row) : SetIs S w' b n l :=
  let ⟨ok, pk, F, D, h1, h2⟩ := h
  ⟨ok, pk, F, D, h1.kept hg hne, h2⟩
theorem SetIs.stays {w w' : World} {b n : Nat} {l : List α} (h : SetIs S w b n l) (bel : Below w.heap.size w w') : SetIs S w' b n l := h.kept (grows_below bel) (by simp)
theorem SetIs.but {w w' : World} {b n k : Nat} {l : List α} (h : SetIs S w b n l) (hb : But k w w') (hne : b ≠ k) : SetIs S w' b n l := h.kept hb.grow (by simpa using hne)
theorem SetIs.up {w : World} {b n m : Nat} {l : List α} (h : SetIs S w b n l) (hn : n ≤ m) : SetIs S w b m l :=
  let ⟨ok, pk, F, D, h1, h2⟩ := h
  ⟨ok, pk, F, D, h1.mono hn, h2⟩
theorem SetIs.lt {w : World} {b n : Nat} {l : List α} (h : SetIs S w b n l) : b < w.heap.size := let ⟨_, _, _, _, h1, _⟩ := h; h1.lt
theorem SetIs.blk {w w' : World} {b n : Nat} {l : List α} (h : SetIs S w b n l) (hb : w'.heap[b]? = w.heap[b]?) : SetIs S w' b n l :=
  let ⟨ok, pk, F, D, ⟨es, clock, h1, h2⟩, h3⟩ := h
  ⟨ok, pk, F, D, ⟨es, clock, hb.trans h1, h2⟩, h3⟩
end
/-- Places as members. -/
def PlK : SKey Pla := ⟨92, PlaI, fun p => .agg (plV p)⟩
theorem plV_inj {p q : Pla} (h : Value.agg (plV p) = .agg (plV q)) : p = q := by
  obtain ⟨a, b, c, d⟩ := p
  obtain ⟨a', b', c', d'⟩ := q
  simpa [plV] using h
theorem PlK_ok : PlK.Ok := by
  refine ⟨lawM, fun key kl h => key_inv h, ?_, fun p q h => plV_inj h⟩
  obtain ⟨pk, F⟩ := keyFn_ex
  exact ⟨pk, fun h => F.key h, fun h => F.lit h, fun hp hq e => F.inj hp hq e⟩
/-- Numbers as members. -/
def InK : SKey Int := ⟨3, I64, fun p => .int .i64 p⟩
theorem InK_ok : InK.Ok := by
  have hk := Tryz.underlying3
  refine ⟨int_keyed hk, fun key kl h => ?_, ⟨fun n => .int .i64 n, fun {p} h => keyOf_int_mk hk (WalkArith.wf_i64 h), fun {p} h => ?_, fun _ _ e => ?_⟩, fun p q e => ?_⟩
  · obtain ⟨x, rfl, _, hw⟩ := Maps.keyOf_int_inv hk h
    refine ⟨x, rfl, ?_⟩
    have := hw
    simp [Lit.wf] at this
    exact this
  · exact (int_keyed hk).key (keyOf_int_mk hk (WalkArith.wf_i64 h))
  · simpa using e
  · have e2 : Value.int .i64 p = .int .i64 q := e
    simpa using e2
end Go.Proofs.YtelkpikbjfkpcaaGreat

/- What nobody sees is not stored: plain. -/
namespace Go.Proofs.YtelkpikbjfkpcaaGreat
open Go.ChangeShapes Go.WideShapes Go.ChangeAt Go.RowKit
/-- From the last step to the first: what is known behind k of them, and those of them that stay. -/
def backUp {σ : Type} (f : σ → Nat → σ × Bool) (s0 : σ) (code : List Ins) : Nat → σ × List Ins
  | 0 => (s0, [])
  | k + 1 => ((f (backUp f s0 code k).1 (code.length - 1 - k)).1, if (f (backUp f s0 code k).1 (code.length - 1 - k)).2 = true then code[code.length - 1 - k]! :: (backUp f s0 code k).2 else (backUp f s0 code k).2)
section
variable {σ : Type} {f : σ → Nat → σ × Bool} {s0 : σ} {code : List Ins}
theorem backUp_at {k i : Nat} (hk : k < code.length) (hi : i + k + 1 = code.length) : backUp f s0 code (k + 1) = ((f (backUp f s0 code k).1 i).1, if (f (backUp f s0 code k).1 i).2 = true then code[i]'(by omega) :: (backUp f s0 code k).2 else (backUp f s0 code k).2) := by
  have e : code.length - 1 - k = i := by omega
  simp only [backUp, e]
  rw [getElem!_pos code i (by omega)]
theorem backUp_mem : ∀ k, k ≤ code.length → ∀ y ∈ (backUp f s0 code k).2, y ∈ code
  | 0, _, y, hy => by simp [backUp] at hy
  | k + 1, hk, y, hy => by
    rw [backUp_at (i := code.length - 1 - k) (by omega) (by omega)] at hy
    simp only at hy
    split at hy
    · rcases List.mem_cons.1 hy with rfl | hy
      · exact List.getElem_mem _
      · exact backUp_mem k (by omega) y hy
    · exact backUp_mem k (by omega) y hy
theorem backUp_few : ∀ k, (backUp f s0 code k).2.length ≤ k
  | 0 => by simp [backUp]
  | k + 1 => by
    have := backUp_few k
    simp only [backUp]
    split
    · simp only [List.length_cons]; omega
    · omega
end
instance : Inhabited Pla := ⟨⟨0, 0, 0, 0⟩⟩
def mustP (l : List Pla) (p : Pla) : Bool := l.any fun q => decide (aliasP q p = 2)
def farP (l : List Pla) (p : Pla) : List Pla := l.filter fun q => decide (aliasP q p = 0)
def dsOver (l : List Pla) (x : Ins) (p : Pla) : List Pla := if x.op = 4 then l ++ [p] else if x.op = 3 then farP l p else if x.op = 6 then [] else l
def dsKeep (l : List Pla) (x : Ins) (p : Pla) : Bool := if x.op = 4 then !mustP l p else true
def dsF (code : List Ins) (ps : List Pla) (l : List Pla) (i : Nat) : List Pla × Bool := (dsOver l (code[i]!) (ps[i]!), dsKeep l (code[i]!) (ps[i]!))
theorem dsF_at {code : List Ins} {ps : List Pla} {i : Nat} (h : i < code.length) (hp : i < ps.length) (l : List Pla) : dsF code ps l i = (dsOver l code[i] ps[i], dsKeep l code[i] ps[i]) := by
  unfold dsF
  rw [getElem!_pos code i h, getElem!_pos ps i hp]
theorem must_iff {l : List Pla} {p : Pla} : mustP l p = true ↔ p ∈ l := by
  unfold mustP
  rw [List.any_eq_true]
  constructor
  · rintro ⟨q, hq, e⟩
    have e1 : q = p := alias_two.1 (by simpa using e)
    rw [← e1]; exact hq
  · exact fun h => ⟨p, h, by simpa using alias_two.2 rfl⟩
def dsCode (V : Nat) (code : List Ins) : List Ins := (backUp (dsF code (placesUp V code code.length)) [] code code.length).2
theorem dsCode_mem {V : Nat} {code : List Ins} : ∀ y ∈ dsCode V code, y ∈ code := backUp_mem _ (Nat.le_refl _)
theorem dsCode_few (V : Nat) (code : List Ins) : (dsCode V code).length ≤ code.length := backUp_few _
def dsB (V : Nat) (b : Blk) : Blk := { b with code := dsCode V b.code }
def dsP (g : Gr) : Gr := if grOk g = true then { g with blocks := g.blocks.map (dsB g.slots.toNat) } else g
theorem dsP_ok {g : Gr} (h : grOk g = true) : dsP g = { g with blocks := g.blocks.map (dsB g.slots.toNat) } := by unfold dsP; rw [if_pos h]
theorem dsP_no {g : Gr} (h : ¬ grOk g = true) : dsP g = g := by unfold dsP; rw [if_neg h]
theorem dsOver_mem {l : List Pla} {x : Ins} {p : Pla} : ∀ q ∈ dsOver l x p, q ∈ l ∨ q = p := fun q hq => by
  unfold dsOver farP at hq
  repeat' split at hq
  · rcases List.mem_append.1 hq with h | h
    · exact Or.inl h
    · exact Or.inr (List.mem_singleton.1 h)
  · exact Or.inl (List.mem_filter.1 hq).1
  · simp at hq
  · exact Or.inl hq
theorem dsOver_few (l : List Pla) (x : Ins) (p : Pla) : (dsOver l x p).length ≤ l.length + 1 := by
  have h1 := List.length_filter_le (fun q : Pla => decide (aliasP q p = 0)) l
  unfold dsOver farP
  repeat' split
  all_goals (try simp only [List.length_append, List.length_singleton, List.length_nil])
  all_goals omega
theorem dsUp_few (code : List Ins) (ps : List Pla) : ∀ k, (backUp (dsF code ps) [] code k).1.length ≤ k
  | 0 => by simp [backUp]
  | k + 1 => by
    have ih := dsUp_few code ps k
    have := dsOver_few (backUp (dsF code ps) [] code k).1 (code[code.length - 1 - k]!) (ps[code.length - 1 - k]!)
    simp only [backUp, dsF] at *
    omega
end Go.Proofs.YtelkpikbjfkpcaaGreat

/- The contracts of has and add of a set of places. -/
namespace Go.Proofs.YtelkpikbjfkpcaaGreat
open Go.ChangeShapes Go.WideShapes Go.ChangeAt Go.RowKit Go.Maps
theorem zeroU (w : World) : (zeroValue 116).run Tryz.prog w = .ok (.agg #[]) w := by kernel_rfl
theorem SetIs.must {w : World} {b n : Nat} {l : List Pla} (h : SetIs PlK w b n l) {p : Pla} (hp : PlaI p) : ∃ (D : DataW Unit) (kl : Lit), w.ownsMap Tryz.prog 92 unitElem b n D ∧ keyOf Tryz.prog 92 (.agg (plV p)) = some kl ∧ Maps.has D kl = mustP l p ∧ ∀ W, W.ownsMap Tryz.prog 92 unitElem b (n + 1) (D.put kl (.agg [])) → SetIs PlK W b (n + 1) (l ++ [p]) := by
  obtain ⟨ok, pk, F, D, hown, hrd⟩ := h
  refine ⟨D, pk p, hown, F.key hp, Bool.eq_iff_iff.2 ((readsS_has F hrd ok hp).trans must_iff.symm), fun W hW => ⟨fun q hq => ?_, pk, F, _, hW, readsS_put F hown.isMap hrd hp _⟩⟩
  rcases List.mem_append.1 hq with hq | hq
  · exact ok q hq
  · rw [List.mem_singleton.1 hq]; exact hp
set_option maxRecDepth 100000 in
set_option maxHeartbeats 4000000 in
theorem hasP_any (l : List Pla) (p : Pla) (w : World) (b n : Nat) (h : SetIs PlK w b n l) (hp : PlaI p) :
    Calls Tryz.prog 140 #[.map (some b), .agg (plV p)] w fun e w' => e = .returned (.bool (mustP l p)) ∧ Below w.heap.size w w' := by
  obtain ⟨pr, pi, pj, po⟩ := p
  have al := (Below.refl w.heap.size w).alloc (Nat.le_refl _) (.cells #[.int .i64 pr, .int .i64 pi, .int .i64 pj, .int .i64 po] 92)
  obtain ⟨D, kl, hown, hkey, hm, _⟩ := (h.stays al).must hp
  simp only [plV] at hkey ⊢
  have HM := hideP hm
  obtain ⟨m, hmm⟩ : ∃ m, mustP l ⟨pr, pi, pj, po⟩ = m := ⟨_, rfl⟩
  rw [hmm] at HM ⊢
  have AL2 : Hid (Below w.heap.size w ((w.alloc (.cells #[.int .i64 pr, .int .i64 pi, .int .i64 pj, .int .i64 po] 92)).alloc (.cells #[] 116))) := al.alloc (by simp) _
  clear hm hmm h al
  go_enter Tryz.func140, Tryz.ntmps140
  go_wp2_with (at_lookup; refine wpList_lookup_own_unit _ rfl _ _ 133 rfl 92 116 lawM Tryz.underlying133 (zeroU _) b n D rfl hown _ _ rfl hkey ?_; rw [HM.out])
  go_ret
  exact ⟨rfl, AL2.out⟩
set_option maxRecDepth 100000 in
set_option maxHeartbeats 4000000 in
theorem addP_one (l : List Pla) (p : Pla) (w : World) (b n g cap : Nat) (h : SetIs PlK w b n l) (hp : PlaI p) (hn : n ≤ 1000000) (hg : w.heap[g]? = some (.cells (plV p) 92 (0, 0))) :
    Calls Tryz.prog 141 #[.map (some b), .slice (some ⟨g, 0, none⟩) 1 cap] w fun e w' => e = .returned (.tuple #[]) ∧ SetIs PlK w' b (n + 1) (l ++ [p]) ∧ But b w w' := by
  obtain ⟨pr, pi, pj, po⟩ := p
  have al := (Below.refl w.heap.size w).alloc (Nat.le_refl _) (.cells #[.int .i64 pr, .int .i64 pi, .int .i64 pj, .int .i64 po] 92)
  obtain ⟨D, kl, hown, hkey, _, hput⟩ := (h.stays al).must hp
  simp only [plV] at hkey hg
  have PUT := hideP hput
  have AL := hideP al
  have c := (cells_of hg).1
  have c0 := c 0
  have c1 := c 1
  have c2 := c 2
  have c3 := c 3
  simp at c0 c1 c2 c3
  have hu : unitElem (H := Unit) (.agg #[]) = some (.agg [], []) := unitElem_mk
  clear hput h al hg c
  go_enter Tryz.func141, Tryz.ntmps141
  go_wp2
  go_loopw [8] (fun ix wr => (ix = .int .i64 0 ∧ wr = w) ∨ (ix = .int .i64 1 ∧ Hid (SetIs PlK wr b (n + 1) (l ++ [⟨pr, pi, pj, po⟩])) ∧ Hid (But b w wr))) (fun ix _ => 1 - (intOf ix).toNat)
  case atStart => exact Or.inl ⟨rfl, rfl⟩
  case round =>
    rcases hrel with ⟨rfl, hw⟩ | ⟨rfl, hS, hB⟩
    · have hw2 := hw.symm
      subst hw2
      clear hw
      go_wp2_with (at_mapUpdate; refine wpList_mapUpdate_in _ rfl _ _ _ 133 rfl 92 116 lawM Tryz.underlying133 _ b n _ rfl hown (by unfold maxLen; omega) _ _ _ rfl rfl hkey _ [] hu ?_; intro w5 hown5 hturn5)
      have S5 := hideP (PUT.out _ hown5)
      have B5 := hideP (But.thenB AL.out (But.ofG hturn5.grown))
      clear hown5 hturn5 hown
      go_wp2
      go_roundw
      case rel => exact Or.inr ⟨by go_num, S5.out, B5.out⟩
      case measure => simp [intOf]
    · go_wp2
      go_end0
      exact ⟨rfl, hS.out, hB.out⟩
end Go.Proofs.YtelkpikbjfkpcaaGreat

/- The contracts of maps.DeleteFunc at a set of places, and of impl.storeSeen. -/
namespace Go.Proofs.YtelkpikbjfkpcaaGreat
open Go.ChangeShapes Go.WideShapes Go.ChangeAt Go.RowKit Go.Maps
theorem clear_own {k t e : TypeId} {R : Value → Option (DataW Unit × List MemPlace)} {w : World} {b n : Nat} {D : DataW Unit} (h : w.ownsMap Tryz.prog k R b n D) (ht : Tryz.prog.underlying t = some (.map k e)) (ty : TypeId) :
    ∃ w', (Builtin.clear_ #[t] ty #[.map (some b)]).run Tryz.prog w = .ok (.tuple #[]) w' ∧ w'.ownsMap Tryz.prog k R b n (.map []) ∧ w.mapTurned w' b := by
  obtain ⟨es, clock, hb, F, hs, rfl⟩ := h
  refine ⟨ChangeMaps.setBlock w b (.map #[] clock), ?_, ⟨#[], clock, ChangeMaps.heap_setBlock_same hb _, ⟨by simp, MapKept.stamped_empty _, by simp⟩, Nat.zero_le _, rfl⟩, ⟨es, clock, #[], clock, hb, rfl⟩⟩
  simp [Builtin.clear_, run_underlying ht, MapKept.run_getObj_map hb, MapKept.run_setObj_map _ hb, Result.andThen, ChangeMaps.setBlock]
theorem list_clear {ops : Array Oper} {o : Oper} {a : Act} {Q : Exit → Act → World → Prop} {rest : List Oper} (w : World) (hg : o.guard = none) (m : Operand) (t : TypeId) (hop : o.op = Op.call { callee := Callee.builtin Builtin.clear, args := #[m], argTypes := #[t] })
    (k e : TypeId) (ht : Tryz.prog.underlying t = some (.map k e)) (R : Value → Option (DataW Unit × List MemPlace)) (b n : Nat) (D : DataW Unit) (hm : a.eval m = .map (some b)) (hown : w.ownsMap Tryz.prog k R b n D)
    (hK : ∀ w', w'.ownsMap Tryz.prog k R b n (.map []) → w.mapTurned w' b → wpList Tryz.prog ops Q rest (a.put o.dst (.tuple #[])) w') :
    wpList Tryz.prog ops Q (o :: rest) a w := by
  refine wpList_plain hg fun K' hK' => ?_
  obtain ⟨w', hrun, r1, r2⟩ := clear_own hown ht o.type
  unfold Oper.wp
  simp [execOp, hop, resolve, invoke, builtin, hm, hrun, Result.andThen]
  exact hK' _ _ (hK w' r1 r2)
set_option maxRecDepth 100000 in
set_option maxHeartbeats 4000000 in
theorem seen1_any (q p : Pla) (w : World) (bx : Nat) (hb : w.heap[bx]? = some (.cells (plV p) 92 (0, 0))) :
    Calls Tryz.prog 143 #[.agg (plV q), .agg #[], .pointer (some ⟨bx, 0, none⟩)] w fun e w' => e = .returned (.bool (!decide (aliasP q p = 0))) ∧ Below w.heap.size w w' := by
  obtain ⟨qr, qi, qj, qo⟩ := q
  obtain ⟨pr, pi, pj, po⟩ := p
  simp only [plV] at hb ⊢
  have AL : Hid (Below w.heap.size w ((w.alloc (.cells #[.int .i64 qr, .int .i64 qi, .int .i64 qj, .int .i64 qo] 92)).alloc (.cells #[] 116))) := ((Below.refl w.heap.size w).alloc (Nat.le_refl _) _).alloc (by simp) _
  have hbx := hltP hb
  have y := (cells_of ((AL.out.block _ hbx).trans hb)).1
  have y0 := y 0
  have y1 := y 1
  have y2 := y 2
  have y3 := y 3
  simp at y0 y1 y2 y3
  obtain ⟨al, hal⟩ : ∃ al, aliasP ⟨qr, qi, qj, qo⟩ ⟨pr, pi, pj, po⟩ = al := ⟨_, rfl⟩
  have AI : Hid (∀ W, Calls Tryz.prog 144 #[.agg #[.int .i64 qr, .int .i64 qi, .int .i64 qj, .int .i64 qo], .agg #[.int .i64 pr, .int .i64 pi, .int .i64 pj, .int .i64 po]] W fun e w' => e = .returned (.int .i64 al) ∧ Below W.heap.size W w') := fun W => hal ▸ implAlias_any ⟨qr, qi, qj, qo⟩ ⟨pr, pi, pj, po⟩ W
  rw [hal]
  clear hal y hb
  go_enter Tryz.func143, Tryz.ntmps143
  go_wp2_with (go_at_call 144; refine (AI.out _).mono ?_; rintro e5 w5 ⟨rfl, bel5⟩)
  have E5 := hideP (below_trans AL.out bel5)
  go_ret
  refine ⟨?_, E5.out⟩
  by_cases h : al = 0 <;> simp [h]
set_option maxRecDepth 100000 in
set_option maxHeartbeats 4000000 in
theorem deleteFunc_any (l : List Pla) (p : Pla) (w : World) (b n bx : Nat) (h : SetIs PlK w b n l) (hb : w.heap[bx]? = some (.cells (plV p) 92 (0, 0))) :
    Calls Tryz.prog 142 #[.map (some b), .func (.func 143) #[] #[.pointer (some ⟨bx, 0, none⟩)]] w fun e w' => e = .returned (.tuple #[]) ∧ SetIs PlK w' b n (farP l p) ∧ But b w w' := by
  obtain ⟨ok, pk, F, D, hown, hrd⟩ := h
  have OK := hideP ok
  have HF := hideP F
  have HR := hideP hrd
  have hown : w.ownsMap Tryz.prog 92 unitElem b n D := hown
  obtain ⟨keep, hkeep⟩ : ∃ keep : Pla → Bool, keep = fun q => decide (aliasP q p = 0) := ⟨_, rfl⟩
  have HK := hideP hkeep
  have hb0 := hown.lt
  have hbw := hltP hb
  have hne : bx ≠ b := fun e => by
    obtain ⟨es, clock, h1, _⟩ := hown
    rw [e, h1] at hb
    cases hb
  have C1 : Hid (∀ (q : Pla) W, W.heap[bx]? = some (.cells (plV p) 92 (0, 0)) → Calls Tryz.prog 143 #[.agg #[.int .i64 q.r, .int .i64 q.i, .int .i64 q.j, .int .i64 q.off], .agg #[], .pointer (some ⟨bx, 0, none⟩)] W fun e w' => e = .returned (.bool (!keep q)) ∧ Below W.heap.size W w') := fun q W hW => by
    rw [hkeep]; exact seen1_any q p W bx hW
  have BX := hideP hb
  clear ok F hrd hkeep hb
  go_enter Tryz.func142, Tryz.ntmps142
  go_wp2_with (first
    | (at_range; refine wpList_range_own _ rfl _ 133 rfl 92 116 lawM Tryz.underlying133 _ b n _ rfl hown ?_; intro w0 hrg0 hg0 hs0)
    | go_in)
  go_frame
  go_loopw [8] (fun _ wr => ∃ (left : Lit → Bool) (cnt : Nat) (D' : DataW Unit), wr.ranges Tryz.prog 92 unitElem b w.heap.size n D' left cnt ∧ Hid (ReadsS pk D' (keepS pk keep left l)) ∧ w.grownBy wr (some b) ∧ Hid (wr.heap[bx]? = some (.cells (plV p) 92 (0, 0)))) (fun _ wr => wr.rangeLeft b w.heap.size)
  case atStart => exact ⟨_, _, _, hrg0, by rw [keepS_start HR.out]; exact HR.out, hg0.but _, (hg0.block _ hbw (by simp)).trans BX.out⟩
  case round =>
    obtain ⟨left, cnt, D', hrg, hrd, hgw, hbx⟩ := hrel
    clear hrg0 hg0 hs0 hown
    go_wp2_with (first
      | (at_next; refine wpList_next_ranges _ rfl _ rfl 92 lawM _ (fun x : Pla => Value.agg #[.int .i64 x.r, .int .i64 x.i, .int .i64 x.j, .int .i64 x.off]) (fun _ : Unit => Value.agg #[]) invKM invU b w.heap.size n _ _ _ rfl hrg ?_ ?_)
      | go_in)
    · intro _ hl0
      have E : Hid (keepS pk keep left l = farP l p) := by show _ = _; rw [keepS_end l hl0, HK.out]; rfl
      go_wp2
      go_end0
      exact ⟨rfl, ⟨fun q hq => OK.out q (List.mem_filter.1 hq).1, pk, HF.out, _, hrg.owns, by rw [← E.out]; exact hrd.out⟩, But.ofG hgw⟩
    · intro x kl y yp w1 cnt1 hkey hlk hv hat hrg1 hlt hg1 hs1 hen
      have hin : PlaI x := PlK_ok.of_key (p := x) hkey
      have hkl : kl = pk x := Option.some.inj (hkey.symm.trans (HF.out.key hin))
      subst hkl
      have hgw1 := hgw.andThen hg1 (fun j hj => by cases hj; exact Or.inl (Nat.le_refl _))
      have HIN := hideP hin
      obtain ⟨kl, hkl⟩ : ∃ kl, pk x = kl := ⟨_, rfl⟩
      rw [hkl] at hkey hlk hat hrg1
      have HKL := hideP hkl
      have hal := (hrg1.alloc (.cells #[.int .i64 x.r, .int .i64 x.i, .int .i64 x.j, .int .i64 x.off] 92)).alloc (.cells #[] 116)
      have hgal : w.grownBy ((w1.alloc (.cells #[.int .i64 x.r, .int .i64 x.i, .int .i64 x.j, .int .i64 x.off] 92)).alloc (.cells #[] 116)) (some b) := (hgw1.andThen (World.grownBy_alloc w1 _ none) (fun j hj => by cases hj)).andThen (World.grownBy_alloc _ _ none) (fun j hj => by cases hj)
      clear hin hkl hv hat
      have hx0 := (hg1.block bx (hltP hbx.out) (by simp; omega)).trans hbx.out
      have AL2 := hideP (((Below.refl w1.heap.size w1).alloc (Nat.le_refl _) (.cells #[.int .i64 x.r, .int .i64 x.i, .int .i64 x.j, .int .i64 x.off] 92)).alloc (by simp) (.cells #[] 116))
      have HX0 := hideP ((AL2.out.block bx (hltP hx0)).trans hx0)
      have HX1 : Hid (((w1.alloc (.cells #[.int .i64 x.r, .int .i64 x.i, .int .i64 x.j, .int .i64 x.off] 92)).alloc (.cells #[] 116)).heap[w1.heap.size]? = some (.cells #[.int .i64 x.r, .int .i64 x.i, .int .i64 x.j, .int .i64 x.off] 92)) := (((Below.refl _ _).alloc (Nat.le_refl _) _).block _ (by simp)).trans (blkP w1 _)
      clear hx0 hbx hs1
      go_upto_region 3 with fail
      obtain ⟨wb, hwb⟩ : ∃ wb, (w1.alloc (.cells #[.int .i64 x.r, .int .i64 x.i, .int .i64 x.j, .int .i64 x.off] 92)).alloc (.cells #[] 116) = wb := ⟨_, rfl⟩
      rw [hwb] at hal hgal HX0 HX1 AL2 ⊢
      clear hwb hen
      have x0 := (cells_of HX1.out).1 0
      have x1 := (cells_of HX1.out).1 1
      have x2 := (cells_of HX1.out).1 2
      have x3 := (cells_of HX1.out).1 3
      simp at x0 x1 x2 x3
      obtain ⟨kq, hkq⟩ : ∃ kq, keep x = kq := ⟨_, rfl⟩
      have CX := hideP (C1.out x wb HX0.out)
      rw [hkq] at CX
      have KQ := hideP hkq
      clear hkq
      go_wp2_with fail
      refine CX.out.mono ?_
      rintro e5 w5 ⟨rfl, bel5⟩
      have hrg5 := hal.kept (grows_below bel5) (by simp) (by simp)
      have hg5 := hgal.andThen (grows_below bel5) (fun j hj => by cases hj)
      have HY5 := hideP ((bel5.block _ (hltP HX0.out)).trans HX0.out)
      have X5 := hideP ((bel5.block _ (hltP HX1.out)).trans HX1.out)
      clear bel5 x0 x1 x2 x3 hal hgal HX0 HX1 CX C1 AL2
      have x0 := (cells_of X5.out).1 0
      have x1 := (cells_of X5.out).1 1
      have x2 := (cells_of X5.out).1 2
      have x3 := (cells_of X5.out).1 3
      simp at x0 x1 x2 x3
      cases kq with
      | true =>
        go_wp2
        go_roundw
        case rel =>
          refine ⟨_, cnt1, _, hrg5, ?_, hg5, HY5.out⟩
          rw [← HKL.out, keepS_stay HF.out OK.out HIN.out KQ.out]
          exact hrd.out
        case measure => rw [hrg5.left_eq, hrg.left_eq]; exact hlt
      | false =>
        go_wp2_with (first
          | (at_delete; refine wpList_delete_ranges _ rfl _ _ 133 92 rfl 116 lawM Tryz.underlying133 _ b w.heap.size n _ _ _ rfl hrg5 _ _ rfl hkey ?_; intro w2 cnt2 hrg2 hle hturn; go_frame)
          | go_in)
        rw [strike_twice] at hrg2
        go_roundw
        case rel =>
          refine ⟨_, cnt2, _, hrg2, ?_, hg5.andThen hturn.grown (fun j hj => by cases hj; exact Or.inr rfl), ?_⟩
          · rw [← HKL.out]
            exact keepS_strike HF.out OK.out hrd.out HIN.out KQ.out
          · exact (hturn.grown.block _ (hltP HY5.out) (by simp; omega)).trans HY5.out
        case measure => rw [hrg2.left_eq, hrg.left_eq]; omega
end Go.Proofs.YtelkpikbjfkpcaaGreat

/- The contract of impl.storeSeen. -/
namespace Go.Proofs.YtelkpikbjfkpcaaGreat
open Go.ChangeShapes Go.WideShapes Go.ChangeAt Go.RowKit Go.Maps
/-- Behind the boxes of a step and a place. -/
structure SsAt (w : World) (xs ps : Array Value) (b n : Nat) (l : List Pla) (W : World) : Prop where
  bx : W.heap[w.heap.size]? = some (.cells xs 56 (0, 0))
  bp : W.heap[w.heap.size + 1]? = some (.cells ps 92 (0, 0))
  set : SetIs PlK W b n l
  but : But b w W
  low : b < w.heap.size
theorem SsAt.next {w W W' : World} {xs ps : Array Value} {b n n' : Nat} {l l' : List Pla} (h : SsAt w xs ps b n l W) (hb : But b W W') (hm : SetIs PlK W' b n' l') : SsAt w xs ps b n' l' W' :=
  have hl := h.low
  ⟨hb.keepB h.bx (by omega), hb.keepB h.bp (by omega), hm, h.but.twice hb, hl⟩
theorem SsAt.start {w : World} {xs ps : Array Value} {b n : Nat} {l : List Pla} (h : SetIs PlK w b n l) : SsAt w xs ps b n l ((w.alloc (.cells xs 56)).alloc (.cells ps 92)) := by
  have bl := below2 w (.cells xs 56) (.cells ps 92)
  have tw := two (w := w) (o1 := .cells xs 56) (o2 := .cells ps 92) (Below.refl _ _)
  exact ⟨tw.1, tw.2.1, h.stays bl, But.thenB bl (But.refl _ _), h.lt⟩
theorem ds_must {l : List Pla} {x : Ins} {p : Pla} (ho : x.op = 4) (hm : mustP l p = true) : dsKeep l x p = false ∧ ∀ q, q ∈ dsOver l x p ↔ q ∈ l := by
  unfold dsKeep dsOver
  rw [if_pos ho, if_pos ho, hm]
  refine ⟨rfl, fun q => ?_⟩
  rw [List.mem_append, List.mem_singleton]
  exact ⟨fun h => h.elim id (fun e => e ▸ must_iff.1 hm), Or.inl⟩
theorem ds_store {l : List Pla} {x : Ins} {p : Pla} (ho : x.op = 4) (hm : mustP l p = false) : dsKeep l x p = true ∧ dsOver l x p = l ++ [p] := by
  unfold dsKeep dsOver
  rw [if_pos ho, if_pos ho, hm]
  exact ⟨rfl, rfl⟩
theorem ds_load {l : List Pla} {x : Ins} {p : Pla} (ho : x.op = 3) : dsKeep l x p = true ∧ dsOver l x p = farP l p := by
  unfold dsKeep dsOver
  rw [if_neg (by omega), if_neg (by omega), if_pos ho]
  exact ⟨rfl, rfl⟩
theorem ds_put {l : List Pla} {x : Ins} {p : Pla} (ho : x.op = 6) : dsKeep l x p = true ∧ dsOver l x p = [] := by
  unfold dsKeep dsOver
  rw [if_neg (by omega), if_neg (by omega), if_neg (by omega), if_pos ho]
  exact ⟨rfl, rfl⟩
theorem ds_else {l : List Pla} {x : Ins} {p : Pla} (h4 : x.op ≠ 4) (h3 : x.op ≠ 3) (h6 : x.op ≠ 6) : dsKeep l x p = true ∧ dsOver l x p = l := by
  unfold dsKeep dsOver
  rw [if_neg h4, if_neg h4, if_neg h3, if_neg h6]
  exact ⟨rfl, rfl⟩
set_option maxRecDepth 100000 in
set_option maxHeartbeats 4000000 in
theorem storeSeen_any (l : List Pla) (x : Ins) (p : Pla) (w : World) (b n : Nat) (h : SetIs PlK w b n l) (hp : PlaI p) (hn : n ≤ 1000000) :
    Calls Tryz.prog 111 #[.map (some b), .agg (insV x), .agg (plV p)] w fun e w' => e = .returned (.bool (dsKeep l x p)) ∧ SetIs PlK w' b (n + 1) (dsOver l x p) ∧ But b w w' := by
  have D4 := hideP (fun h1 h2 => ds_must (l := l) (x := x) (p := p) h1 h2)
  have D4' := hideP (fun h1 h2 => ds_store (l := l) (x := x) (p := p) h1 h2)
  have D3 := hideP (fun h1 => ds_load (l := l) (x := x) (p := p) h1)
  have D6 := hideP (fun h1 => ds_put (l := l) (x := x) (p := p) h1)
  have DE := hideP (fun h1 h2 h3 => ds_else (l := l) (x := x) (p := p) h1 h2 h3)
  obtain ⟨kk, hkk⟩ : ∃ kk, dsKeep l x p = kk := ⟨_, rfl⟩
  obtain ⟨oo, hoo⟩ : ∃ oo, dsOver l x p = oo := ⟨_, rfl⟩
  rw [hkk, hoo] at D4 D4' D3 D6 DE ⊢
  clear hkk hoo
  obtain ⟨op, d, a, b0, c0, nn, t⟩ := x
  obtain ⟨mm, hmm⟩ : ∃ mm, mustP l p = mm := ⟨_, rfl⟩
  rw [hmm] at D4 D4'
  have HH : Hid (∀ W, SetIs PlK W b n l → Calls Tryz.prog 140 #[.map (some b), .agg (plV p)] W fun e w' => e = .returned (.bool mm) ∧ Below W.heap.size W w') := fun W hW => hmm ▸ hasP_any l p W b n hW hp
  have HA : Hid (∀ W g cap, SetIs PlK W b n l → W.heap[g]? = some (.cells (plV p) 92 (0, 0)) → Calls Tryz.prog 141 #[.map (some b), .slice (some ⟨g, 0, none⟩) 1 cap] W fun e w' => e = .returned (.tuple #[]) ∧ SetIs PlK w' b (n + 1) (l ++ [p]) ∧ But b W w') := fun W g cap hW hg => addP_one l p W b n g cap hW hp hn hg
  have HD : Hid (∀ W bx, SetIs PlK W b n l → W.heap[bx]? = some (.cells (plV p) 92 (0, 0)) → Calls Tryz.prog 142 #[.map (some b), .func (.func 143) #[] #[.pointer (some ⟨bx, 0, none⟩)]] W fun e w' => e = .returned (.tuple #[]) ∧ SetIs PlK w' b n (farP l p) ∧ But b W w') := fun W bx hW hg => deleteFunc_any l p W b n bx hW hg
  clear hmm
  obtain ⟨pr, pi, pj, po⟩ := p
  simp only [insV, plV] at *
  have ST := hideP (SsAt.start (xs := #[.int .i64 op, .int .i64 d, .int .i64 a, .int .i64 b0, .int .i64 c0, .int .i64 nn, .string t]) (ps := #[.int .i64 pr, .int .i64 pi, .int .i64 pj, .int .i64 po]) h)
  clear h
  go_enter Tryz.func111, Tryz.ntmps111
  go_upto_region 1 with fail
  obtain ⟨wb, hwb⟩ : ∃ wb, (w.alloc (.cells #[.int .i64 op, .int .i64 d, .int .i64 a, .int .i64 b0, .int .i64 c0, .int .i64 nn, .string t] 56)).alloc (.cells #[.int .i64 pr, .int .i64 pi, .int .i64 pj, .int .i64 po] 92) = wb := ⟨_, rfl⟩
  rw [hwb] at ST ⊢
  clear hwb
  have x0 := (cells_of ST.out.bx).1 0
  have p0 := (cells_of ST.out.bp).1 0
  have p1 := (cells_of ST.out.bp).1 1
  have p2 := (cells_of ST.out.bp).1 2
  have p3 := (cells_of ST.out.bp).1 3
  simp at x0 p0 p1 p2 p3
  by_cases h4 : op = 4
  · subst h4
    cases mm with
    | true =>
      go_wp2_with fail
      refine (HH.out _ ST.out.set).mono ?_
      rintro e4 w4 ⟨rfl, b4⟩
      have R := D4.out trivial trivial
      have K := hideP R.1
      have S4 := hideP ((ST.out.next (But.ofBelowP b4) (ST.out.set.stays b4)))
      have E4 := hideP ((S4.out.set.congr R.2).up (Nat.le_succ n))
      clear x0 p0 p1 p2 p3 ST R b4 HH HA HD D4 D4' D3 D6 DE
      go_wp2
      go_ret
      exact ⟨by rw [K.out]; rfl, E4.out, S4.out.but⟩
    | false =>
      go_wp2_with fail
      refine (HH.out _ ST.out.set).mono ?_
      rintro e4 w4 ⟨rfl, b4⟩
      have R := D4'.out trivial trivial
      have K := hideP R.1
      have KO := hideP R.2
      have S4 := hideP ((ST.out.next (But.ofBelowP b4) (ST.out.set.stays b4)))
      clear x0 p0 p1 p2 p3 ST R b4 HH HD D4 D4' D3 D6 DE
      have p0 := (cells_of S4.out.bp).1 0
      have p1 := (cells_of S4.out.bp).1 1
      have p2 := (cells_of S4.out.bp).1 2
      have p3 := (cells_of S4.out.bp).1 3
      simp at p0 p1 p2 p3
      have al := (Below.refl w4.heap.size w4).alloc (Nat.le_refl _) (.cells #[.int .i64 pr, .int .i64 pi, .int .i64 pj, .int .i64 po] 92)
      have C := hideP (HA.out (w4.alloc (.cells #[.int .i64 pr, .int .i64 pi, .int .i64 pj, .int .i64 po] 92)) w4.heap.size 1 (S4.out.set.stays al) (blkP w4 _))
      have AL := hideP al
      clear al HA
      go_wp2_with fail
      refine C.out.mono ?_
      rintro e5 w5 ⟨rfl, s5, b5⟩
      have S5 := hideP (S4.out.next (But.thenB AL.out b5) s5)
      rw [← KO.out] at S5
      clear s5 b5 C AL S4 p0 p1 p2 p3
      go_wp2
      go_ret
      exact ⟨by rw [K.out]; rfl, S5.out.set, S5.out.but⟩
  · by_cases h3 : op = 3
    · subst h3
      have R := D3.out rfl
      have K := hideP R.1
      have KO := hideP R.2
      have hmf : ∀ (fn : Fn) (first cap : Array Value) (w : World), (Instr.makeFunc fn first cap).run Tryz.prog w = .ok (.func fn first cap) w := fun _ _ _ _ => rfl
      have C := hideP (HD.out wb (w.heap.size + 1) ST.out.set ST.out.bp)
      clear R HH HA HD D4 D4' D3 D6 DE
      go_wp2_with fail
      refine C.out.mono ?_
      rintro e5 w5 ⟨rfl, s5, b5⟩
      have S5 := hideP (ST.out.next b5 (s5.up (Nat.le_succ n)))
      rw [← KO.out] at S5
      clear s5 b5 C x0 p0 p1 p2 p3 hmf
      go_wp2
      go_ret
      exact ⟨by rw [K.out]; rfl, S5.out.set, S5.out.but⟩
    · by_cases h6 : op = 6
      · subst h6
        have R := D6.out rfl
        have K := hideP R.1
        have KO := hideP R.2
        obtain ⟨ok, pk, F, D, hown, hrd⟩ := ST.out.set
        have hown : wb.ownsMap Tryz.prog 92 unitElem b n D := hown
        have CL : Hid (∀ W, W.ownsMap Tryz.prog 92 unitElem b n (.map []) → SetIs PlK W b (n + 1) oo) := fun W hW => by
          rw [R.2]
          exact SetIs.up ⟨by simp, pk, F, _, hW, readsS_nil⟩ (Nat.le_succ n)
        clear R HH HA HD D4 D4' D3 D6 DE ok F hrd
        go_upto_region 9 with fail
        go_wp2_with (refine list_clear _ rfl _ 133 rfl 92 116 Tryz.underlying133 unitElem b n D rfl hown ?_; intro w5 hown5 hturn5)
        have S5 := hideP (ST.out.next (But.ofG hturn5.grown) (CL.out _ hown5))
        clear hown5 hturn5 hown CL
        go_wp2
        go_ret
        exact ⟨by rw [K.out]; rfl, S5.out.set, S5.out.but⟩
      · have R := DE.out h4 h3 h6
        have K := hideP R.1
        have KO := hideP R.2
        clear R HH HA HD D4 D4' D3 D6 DE
        go_wp2
        go_ret
        exact ⟨by rw [K.out]; rfl, by rw [KO.out]; exact ST.out.set.up (Nat.le_succ n), ST.out.but⟩
end Go.Proofs.YtelkpikbjfkpcaaGreat
