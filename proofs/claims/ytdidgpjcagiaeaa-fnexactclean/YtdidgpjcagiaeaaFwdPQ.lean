/- What is known is not loaded: plain. -/
import Derived.Test.YtdidgpjcagiaeaaHasP
import Derived.Test.YtdidgpjcagiaeaaAliB
import Derived.Maps.RangeWalk
import Derived.Maps.OwnSet
import Derived.Maps.OwnOps
import Derived.DeepKeys4
import Derived.Deep.CutRange
import Derived.Deep.RegionHeld3
import Derived.Test.YtdidgpjcagiaeaaLedAll
import Derived.Laws.Rows
import Derived.Deep.LoopGhost
import Derived.Test.YtdidgpjcagiaeaaMksAll
namespace Go.Proofs.Ytdidgpjcagiaeaa
open Go.ChangeShapes Go.WideShapes Go.ChangeAt Go.RowKit
/-- A pair: a place and a slot. -/
abbrev Pai := Pla × Int
def PlaI (p : Pla) : Prop := I64 p.r ∧ I64 p.i ∧ I64 p.j ∧ I64 p.off
def dropF (l : List Pai) (d : Int) : List Pai := l.filter fun q => decide (q.2 ≠ d)
def overF (l : List Pai) (p : Pla) : List Pai := l.filter fun q => decide (aliasP q.1 p = 0)
def knowF (l : List Pai) (p : Pla) : Int := match l.find? (fun q => decide (aliasP q.1 p = 2)) with | some q => q.2 | none => -1
def movF (d s : Int) : Ins := ⟨1, d, s, 0, 0, 0, ByteArray.empty⟩
def stepF (l : List Pai) (x : Ins) (p : Pla) : List Pai × Ins :=
  if x.op = 4 then (overF l p ++ [(p, x.c)], x)
  else if x.op = 3 then (if 0 ≤ knowF l p then (dropF l x.d, movF x.d (knowF l p)) else (dropF l x.d ++ [(p, x.d)], x))
  else if x.op = 6 then (l, x)
  else (dropF l x.d, x)
/-- The pairs, and the steps, behind the first j. -/
def fwdUp (code : List Ins) (ps : List Pla) : Nat → List Pai × List Ins
  | 0 => ([], [])
  | j + 1 => match code[j]?, ps[j]? with
    | some x, some p => ((stepF (fwdUp code ps j).1 x p).1, (fwdUp code ps j).2 ++ [(stepF (fwdUp code ps j).1 x p).2])
    | _, _ => fwdUp code ps j
theorem fwdUp_at {code : List Ins} {ps : List Pla} {j : Nat} (h : j < code.length) (h2 : j < ps.length) : fwdUp code ps (j + 1) = ((stepF (fwdUp code ps j).1 code[j] ps[j]).1, (fwdUp code ps j).2 ++ [(stepF (fwdUp code ps j).1 code[j] ps[j]).2]) := by
  show (match code[j]?, ps[j]? with | some x, some p => _ | _, _ => _) = _
  rw [List.getElem?_eq_getElem h, List.getElem?_eq_getElem h2]
theorem fwdUp_len {code : List Ins} {ps : List Pla} (hp : ps.length = code.length) : ∀ j, j ≤ code.length → (fwdUp code ps j).2.length = j
  | 0, _ => rfl
  | j + 1, h => by rw [fwdUp_at (by omega) (by omega), List.length_append, fwdUp_len hp j (by omega)]; rfl
def fwdCode (V : Nat) (code : List Ins) : List Ins := (fwdUp code (placesUp V code code.length) code.length).2
theorem fwdCode_len (V : Nat) (code : List Ins) : (fwdCode V code).length = code.length := fwdUp_len (placesUp_len V code _ (Nat.le_refl _)) _ (Nat.le_refl _)
def fwdB (V : Nat) (b : Blk) : Blk := { b with code := fwdCode V b.code }
def fwdP (g : Gr) : Gr := if grOk g = true then { g with blocks := g.blocks.map (fwdB g.slots.toNat) } else g
theorem fwdP_ok {g : Gr} (h : grOk g = true) : fwdP g = { g with blocks := g.blocks.map (fwdB g.slots.toNat) } := by unfold fwdP; rw [if_pos h]
theorem fwdP_no {g : Gr} (h : ¬ grOk g = true) : fwdP g = g := by unfold fwdP; rw [if_neg h]
theorem alias_two {a b : Pla} : aliasP a b = 2 ↔ a = b := by
  obtain ⟨r, i, j, o⟩ := a
  obtain ⟨r', i', j', o'⟩ := b
  unfold aliasP
  simp only [Pla.mk.injEq]
  repeat' split
  all_goals simp_all
/-- No place stands twice; each slot is there. -/
structure PaiOk (l : List Pai) : Prop where
  nod : (l.map (·.1)).Nodup
  pla : ∀ q ∈ l, PlaI q.1
  slot : ∀ q ∈ l, 0 ≤ q.2 ∧ I64 q.2
theorem PaiOk.sub {l l' : List Pai} (h : PaiOk l) (hs : l'.Sublist l) : PaiOk l' :=
  ⟨h.nod.sublist (hs.map _), fun q hq => h.pla q (hs.subset hq), fun q hq => h.slot q (hs.subset hq)⟩
theorem PaiOk.drop {l : List Pai} (h : PaiOk l) (d : Int) : PaiOk (dropF l d) := h.sub List.filter_sublist
theorem PaiOk.over {l : List Pai} (h : PaiOk l) (p : Pla) : PaiOk (overF l p) := h.sub List.filter_sublist
theorem PaiOk.snoc {l : List Pai} (h : PaiOk l) {p : Pla} {c : Int} (hn : ∀ q ∈ l, q.1 ≠ p) (hp : PlaI p) (hc : 0 ≤ c ∧ I64 c) : PaiOk (l ++ [(p, c)]) := by
  refine ⟨?_, fun q hq => ?_, fun q hq => ?_⟩
  · rw [List.map_append, List.nodup_append]
    refine ⟨h.nod, by simp, fun a ha b hb => ?_⟩
    obtain ⟨q, hq, rfl⟩ := List.mem_map.1 ha
    simp only [List.map_cons, List.map_nil, List.mem_singleton] at hb
    rw [hb]; exact hn q hq
  · rcases List.mem_append.1 hq with hq | hq
    · exact h.pla q hq
    · rw [List.mem_singleton.1 hq]; exact hp
  · rcases List.mem_append.1 hq with hq | hq
    · exact h.slot q hq
    · rw [List.mem_singleton.1 hq]; exact hc
theorem inj_nod : ∀ {l : List Pai}, (l.map (·.1)).Nodup → ∀ {a b : Pai}, a ∈ l → b ∈ l → a.1 = b.1 → a = b
  | [], _, _, _, ha, _, _ => absurd ha (by simp)
  | x :: l, h, a, b, ha, hb, e => by
    rw [List.map_cons, List.nodup_cons] at h
    rcases List.mem_cons.1 ha with rfl | ha'
    · rcases List.mem_cons.1 hb with rfl | hb'
      · rfl
      · exact absurd (e ▸ List.mem_map.2 ⟨b, hb', rfl⟩) h.1
    · rcases List.mem_cons.1 hb with rfl | hb'
      · exact absurd (e ▸ List.mem_map.2 ⟨a, ha', rfl⟩) h.1
      · exact inj_nod h.2 ha' hb' e
theorem know_none {l : List Pai} {p : Pla} (h : ∀ q ∈ l, q.1 ≠ p) : knowF l p = -1 := by
  unfold knowF
  rw [List.find?_eq_none.2 (fun q hq => by simpa using fun e => h q hq (alias_two.1 e))]
theorem know_some {l : List Pai} (h : PaiOk l) {q : Pai} (hq : q ∈ l) : knowF l q.1 = q.2 := by
  unfold knowF
  cases hf : l.find? (fun x => decide (aliasP x.1 q.1 = 2)) with
  | none => exact absurd (alias_two.2 rfl) (by simpa using List.find?_eq_none.1 hf q hq)
  | some x =>
    have h1 := List.find?_some hf
    have h2 := List.mem_of_find?_eq_some hf
    have e : x.1 = q.1 := alias_two.1 (by simpa using h1)
    rw [inj_nod h.nod h2 hq e]
theorem over_ne {l : List Pai} {p : Pla} : ∀ q ∈ overF l p, q.1 ≠ p := fun q hq e => by
  have := (List.mem_filter.1 hq).2
  rw [e] at this
  have h2 : aliasP p p = 2 := alias_two.2 rfl
  simp [h2] at this
theorem know_neg {l : List Pai} (h : PaiOk l) {p : Pla} (hk : ¬ 0 ≤ knowF l p) : ∀ q ∈ l, q.1 ≠ p := fun q hq e => by
  have := know_some h hq
  rw [e] at this
  have := (h.slot q hq).1
  omega
theorem drop_noslot {l : List Pai} (h : PaiOk l) {d : Int} (hd : d < 0) : dropF l d = l := List.filter_eq_self.2 (fun q hq => by have := (h.slot q hq).1; simp; omega)
/-- A step that is right keeps the pairs right. -/
theorem stepF_ok {l : List Pai} (h : PaiOk l) {x : Ins} {p : Pla} (hp : PlaI p) (hd : x.op = 3 → 0 ≤ x.d) (hc : x.op = 4 → 0 ≤ x.c) (hw : x.wf) : PaiOk (stepF l x p).1 := by
  unfold stepF
  split
  · rename_i e
    exact (h.over p).snoc over_ne hp ⟨hc e, hw.2.2.2.2.1⟩
  · split
    · rename_i e
      split
      · exact h.drop _
      · rename_i hk
        exact (h.drop _).snoc (fun q hq => know_neg h hk q (List.mem_filter.1 hq).1) hp ⟨hd e, hw.2.1⟩
    · split
      · exact h
      · exact h.drop _
theorem know_i64 {l : List Pai} (h : PaiOk l) (p : Pla) : I64 (knowF l p) := by
  unfold knowF
  cases hf : l.find? (fun x => decide (aliasP x.1 p = 2)) with
  | none => exact ⟨by show (-9223372036854775808 : Int) ≤ -1; omega, by show (-1 : Int) ≤ _; omega⟩
  | some x => exact (h.slot x (List.mem_of_find?_eq_some hf)).2
theorem stepF_wf {l : List Pai} (h : PaiOk l) {x : Ins} {p : Pla} (hw : x.wf) (hs : x.t.size ≤ maxLen) : (stepF l x p).2.wf ∧ (stepF l x p).2.t.size ≤ maxLen := by
  unfold stepF
  split
  · exact ⟨hw, hs⟩
  · split
    · split
      · have z : I64 0 := ⟨by omega, by omega⟩
        exact ⟨⟨⟨by simp only [movF]; omega, by simp only [movF]; omega⟩, hw.2.1, know_i64 h p, z, z, z⟩, by simp [movF]⟩
      · exact ⟨hw, hs⟩
    · split <;> exact ⟨hw, hs⟩
/-- The step at place p is right. -/
def StOk (x : Ins) (p : Pla) : Prop := PlaI p ∧ x.wf ∧ x.t.size ≤ maxLen ∧ (x.op = 3 → 0 ≤ x.d) ∧ (x.op = 4 → 0 ≤ x.c)
theorem fwdUp_ok {code : List Ins} {ps : List Pla} (hp : ps.length = code.length) (h : ∀ j (h1 : j < code.length) (h2 : j < ps.length), StOk code[j] ps[j]) : ∀ j, j ≤ code.length → PaiOk (fwdUp code ps j).1 ∧ ∀ y ∈ (fwdUp code ps j).2, y.wf ∧ y.t.size ≤ maxLen
  | 0, _ => ⟨⟨by simp [fwdUp], by simp [fwdUp], by simp [fwdUp]⟩, by simp [fwdUp]⟩
  | j + 1, hj => by
    obtain ⟨h1, h2⟩ := fwdUp_ok hp h j (by omega)
    obtain ⟨s1, s2, s3, s4, s5⟩ := h j (by omega) (by omega)
    rw [fwdUp_at (by omega) (by omega)]
    refine ⟨stepF_ok h1 s1 s4 s5 s2, fun y hy => ?_⟩
    rcases List.mem_append.1 hy with hy | hy
    · exact h2 y hy
    · rw [List.mem_singleton.1 hy]; exact stepF_wf h1 s2 s3
end Go.Proofs.Ytdidgpjcagiaeaa

/- A map keyed by places: what it reads as, how a range that deletes goes. -/
namespace Go.Proofs.Ytdidgpjcagiaeaa
open Go.ChangeShapes Go.WideShapes Go.ChangeAt Go.RowKit Go.Maps
theorem laidM : laidOutB Try.prog = true := by kernel_rfl
theorem rowM : (73 : TypeId) < Try.prog.types.size := of_decide_eq_true (by kernel_rfl)
theorem lawM : Keyed Try.prog 73 := Keyed.of_law (deep_law_laid laidM (m := 2) (by omega) rowM (by kernel_rfl) (by rw [Try.underlying73]))
theorem keyTyM : Try.prog.keyType 73 = true := by kernel_rfl
theorem cellsM : Try.prog.cellsOf 73 = 4 := by kernel_rfl
theorem cellsI : Try.prog.cellsOf 3 = 1 := by kernel_rfl
theorem depthM : ∃ d, Try.prog.types.size = d + 1 := Nat.exists_eq_succ_of_ne_zero (Nat.ne_of_gt (Nat.lt_of_le_of_lt (Nat.zero_le _) rowM))
theorem zeroM (w : World) : (zeroValue 3).run Try.prog w = .ok (.int .i64 0) w := by kernel_rfl
def litV : Value → Option (List Lit)
  | .int q n => if q = .i64 ∧ (Lit.int .i64 n).wf = true then some [.int .i64 n] else none
  | _ => none
theorem litInt (d : Nat) (v : Value) : Try.prog.keyLits (d + 1) 3 [v] = litV v := by
  unfold Program.keyLits
  rw [Try.underlying3]
  cases v <;> rfl
theorem litV_some {v : Value} {x : List Lit} (h : litV v = some x) : ∃ n, v = .int .i64 n ∧ I64 n := by
  cases v <;> simp only [litV] at h
  all_goals first | (cases h; done) | skip
  split at h
  · rename_i hw
    obtain ⟨rfl, hw⟩ := hw
    refine ⟨_, rfl, ?_⟩
    have := hw
    simp [Lit.wf] at this
    exact this
  · cases h
theorem litV_mk {n : Int} (h : I64 n) : litV (.int .i64 n) = some [.int .i64 n] := by
  have : (Lit.int .i64 n).wf = true := WalkArith.wf_i64 h
  simp [litV, this]
theorem keyLits4 (m : Nat) (a b c d : Value) : Try.prog.keyLits (m + 1 + 1) 73 [a, b, c, d] = ([a, b, c, d].mapM litV).map List.flatten := by
  unfold Program.keyLits
  rw [Try.underlying73]
  simp [cellsM, cellsI, litInt]
theorem keyOf4 {v : Value} : ∃ m, keyOf Try.prog 73 v = if v.formed Try.prog 73 = true then (Try.prog.keyLits (m + 1 + 1) 73 v.cells.toList).map fun ls => Lit.string (keyBytes ls) else none := by
  obtain ⟨m, hm⟩ := depthM
  refine ⟨m, ?_⟩
  unfold keyOf
  rw [hm, Try.underlying73]
  simp only [keyTyM, Bool.true_and]
theorem key_ex {p : Pla} (h : PlaI p) : ∃ kl, keyOf Try.prog 73 (.agg (plV p)) = some kl := by
  obtain ⟨m, e⟩ := keyOf4 (v := .agg (plV p))
  have hf : (Value.agg (plV p)).formed Try.prog 73 = true := by simp [Value.formed, Try.underlying73, cellsM, plV]
  rw [e, if_pos hf]
  have hc : (Value.agg (plV p)).cells.toList = [.int .i64 p.r, .int .i64 p.i, .int .i64 p.j, .int .i64 p.off] := rfl
  rw [hc, keyLits4]
  simp only [List.mapM_cons, List.mapM_nil, litV_mk h.1, litV_mk h.2.1, litV_mk h.2.2.1, litV_mk h.2.2.2]
  exact ⟨_, rfl⟩
theorem size4 {cs : Array Value} (h : cs.size = 4) : ∃ a b c d, cs = #[a, b, c, d] := by
  obtain ⟨l⟩ := cs
  match l, h with
  | [a, b, c, d], _ => exact ⟨a, b, c, d, rfl⟩
theorem formed4 {v : Value} (h : v.formed Try.prog 73 = true) : ∃ a b c d, v = .agg #[a, b, c, d] := by
  cases v with
  | agg cs =>
    have hs : cs.size = 4 := by simpa only [Value.formed, Try.underlying73, cellsM, beq_iff_eq] using h
    obtain ⟨a, b, c, d, rfl⟩ := size4 hs
    exact ⟨a, b, c, d, rfl⟩
  | _ => exact absurd h (by simp [Value.formed, Try.underlying73])
theorem key_inv {v : Value} {kl : Lit} (h : keyOf Try.prog 73 v = some kl) : ∃ p, v = .agg (plV p) ∧ PlaI p := by
  obtain ⟨m, e⟩ := keyOf4 (v := v)
  rw [e] at h
  clear e
  by_cases hf : v.formed Try.prog 73 = true
  · rw [if_pos hf] at h
    obtain ⟨a, b, c, d, rfl⟩ := formed4 hf
    have hc : (Value.agg #[a, b, c, d]).cells.toList = [a, b, c, d] := rfl
    rw [hc, keyLits4] at h
    clear hf hc
    simp only [List.mapM_cons, List.mapM_nil] at h
    cases ha : litV a with
    | none => rw [ha] at h; cases h
    | some xa =>
    cases hb : litV b with
    | none => rw [ha, hb] at h; cases h
    | some xb =>
    cases hcc : litV c with
    | none => rw [ha, hb, hcc] at h; cases h
    | some xc =>
    cases hd : litV d with
    | none => rw [ha, hb, hcc, hd] at h; cases h
    | some xd =>
    obtain ⟨na, rfl, ia⟩ := litV_some ha
    obtain ⟨nb, rfl, ib⟩ := litV_some hb
    obtain ⟨nc, rfl, ic⟩ := litV_some hcc
    obtain ⟨nd, rfl, id⟩ := litV_some hd
    exact ⟨⟨na, nb, nc, nd⟩, rfl, ia, ib, ic, id⟩
  · rw [if_neg hf] at h; cases h
/-- What each place reads as, as a key. -/
structure KeyFn (pk : Pla → Lit) : Prop where
  key : ∀ {p : Pla}, PlaI p → keyOf Try.prog 73 (.agg (plV p)) = some (pk p)
  lit : ∀ {p : Pla}, PlaI p → WideAt.IsKeyLit (pk p)
  inj : ∀ {p q : Pla}, PlaI p → PlaI q → pk p = pk q → p = q
theorem keyFn_ex : ∃ pk, KeyFn pk := by
  have ex : ∀ p : Pla, ∃ kl, PlaI p → keyOf Try.prog 73 (.agg (plV p)) = some kl := fun p => by
    by_cases h : PlaI p
    · obtain ⟨kl, e⟩ := key_ex h
      exact ⟨kl, fun _ => e⟩
    · exact ⟨.bool false, fun h' => absurd h' h⟩
  obtain ⟨pk, hpk⟩ := Classical.axiomOfChoice ex
  refine ⟨pk, fun {p} h => hpk p h, fun {p} h => lawM.key (hpk p h), fun {p q} hp hq e => ?_⟩
  have e := lawM.inj (hpk p hp) (e ▸ hpk q hq)
  obtain ⟨a, b, c, d⟩ := p
  obtain ⟨a', b', c', d'⟩ := q
  simpa [plV] using e
section
variable {pk : Pla → Lit}
/-- The map reads as these pairs. -/
structure ReadsP (pk : Pla → Lit) (D : DataW Unit) (l : List Pai) : Prop where
  has : ∀ kl, Maps.has D kl = true ↔ ∃ q ∈ l, pk q.1 = kl
  at' : ∀ q ∈ l, ∀ z, D.atKey (pk q.1) z = .lit (.int .i64 q.2)
def keepL (pk : Pla → Lit) (keep : Pai → Bool) (left : Lit → Bool) (l : List Pai) : List Pai := l.filter fun q => keep q || left (pk q.1)
theorem keep_start {D : DataW Unit} {l : List Pai} (h : ReadsP pk D l) (keep : Pai → Bool) : keepL pk keep (Maps.has D) l = l :=
  List.filter_eq_self.2 (fun q hq => by rw [(h.has _).2 ⟨q, hq, rfl⟩]; simp)
theorem keep_end {keep : Pai → Bool} {left : Lit → Bool} (l : List Pai) (h : ∀ kl, left kl = false) : keepL pk keep left l = l.filter keep := by
  unfold keepL
  simp [h]
theorem same_iff (F : KeyFn pk) {a b : Pla} (ha : PlaI a) (hb : PlaI b) : (pk a).sameKey (pk b) = true ↔ a = b := by
  constructor
  · intro h
    exact F.inj ha hb (WideAt.sameKey_eq h)
  · rintro rfl
    exact WideAt.sameKey_self (F.lit ha)
/-- The pair q goes. -/
theorem keep_strike (F : KeyFn pk) {l : List Pai} (ok : PaiOk l) {keep : Pai → Bool} {left : Lit → Bool} {D : DataW Unit} (h : ReadsP pk D (keepL pk keep left l)) {q : Pai} (hq : q ∈ l) (hk : keep q = false) :
    ReadsP pk (D.del (pk q.1)) (keepL pk keep (fun z => left z && !z.sameKey (pk q.1)) l) := by
  have hm : ∀ y ∈ l, y ∈ keepL pk keep (fun z => left z && !z.sameKey (pk q.1)) l ↔ y ∈ keepL pk keep left l ∧ y.1 ≠ q.1 := fun y hy => by
    simp only [keepL, List.mem_filter, hy, true_and]
    by_cases e : y.1 = q.1
    · have : y = q := inj_nod ok.nod hy hq e
      subst this
      simp [hk, (same_iff F (ok.pla y hy) (ok.pla y hy)).2 rfl]
    · have hs : (pk y.1).sameKey (pk q.1) = false := by
        cases hs : (pk y.1).sameKey (pk q.1)
        · rfl
        · exact absurd ((same_iff F (ok.pla y hy) (ok.pla q hq)).1 hs) e
      simp [hs, e]
  have hin : ∀ {lf : Lit → Bool} {y : Pai}, y ∈ keepL pk keep lf l → y ∈ l := fun hy => (List.mem_filter.1 hy).1
  constructor
  · intro kl
    by_cases e : kl = pk q.1
    · subst e
      rw [Maps.has_del_same]
      constructor
      · intro h; cases h
      · rintro ⟨y, hy, e⟩
        exact absurd (F.inj (ok.pla y (hin hy)) (ok.pla q hq) e) ((hm y (hin hy)).1 hy).2
    · rw [Maps.has_del_other e, h.has]
      constructor
      · rintro ⟨y, hy, rfl⟩
        exact ⟨y, (hm y (hin hy)).2 ⟨hy, fun e' => e (by rw [e'])⟩, rfl⟩
      · rintro ⟨y, hy, rfl⟩
        exact ⟨y, ((hm y (hin hy)).1 hy).1, rfl⟩
  · intro y hy z
    have := (hm y (hin hy)).1 hy
    rw [Maps.atKey_del_other (fun e => this.2 (F.inj (ok.pla y (hin hy)) (ok.pla q hq) e))]
    exact h.at' y this.1 z
/-- The pair q stays. -/
theorem keep_stay (F : KeyFn pk) {l : List Pai} (ok : PaiOk l) {keep : Pai → Bool} {left : Lit → Bool} {q : Pai} (hq : q ∈ l) (hk : keep q = true) :
    keepL pk keep (fun z => left z && !z.sameKey (pk q.1)) l = keepL pk keep left l := by
  unfold keepL
  refine List.filter_congr (fun y hy => ?_)
  by_cases e : y.1 = q.1
  · have : y = q := inj_nod ok.nod hy hq e
    subst this
    simp [hk]
  · have hs : (pk y.1).sameKey (pk q.1) = false := by
      cases hs : (pk y.1).sameKey (pk q.1)
      · rfl
      · exact absurd ((same_iff F (ok.pla y hy) (ok.pla q hq)).1 hs) e
    simp [hs]
/-- The map in block b reads as these pairs. -/
def MapIs (w : World) (b n : Nat) (l : List Pai) : Prop := PaiOk l ∧ ∃ pk, KeyFn pk ∧ ∃ D : DataW Unit, w.ownsMap Try.prog 73 (plainElem Try.prog 3) b n D ∧ ReadsP pk D l
theorem reads_put (F : KeyFn pk) {D : DataW Unit} {l : List Pai} (hD : Maps.IsMap D) (h : ReadsP pk D l) (ok : PaiOk l) {p : Pla} {c : Int} (hp : PlaI p) (hn : ∀ q ∈ l, q.1 ≠ p) : ReadsP pk (D.put (pk p) (.lit (.int .i64 c))) (l ++ [(p, c)]) := by
  have hk := F.lit hp
  constructor
  · intro kl
    by_cases e : kl = pk p
    · subst e
      rw [Maps.has_put_same hD hk]
      exact ⟨fun _ => ⟨(p, c), by simp, rfl⟩, fun _ => rfl⟩
    · rw [Maps.has_put_other e, h.has]
      constructor
      · rintro ⟨y, hy, rfl⟩; exact ⟨y, by simp [hy], rfl⟩
      · rintro ⟨y, hy, rfl⟩
        rcases List.mem_append.1 hy with hy | hy
        · exact ⟨y, hy, rfl⟩
        · rw [List.mem_singleton.1 hy] at e; exact absurd rfl e
  · intro y hy z
    rcases List.mem_append.1 hy with hy | hy
    · rw [Maps.atKey_put_other (fun e => hn y hy (F.inj (ok.pla y hy) hp e))]
      exact h.at' y hy z
    · rw [List.mem_singleton.1 hy]
      exact Maps.atKey_put_same hD hk _ _
theorem reads_nil : ReadsP pk (.map []) [] := ⟨fun kl => by simp [Maps.has], fun q hq => by simp at hq⟩
end
theorem MapIs.made (w : World) : MapIs (w.alloc (.map #[] 0)) w.heap.size 0 [] := by
  obtain ⟨pk, F⟩ := keyFn_ex
  exact ⟨⟨by simp, by simp, by simp⟩, pk, F, _, World.ownsMap_made _ _ _ _, reads_nil⟩
theorem MapIs.kept {w w' : World} {b n : Nat} {l : List Pai} {row : Option Nat} (h : MapIs w b n l) (hg : w.grownBy w' row) (hne : some b ≠ row) : MapIs w' b n l :=
  let ⟨ok, pk, F, D, h1, h2⟩ := h
  ⟨ok, pk, F, D, h1.kept hg hne, h2⟩
theorem grows_below {w w' : World} (h : Below w.heap.size w w') : w.grownBy w' none := ⟨h.os, h.tape, h.output, h.size, fun i hi _ => h.block i hi⟩
theorem MapIs.stays {w w' : World} {b n : Nat} {l : List Pai} (h : MapIs w b n l) (bel : Below w.heap.size w w') : MapIs w' b n l := h.kept (grows_below bel) (by simp)
theorem MapIs.lt {w : World} {b n : Nat} {l : List Pai} (h : MapIs w b n l) : b < w.heap.size := let ⟨_, _, _, _, h1, _⟩ := h; h1.lt
end Go.Proofs.Ytdidgpjcagiaeaa

/- The contracts of (impl.pairs).makeAnew and (impl.pairs).storeOver. -/
namespace Go.Proofs.Ytdidgpjcagiaeaa
open Go.ChangeShapes Go.WideShapes Go.ChangeAt Go.RowKit Go.Maps
theorem But.ofG {b : Nat} {w w' : World} (h : w.grownBy w' (some b)) : But b w w' := ⟨h.os, h.tape, h.output, h.size, fun k hk hne => h.block k hk (by simpa using hne)⟩
theorem But.grow {b : Nat} {w w' : World} (h : But b w w') : w.grownBy w' (some b) := ⟨h.os, h.tape, h.output, h.size, fun k hk hne => h.block k hk (by simpa using hne)⟩
theorem invKM : ∀ key kl, keyOf Try.prog 73 key = some kl → ∃ x : Pla, key = Value.agg #[.int .i64 x.r, .int .i64 x.i, .int .i64 x.j, .int .i64 x.off] := fun key kl h => by
  obtain ⟨p, rfl, _⟩ := key_inv h
  exact ⟨p, rfl⟩
theorem invVM : ∀ (v : Value) (y : DataW Unit × List MemPlace), plainElem Try.prog 3 v = some y → ∃ c : Int, v = Value.int .i64 c := fun v y h => by
  obtain ⟨c, rfl, _⟩ := plainElem_int_inv Try.underlying3 h
  exact ⟨c, rfl⟩
theorem blkP (w : World) (cs : Array Value) : (w.alloc (.cells cs 73)).heap[w.heap.size]? = some (.cells cs 73) := by show (w.heap.push _)[w.heap.size]? = _; exact Array.getElem?_push_size
theorem hltP {w : World} {b : Nat} {o : Obj} (h : w.heap[b]? = some o) : b < w.heap.size := (Array.getElem?_eq_some_iff.1 h).1
theorem dlit_inj {a c : Int} (h : (DataW.lit (.int .i64 a) : DataW Unit) = .lit (.int .i64 c)) : a = c := by cases h; rfl
theorem vint_inj {a c : Int} (h : Value.int .i64 a = .int .i64 c) : a = c := by cases h; rfl
/-- The entry that has come is a pair of the list. -/
theorem entry_is {pk : Pla → Lit} (F : KeyFn pk) {l : List Pai} (ok : PaiOk l) {keep : Pai → Bool} {left : Lit → Bool} {D : DataW Unit} (h : ReadsP pk D (keepL pk keep left l)) {x : Pla} {c : Int} {kl : Lit} {y : DataW Unit × List MemPlace}
    (hkey : keyOf Try.prog 73 (.agg #[.int .i64 x.r, .int .i64 x.i, .int .i64 x.j, .int .i64 x.off]) = some kl) (hv : plainElem Try.prog 3 (.int .i64 c) = some y) (hat : ∀ zd, D.atKey kl zd = y.1) : (x, c) ∈ l ∧ kl = pk x := by
  obtain ⟨p, e, hp⟩ := key_inv hkey
  have ex : x = p := by
    obtain ⟨a1, a2, a3, a4⟩ := x
    obtain ⟨b1, b2, b3, b4⟩ := p
    simpa [plV] using e
  subst ex
  have hk : kl = pk x := Option.some.inj (hkey.symm.trans (F.key hp))
  subst hk
  obtain ⟨c', e', rfl, _⟩ := plainElem_int_inv Try.underlying3 hv
  obtain ⟨q, hq, hqe⟩ := (h.has _).1 (has_true_of_atKey hat)
  have hql := (List.mem_filter.1 hq).1
  have h1 : q.1 = x := F.inj (ok.pla q hql) hp hqe
  have h2 := h.at' q hq (.lit (.int .i64 0))
  rw [h1, hat] at h2
  have h3 : c = q.2 := (vint_inj e').trans (dlit_inj h2)
  exact ⟨by rw [h3, ← h1]; exact hql, rfl⟩
end Go.Proofs.Ytdidgpjcagiaeaa

/- The contracts of (impl.pairs).load and (impl.pairs).step (written by wip/mkfwdb.py). -/
namespace Go.Proofs.Ytdidgpjcagiaeaa
open Go.ChangeShapes Go.WideShapes Go.ChangeAt Go.RowKit Go.Maps
theorem MapIs.up {w : World} {b n m : Nat} {l : List Pai} (h : MapIs w b n l) (hn : n ≤ m) : MapIs w b m l :=
  let ⟨ok, pk, F, D, h1, h2⟩ := h
  ⟨ok, pk, F, D, h1.mono hn, h2⟩
theorem MapIs.but {w w' : World} {b n k : Nat} {l : List Pai} (h : MapIs w b n l) (hb : But k w w') (hne : b ≠ k) : MapIs w' b n l := h.kept hb.grow (by simpa using hne)
/-- One block besides is written that is new. -/
theorem upBut {b k : Nat} {w w1 w2 : World} (h : But b w w1) (hk : But k w1 w2) (hn : w.heap.size ≤ k) : But b w w2 :=
  ⟨hk.os.trans h.os, hk.tape.trans h.tape, hk.output.trans h.output, Nat.le_trans h.size hk.size, fun i hi hne => (hk.block i (Nat.lt_of_lt_of_le hi h.size) (by omega)).trans (h.block i hi hne)⟩
theorem But.thenB {b : Nat} {w w1 w2 : World} (h : Below w.heap.size w w1) (k : But b w1 w2) : But b w w2 :=
  ⟨k.os.trans h.os, k.tape.trans h.tape, k.output.trans h.output, Nat.le_trans h.size k.size, fun i hi hne => (k.block i (Nat.lt_of_lt_of_le hi h.size) hne).trans (h.block i hi)⟩
theorem But.ofBelowP {b : Nat} {w w1 : World} (k : Below w.heap.size w w1) : But b w w1 := But.thenB k (But.refl _ _)
theorem But.keepB {b k : Nat} {w w' : World} {o : Obj} (h : But b w w') (hx : w.heap[k]? = some o) (hne : k ≠ b) : w'.heap[k]? = some o := (h.block k (hltP hx) hne).trans hx
theorem But.twice {b : Nat} {w w1 w2 : World} (h : But b w w1) (k : But b w1 w2) : But b w w2 :=
  ⟨k.os.trans h.os, k.tape.trans h.tape, k.output.trans h.output, Nat.le_trans h.size k.size, fun i hi hne => (k.block i (Nat.lt_of_lt_of_le hi h.size) hne).trans (h.block i hi hne)⟩
/-- What a look-up tells. -/
theorem look_is {pk : Pla → Lit} (F : KeyFn pk) {D : DataW Unit} {l : List Pai} (ok : PaiOk l) (h : ReadsP pk D l) {p : Pla} (hp : PlaI p) :
    (Maps.has D (pk p) = true ∧ 0 ≤ knowF l p ∧ ∀ c z, D.atKey (pk p) z = .lit (.int .i64 c) → c = knowF l p) ∨ (Maps.has D (pk p) = false ∧ ¬ 0 ≤ knowF l p ∧ ∀ q ∈ l, q.1 ≠ p) := by
  cases hh : Maps.has D (pk p)
  · have hn : ∀ q ∈ l, q.1 ≠ p := fun q hq e => by
      have := (h.has (pk p)).2 ⟨q, hq, by rw [e]⟩
      rw [hh] at this; cases this
    exact Or.inr ⟨rfl, by rw [know_none hn]; omega, hn⟩
  · obtain ⟨q, hq, e⟩ := (h.has (pk p)).1 hh
    have e1 : q.1 = p := F.inj (ok.pla q hq) hp e
    have hk := know_some ok hq
    rw [e1] at hk
    refine Or.inl ⟨rfl, by rw [hk]; exact (ok.slot q hq).1, fun c z hc => ?_⟩
    have := h.at' q hq z
    rw [e1, hc] at this
    rw [hk]; exact dlit_inj this
theorem MapIs.put {w' : World} {b n : Nat} {l : List Pai} {p : Pla} {c : Int} {pk : Pla → Lit} (F : KeyFn pk) (ok : PaiOk l) {D : DataW Unit} (hD : Maps.IsMap D) (hr : ReadsP pk D l) (hp : PlaI p) (hc : 0 ≤ c ∧ I64 c) (hn : ∀ q ∈ l, q.1 ≠ p) (h : w'.ownsMap Try.prog 73 (plainElem Try.prog 3) b (n + 1) (D.put (pk p) (.lit (.int .i64 c)))) : MapIs w' b (n + 1) (l ++ [(p, c)]) :=
  ⟨ok.snoc hn hp hc, pk, F, _, h, reads_put F hD hr ok hp hn⟩
theorem threeP (w : World) (o1 o2 o3 : Obj) : (((w.alloc o1).alloc o2).alloc o3).heap[w.heap.size]? = some o1 ∧ (((w.alloc o1).alloc o2).alloc o3).heap[w.heap.size + 1]? = some o2 ∧ (((w.alloc o1).alloc o2).alloc o3).heap[w.heap.size + 2]? = some o3 := by
  have := three (w := w) (o1 := o1) (o2 := o2) (o3 := o3) (Below.refl _ _)
  exact ⟨this.1, this.2.1, this.2.2.1⟩
/-- Behind the boxes of a step, a place and a result. -/
structure LdAt (w : World) (xs ps : Array Value) (b n : Nat) (l : List Pai) (W : World) : Prop where
  bx : W.heap[w.heap.size]? = some (.cells xs 55 (0, 0))
  bp : W.heap[w.heap.size + 1]? = some (.cells ps 73 (0, 0))
  br : W.heap[w.heap.size + 2]? = some (.cells #[.int .i64 0, .int .i64 0, .int .i64 0, .int .i64 0, .int .i64 0, .int .i64 0, .string ByteArray.empty] 55 (0, 0))
  map : MapIs W b n l
  but : But b w W
  low : b < w.heap.size
theorem LdAt.next {w W W' : World} {xs ps : Array Value} {b n n' : Nat} {l l' : List Pai} (h : LdAt w xs ps b n l W) (hb : But b W W') (hm : MapIs W' b n' l') : LdAt w xs ps b n' l' W' :=
  have hl := h.low
  ⟨hb.keepB h.bx (by omega), hb.keepB h.bp (by omega), hb.keepB h.br (by omega), hm, h.but.twice hb, hl⟩
theorem LdAt.start {w : World} {xs ps : Array Value} {b n : Nat} {l : List Pai} (h : MapIs w b n l) : LdAt w xs ps b n l (((w.alloc (.cells xs 55)).alloc (.cells ps 73)).alloc (.cells #[.int .i64 0, .int .i64 0, .int .i64 0, .int .i64 0, .int .i64 0, .int .i64 0, .string ByteArray.empty] 55)) :=
  have th := threeP w (.cells xs 55) (.cells ps 73) (.cells #[.int .i64 0, .int .i64 0, .int .i64 0, .int .i64 0, .int .i64 0, .int .i64 0, .string ByteArray.empty] 55)
  have bl := below3 w (.cells xs 55) (.cells ps 73) (.cells #[.int .i64 0, .int .i64 0, .int .i64 0, .int .i64 0, .int .i64 0, .int .i64 0, .string ByteArray.empty] 55)
  ⟨th.1, th.2.1, th.2.2, h.stays bl, But.thenB bl (But.refl _ _), h.lt⟩
end Go.Proofs.Ytdidgpjcagiaeaa

/- The contract of impl.forwardCode. -/
namespace Go.Proofs.Ytdidgpjcagiaeaa
open Go.ChangeShapes Go.WideShapes Go.ChangeAt Go.RowKit Go.Maps
/-- A step's cells, one by one. -/
def insF (y : Ins) : Nat → Value
  | 0 => .int .i64 y.op
  | 1 => .int .i64 y.d
  | 2 => .int .i64 y.a
  | 3 => .int .i64 y.b
  | 4 => .int .i64 y.c
  | 5 => .int .i64 y.n
  | _ => .string y.t
theorem insF_at (y : Ins) : ∀ r, r < 7 → (insV y)[r]? = some (insF y r)
  | 0, _ => rfl
  | 1, _ => rfl
  | 2, _ => rfl
  | 3, _ => rfl
  | 4, _ => rfl
  | 5, _ => rfl
  | 6, _ => rfl
/-- Block g begins with n rows of seven cells. -/
def RowF (w : World) (g o n : Nat) (f : Nat → Nat → Value) : Prop := ∃ cur T, w.heap[g]? = some (.cells cur T (0, 0)) ∧ o + n * 7 ≤ cur.size ∧ ∀ k, k < n → ∀ r, r < 7 → cur[o + k * 7 + r]? = some (f k r)
theorem RowF.lt {w : World} {g o n : Nat} {f : Nat → Nat → Value} (h : RowF w g o n f) : g < w.heap.size := let ⟨_, _, h1, _⟩ := h; hltP h1
theorem RowF.keep {w w' : World} {g o n : Nat} {f : Nat → Nat → Value} (h : RowF w g o n f) (hk : w'.heap[g]? = w.heap[g]?) : RowF w' g o n f := let ⟨c, T, h1, h2⟩ := h; ⟨c, T, hk.trans h1, h2⟩
theorem RowF.congr {w : World} {g o n : Nat} {f f' : Nat → Nat → Value} (h : RowF w g o n f) (e : ∀ k, k < n → ∀ r, r < 7 → f k r = f' k r) : RowF w g o n f' := let ⟨c, T, h1, h2, h3⟩ := h; ⟨c, T, h1, h2, fun k hk r hr => by rw [h3 k hk r hr, e k hk r hr]⟩
theorem RowF.at {w : World} {g o n : Nat} {f : Nat → Nat → Value} (h : RowF w g o n f) {k r : Nat} (hk : k < n) (hr : r < 7) : w.cell? ⟨g, o + k * 7 + r, none⟩ = some (f k r) ∧ ∀ i, w.frozen? ⟨g, i, none⟩ = false := by
  obtain ⟨c, T, h1, h2, h3⟩ := h
  exact ⟨by simp only [World.cell?, h1]; exact h3 k hk r hr, (cells_of h1).2⟩
theorem RowF.seen {w : World} {g o n : Nat} {f : Nat → Nat → Value} (h : RowF w g o n f) {k : Nat} (hk : k < n) : ∃ u0 u1 u2 u3 u4 u5 u6, w.cell? ⟨g, o + k * 7, none⟩ = some u0 ∧ w.cell? ⟨g, o + k * 7 + 1, none⟩ = some u1 ∧ w.cell? ⟨g, o + k * 7 + 2, none⟩ = some u2 ∧ w.cell? ⟨g, o + k * 7 + 3, none⟩ = some u3 ∧ w.cell? ⟨g, o + k * 7 + 4, none⟩ = some u4 ∧ w.cell? ⟨g, o + k * 7 + 5, none⟩ = some u5 ∧ w.cell? ⟨g, o + k * 7 + 6, none⟩ = some u6 ∧ ∀ i, w.frozen? ⟨g, i, none⟩ = false :=
  ⟨_, _, _, _, _, _, _, (h.at hk (r := 0) (by omega)).1, (h.at hk (r := 1) (by omega)).1, (h.at hk (r := 2) (by omega)).1, (h.at hk (r := 3) (by omega)).1, (h.at hk (r := 4) (by omega)).1, (h.at hk (r := 5) (by omega)).1, (h.at hk (r := 6) (by omega)).1, (h.at hk (r := 0) (by omega)).2⟩
theorem RowF.set {w : World} {g o n : Nat} {f : Nat → Nat → Value} (h : RowF w g o n f) {j r0 : Nat} (hj : j < n) (hr0 : r0 < 7) (u : Value) : RowF (w.setCell ⟨g, o + j * 7 + r0, none⟩ u) g o n (fun k r => if k = j ∧ r = r0 then u else f k r) := by
  obtain ⟨c, T, h1, h2, h3⟩ := h
  refine ⟨c.setIfInBounds (o + j * 7 + r0) u, T, heap_setCell_same w g _ c _ _ h1, by simpa using h2, fun k hk r hr => ?_⟩
  show (c.setIfInBounds (o + j * 7 + r0) u)[o + k * 7 + r]? = some (if k = j ∧ r = r0 then u else f k r)
  rw [Array.getElem?_setIfInBounds]
  by_cases e : k = j ∧ r = r0
  · obtain ⟨rfl, rfl⟩ := e
    rw [if_pos rfl, if_pos (by omega), if_pos ⟨rfl, rfl⟩]
  · rw [if_neg (by omega), if_neg e]
    exact h3 k hk r hr
/-- A whole row is written. -/
theorem RowF.put {w : World} {g o n : Nat} {f : Nat → Nat → Value} (h : RowF w g o n f) {j : Nat} (hj : j < n) (y : Ins) :
    RowF (((((((w.setCell ⟨g, o + j * 7, none⟩ (.int .i64 y.op)).setCell ⟨g, o + j * 7 + 1, none⟩ (.int .i64 y.d)).setCell ⟨g, o + j * 7 + 2, none⟩ (.int .i64 y.a)).setCell ⟨g, o + j * 7 + 3, none⟩ (.int .i64 y.b)).setCell ⟨g, o + j * 7 + 4, none⟩ (.int .i64 y.c)).setCell ⟨g, o + j * 7 + 5, none⟩ (.int .i64 y.n)).setCell ⟨g, o + j * 7 + 6, none⟩ (.string y.t)) g o n (fun k r => if k = j then insF y r else f k r) := by
  have h0 := h.set hj (r0 := 0) (by omega) (.int .i64 y.op)
  have h1 := h0.set hj (r0 := 1) (by omega) (.int .i64 y.d)
  have h2 := h1.set hj (r0 := 2) (by omega) (.int .i64 y.a)
  have h3 := h2.set hj (r0 := 3) (by omega) (.int .i64 y.b)
  have h4 := h3.set hj (r0 := 4) (by omega) (.int .i64 y.c)
  have h5 := h4.set hj (r0 := 5) (by omega) (.int .i64 y.n)
  have h6 := h5.set hj (r0 := 6) (by omega) (.string y.t)
  refine h6.congr (fun k hk r hr => ?_)
  by_cases e : k = j
  · subst e
    simp only [true_and]
    match r, hr with
    | 0, _ => rfl
    | 1, _ => rfl
    | 2, _ => rfl
    | 3, _ => rfl
    | 4, _ => rfl
    | 5, _ => rfl
    | 6, _ => rfl
  · simp [e]
/-- Block g begins with these steps. -/
def CodeF (w : World) (g o : Nat) (l : List Ins) : Prop := RowF w g o l.length (fun k r => insF (l[k]!) r)
/-- How far it has come. -/
def midF (code : List Ins) (ps : List Pla) (j : Nat) : List Ins := (fwdUp code ps j).2 ++ code.drop j
theorem midF_len {code : List Ins} {ps : List Pla} (hp : ps.length = code.length) {j : Nat} (hj : j ≤ code.length) : (midF code ps j).length = code.length := by
  rw [midF, List.length_append, fwdUp_len hp j hj, List.length_drop]; omega
theorem midF_at {code : List Ins} {ps : List Pla} (hp : ps.length = code.length) {j : Nat} (hj : j < code.length) : (midF code ps j)[j]! = code[j] := by
  have hl := fwdUp_len hp j (by omega)
  rw [getElem!_pos _ j (by rw [midF_len hp (by omega)]; exact hj)]
  simp only [midF]
  rw [List.getElem_append_right (by omega)]
  simp [hl]
theorem midF_next {code : List Ins} {ps : List Pla} (hp : ps.length = code.length) {j : Nat} (hj : j < code.length) (k : Nat) (hk : k < code.length) :
    (midF code ps (j + 1))[k]! = if k = j then (stepF (fwdUp code ps j).1 code[j] (ps[j]'(by omega))).2 else (midF code ps j)[k]! := by
  have hl := fwdUp_len hp j (by omega)
  have hl1 := fwdUp_len hp (j + 1) (by omega)
  rw [getElem!_pos _ k (by rw [midF_len hp (by omega)]; exact hk)]
  split
  · rename_i e
    subst e
    simp only [midF]
    rw [List.getElem_append_left (by omega)]
    simp only [fwdUp_at hj (show k < ps.length by omega)]
    rw [List.getElem_append_right (by omega)]
    simp [hl]
  · rename_i e
    rw [getElem!_pos _ k (by rw [midF_len hp (by omega)]; exact hk)]
    simp only [midF]
    by_cases hkj : k < j
    · rw [List.getElem_append_left (by omega), List.getElem_append_left (by omega)]
      simp only [fwdUp_at hj (show j < ps.length by omega)]
      rw [List.getElem_append_left (by omega)]
    · rw [List.getElem_append_right (by omega), List.getElem_append_right (by omega)]
      simp only [List.getElem_drop]
      congr 1
      omega
/-- All but two blocks are as they were. -/
def KpQ (wb : World) (m g : Nat) (W : World) : Prop := ∀ k, k < wb.heap.size → k ≠ m → k ≠ g → W.heap[k]? = wb.heap[k]?
theorem KpQ.of {wb W : World} {m g : Nat} (h : But m wb W) : KpQ wb m g W := fun k hk hm _ => h.block k hk hm
theorem KpQ.on {wb W W' : World} {m g : Nat} (h : But m wb W) (hb : But g W W') : KpQ wb m g W' := fun k hk hm hg => (hb.block k (by have := h.size; omega) hg).trans (h.block k hk hm)
theorem KpQ.drew (wb : World) (m g : Nat) : KpQ wb m g wb.drew := fun _ _ _ _ => rfl
theorem set7 (W : World) (g o j : Nat) (v0 v1 v2 v3 v4 v5 v6 : Value) : But g W (((((((W.setCell ⟨g, o + j * 7, none⟩ v0).setCell ⟨g, o + j * 7 + 1, none⟩ v1).setCell ⟨g, o + j * 7 + 2, none⟩ v2).setCell ⟨g, o + j * 7 + 3, none⟩ v3).setCell ⟨g, o + j * 7 + 4, none⟩ v4).setCell ⟨g, o + j * 7 + 5, none⟩ v5).setCell ⟨g, o + j * 7 + 6, none⟩ v6) :=
  ((((((But.refl g W).set _ v0).set _ v1).set _ v2).set _ v3).set _ v4).set _ v5 |>.set _ v6
theorem newI (w : World) (cs : Array Value) : (w.alloc (.cells cs 55)).heap[w.heap.size]? = some (.cells cs 55) := by show (w.heap.push _)[w.heap.size]? = _; exact Array.getElem?_push_size
/-- Between two rounds. -/
structure FcAt (w : World) (g o gp kp : Nat) (code : List Ins) (ps : List Pla) (j : Nat) (W : World) : Prop where
  row : RowF W g o code.length (fun k r => insF ((midF code ps j)[k]!) r)
  map : MapIs W w.heap.size j (fwdUp code ps j).1
  pl : OwnE PlE W 0 (.slice (some ⟨gp, 0, none⟩) ps.length kp) ps
  but : But g w W
  low : g < w.heap.size
  lowp : gp < w.heap.size
  ne : gp ≠ g
theorem FcAt.boxed {w W : World} {g o gp kp : Nat} {code : List Ins} {ps : List Pla} {j : Nat} (h : FcAt w g o gp kp code ps j W) (ob : Obj) : FcAt w g o gp kp code ps j (W.alloc ob) :=
  have al := (Below.refl W.heap.size W).alloc (Nat.le_refl _) ob
  ⟨h.row.keep (al.block _ h.row.lt), h.map.stays al, h.pl.stays al, h.but.on al, h.low, h.lowp, h.ne⟩
/-- What is known behind the call of a round. -/
structure FcCall (w : World) (g o gp kp : Nat) (code : List Ins) (ps : List Pla) (j : Nat) (L2 : List Pai) (wb w5 : World) : Prop where
  but : But w.heap.size wb w5
  map : MapIs w5 w.heap.size (j + 1) L2
  row : RowF w5 g o code.length (fun k r => insF ((midF code ps j)[k]!) r)
  k5 : KpQ wb w.heap.size g w5
  k6 : ∀ v0 v1 v2 v3 v4 v5 v6, KpQ wb w.heap.size g (((((((w5.setCell ⟨g, o + j * 7, none⟩ v0).setCell ⟨g, o + j * 7 + 1, none⟩ v1).setCell ⟨g, o + j * 7 + 2, none⟩ v2).setCell ⟨g, o + j * 7 + 3, none⟩ v3).setCell ⟨g, o + j * 7 + 4, none⟩ v4).setCell ⟨g, o + j * 7 + 5, none⟩ v5).setCell ⟨g, o + j * 7 + 6, none⟩ v6)
theorem fc_call {w wb w5 : World} {g o gp kp : Nat} {code : List Ins} {ps : List Pla} {j : Nat} {L2 : List Pai} (h : FcAt w g o gp kp code ps j wb) (m5 : MapIs w5 w.heap.size (j + 1) L2) (b5 : But w.heap.size wb.drew w5) : FcCall w g o gp kp code ps j L2 wb w5 :=
  have b : But w.heap.size wb w5 := ⟨b5.os, b5.tape, b5.output, b5.size, b5.block⟩
  ⟨b, m5, h.row.keep (b.block g h.row.lt (by have := h.low; omega)), KpQ.of b, fun _ _ _ _ _ _ _ => KpQ.on b (set7 _ _ _ _ _ _ _ _ _ _ _)⟩
theorem fc_next {w wb w5 : World} {g o gp kp : Nat} {code : List Ins} {ps : List Pla} {j : Nat} {L2 : List Pai} (h : FcAt w g o gp kp code ps j wb) (c : FcCall w g o gp kp code ps j L2 wb w5) (hj : j < code.length) (y : Ins) (up : (fwdUp code ps (j + 1)).1 = L2) (mn : ∀ k, k < code.length → (midF code ps (j + 1))[k]! = if k = j then y else (midF code ps j)[k]!) :
    FcAt w g o gp kp code ps (j + 1) (((((((w5.setCell ⟨g, o + j * 7, none⟩ (.int .i64 y.op)).setCell ⟨g, o + j * 7 + 1, none⟩ (.int .i64 y.d)).setCell ⟨g, o + j * 7 + 2, none⟩ (.int .i64 y.a)).setCell ⟨g, o + j * 7 + 3, none⟩ (.int .i64 y.b)).setCell ⟨g, o + j * 7 + 4, none⟩ (.int .i64 y.c)).setCell ⟨g, o + j * 7 + 5, none⟩ (.int .i64 y.n)).setCell ⟨g, o + j * 7 + 6, none⟩ (.string y.t)) := by
  have hb := set7 w5 g o j (.int .i64 y.op) (.int .i64 y.d) (.int .i64 y.a) (.int .i64 y.b) (.int .i64 y.c) (.int .i64 y.n) (.string y.t)
  have hlow := h.low
  have hlowp := h.lowp
  have hne := h.ne
  have h1 := c.row.put hj y
  refine ⟨h1.congr (fun k hk r hr => ?_), ?_, ?_, (upBut h.but c.but (Nat.le_refl _)).twice hb, hlow, hlowp, hne⟩
  · rw [mn k hk]
    split <;> rfl
  · rw [up]; exact c.map.but hb (by omega)
  · refine (h.pl.blk (fun k hk hkl => c.but.block k hkl ?_)).blk (fun k hk hkl => hb.block k hkl ?_)
    · have : gp = k := by simpa [Value.ownBlock] using hk
      omega
    · have : gp = k := by simpa [Value.ownBlock] using hk
      omega
end Go.Proofs.Ytdidgpjcagiaeaa

/- The code of one block of a graph of one's own is written anew. -/
namespace Go.Proofs.Ytdidgpjcagiaeaa
open Go.ChangeShapes Go.WideShapes Go.ChangeAt Go.RowKit
theorem RowAt.butne {w w' : World} {B g b o : Nat} {n sz : Nat} {vs : Nat → Array Value} (h : RowAt w B (some ⟨b, o, none⟩) n sz vs) (hne : b ≠ g) (hb : But g w w') : RowAt w' B (some ⟨b, o, none⟩) n sz vs := by
  rcases h with h | ⟨b', o', ha, hB, hbl, hp, hc⟩
  · exact Or.inl h
  · cases ha
    have hk := hb.block b hbl hne
    refine Or.inr ⟨b, o, rfl, hB, Nat.lt_of_lt_of_le hbl hb.size, fun h0 => ?_, fun i hi => ⟨(hc i hi).1, fun j hj => ?_⟩⟩
    · obtain ⟨cs, T, h1⟩ := hp h0
      exact ⟨cs, T, hk.trans h1⟩
    · rw [World.cell?_of_block (a := ⟨b, o + i * sz + j, none⟩) hk]
      exact (hc i hi).2 j hj
theorem SlIs.butne {w w' : World} {B g : Nat} {a : Option Addr} {xs : List Ins} (h : SlIs InsIs 7 w B a xs) (hne : 0 < xs.length → ∀ b o, a = some ⟨b, o, none⟩ → b ≠ g) (hb : But g w w') : SlIs InsIs 7 w' B a xs := by
  obtain ⟨hl, vs, hr, hx⟩ := h
  refine ⟨hl, vs, ?_, hx⟩
  by_cases h0 : xs.length = 0
  · exact Or.inl h0
  · rcases id hr with h1 | ⟨b, o, ha, _⟩
    · exact absurd h1 h0
    · subst ha
      exact hr.butne (hne (by omega) b o rfl) hb
theorem IntsIs.butne {w w' : World} {B g : Nat} {a : Option Addr} {zs : List Int} (h : IntsIs w B a zs) (hne : 0 < zs.length → ∀ b o, a = some ⟨b, o, none⟩ → b ≠ g) (hb : But g w w') : IntsIs w' B a zs := by
  obtain ⟨hl, h0 | ⟨b, o, ha, hB, hbl, hp, hc⟩⟩ := h
  · exact ⟨hl, Or.inl h0⟩
  · by_cases hz : zs.length = 0
    · exact ⟨hl, Or.inl hz⟩
    · have hk := hb.block b hbl (hne (by omega) b o ha)
      refine ⟨hl, Or.inr ⟨b, o, ha, hB, Nat.lt_of_lt_of_le hbl hb.size, fun h0 => ?_, fun i hi => ?_⟩⟩
      · obtain ⟨cs, T, h1⟩ := hp h0
        exact ⟨cs, T, hk.trans h1⟩
      · rw [World.cell?_of_block (a := ⟨b, o + i, none⟩) hk]
        exact hc i hi
theorem slice_inj {a b : Option Addr} {n m c d : Nat} (h : Value.slice a n c = Value.slice b m d) : a = b ∧ n = m ∧ c = d := by cases h; exact ⟨rfl, rfl, rfl⟩
theorem five_inj {a0 a1 a2 a3 a4 b0 b1 b2 b3 b4 : Value} (h : #[a0, a1, a2, a3, a4] = #[b0, b1, b2, b3, b4]) : a0 = b0 ∧ a4 = b4 := by simp at h; exact ⟨h.1, h.2.2.2.2⟩
/-- The code that stands in a block anew is that code. -/
theorem CodeF.is {w : World} {g o B : Nat} {l : List Ins} (h : CodeF w g o l) (hB : B ≤ g) (hl : l.length ≤ maxLen) (hw : ∀ z ∈ l, z.wf ∧ z.t.size ≤ maxLen) : SlIs InsIs 7 w B (some ⟨g, o, none⟩) l := by
  obtain ⟨cur, T, h1, h2, h3⟩ := h
  refine ⟨hl, fun i => insV (l[i]!), Or.inr ⟨g, o, rfl, hB, hltP h1, fun _ => ⟨cur, T, h1⟩, fun i hi => ⟨rfl, fun j hj => ?_⟩⟩, fun i hi => ?_⟩
  · simp only [World.cell?, h1]
    rw [h3 i hi j hj, insF_at _ j hj]
    rfl
  · simp only [getElem!_pos l i hi]
    exact ⟨rfl, hw _ (List.getElem_mem hi)⟩
theorem codeF_of {w : World} {g o B : Nat} {l : List Ins} (h : SlIs InsIs 7 w B (some ⟨g, o, none⟩) l) (hc : ∃ c T, w.heap[g]? = some (.cells c T (0, 0)) ∧ o + l.length * 7 ≤ c.size) : CodeF w g o l := by
  obtain ⟨c, T, h1, h2⟩ := hc
  obtain ⟨_, vs, hr, hx⟩ := h
  refine ⟨c, T, h1, h2, fun k hk r hr7 => ?_⟩
  rcases hr with h0 | ⟨b', o', ha, _, _, _, hcc⟩
  · omega
  · cases ha
    have e1 : c[o + k * 7 + r]? = (vs k)[r]? := by
      have := (hcc k hk).2 r hr7
      simp only [World.cell?, h1] at this
      exact this
    rw [e1, (hx k hk).1]
    show _ = some (insF (l[k]!) r)
    rw [getElem!_pos l k hk]
    exact insF_at _ r hr7
/-- Where the code of block i lies. -/
theorem GOwn.codeAt {W : World} {A : Nat} {v : Array Value} {y : Gr} {S : CRow} {gb : Nat} {cs : List CRow} (h : GrIs W A v y) (ow : GOwn W v S gb 0 cs) {i : Nat} (hic : i < cs.length) :
    ∃ us kS ub kB vs, v = #[.slice us y.sizes.length kS, .int .i64 y.params, .int .i64 y.vars, .int .i64 y.slots, .slice ub y.blocks.length kB] ∧ ub = some ⟨gb, 0, none⟩ ∧ (0 < y.sizes.length → us = some ⟨S.b, S.o, none⟩ ∧ 0 < S.n) ∧ IntsIs W A us y.sizes ∧ RowAt W A ub y.blocks.length 5 vs ∧ y.blocks.length ≤ maxLen ∧ y.wf ∧ (∀ (k : Nat) (hk : k < y.blocks.length) (hkc : k < cs.length), ∃ uc kc, vs k = #[.slice uc (y.blocks[k]).code.length kc, .int .i64 (y.blocks[k]).jump, .int .i64 (y.blocks[k]).a, .int .i64 (y.blocks[k]).to, .int .i64 (y.blocks[k]).els] ∧ (y.blocks[k]).wf ∧ SlIs InsIs 7 W A uc (y.blocks[k]).code ∧ cs[k].n = (y.blocks[k]).code.length ∧ (0 < (y.blocks[k]).code.length → uc = some ⟨cs[k].b, cs[k].o, none⟩)) := by
  obtain ⟨us, kS, ub, kB, rfl, ok, hs, hl, vs, hr, hx⟩ := h
  obtain ⟨ads, caps, p, q, r, adb, capb, hv, h1, h2⟩ := ow.val
  obtain ⟨e0, e4⟩ := five_inj hv
  obtain ⟨rfl, en, rfl⟩ := slice_inj e0
  obtain ⟨rfl, em, rfl⟩ := slice_inj e4
  have hub : ub = some ⟨gb, 0, none⟩ := by
    rcases h2 with h2 | h2
    · subst h2; simp at hic
    · exact h2
  refine ⟨us, kS, ub, kB, vs, rfl, hub, fun h0 => ?_, hs, hr, hl, ok, fun k hk hkc => ?_⟩
  · rcases h1 with h1 | h1
    · omega
    · exact ⟨h1, by omega⟩
  · obtain ⟨uc, kc, hvk, hw, hcode⟩ := hx k hk
    obtain ⟨ad, cap, hc, had⟩ := ow.codes.cell k hkc
    have hc2 : W.cell? ⟨gb, 0 + k * 5, none⟩ = (vs k)[0]? := by
      rcases hr with h0 | ⟨b', o', ha, _, _, _, hcc⟩
      · omega
      · rw [hub] at ha
        cases ha
        have := (hcc k hk).2 0 (by omega)
        simpa using this
    rw [hvk, hc] at hc2
    have hc3 : Value.slice ad cs[k].n cap = Value.slice uc (y.blocks[k]).code.length kc := by simpa using hc2
    obtain ⟨ea, en2, _⟩ := slice_inj hc3
    refine ⟨uc, kc, hvk, hw, hcode, en2, fun h0 => ?_⟩
    rcases had with had | had
    · omega
    · rw [← ea]; exact had
theorem GrIs.recode {W W' : World} {A : Nat} {v : Array Value} {y : Gr} {S : CRow} {gb : Nat} {cs : List CRow} (h : GrIs W A v y) (ow : GOwn W v S gb 0 cs) (hl : cs.length = y.blocks.length) {i : Nat} (hi : i < y.blocks.length) (hic : i < cs.length) (hpos : 0 < (y.blocks[i]).code.length)
    {code' : List Ins} (hl' : code'.length = (y.blocks[i]).code.length) (hw : ∀ z ∈ code', z.wf ∧ z.t.size ≤ maxLen) (hb : But cs[i].b W W') (hc : CodeF W' cs[i].b cs[i].o code') :
    GrIs W' A v { y with blocks := y.blocks.set i { y.blocks[i] with code := code' } } ∧ GOwn W' v S gb 0 cs := by
  obtain ⟨us, kS, ub, kB, vs, rfl, rfl, hus, hs, hr, hlen, ok, hall⟩ := ow.codeAt h hic
  have hni : 0 < cs[i].n := by obtain ⟨_, _, _, _, _, e, _⟩ := hall i hi hic; omega
  have hne : cs ≠ [] := fun e => by subst e; simp at hic
  have hgb := ow.codes.own i hic hni
  refine ⟨⟨us, kS, some ⟨gb, 0, none⟩, kB, by simp only [List.length_set], ok, ?_, ?_⟩, ?_⟩
  · refine hs.butne (fun h0 b o e => ?_) hb
    obtain ⟨e1, hsn⟩ := hus h0
    rw [e1] at e
    cases e
    exact ow.sc hsn i hic hni
  · refine ⟨by simpa using hlen, vs, by simpa using hr.butne (Ne.symm hgb) hb, fun k hk => ?_⟩
    simp only [List.length_set] at hk
    obtain ⟨uc, kc, hv, hwk, hcode, hnk, huc⟩ := hall k hk (by omega)
    by_cases e : i = k
    · subst e
      rw [List.getElem_set_self]
      refine ⟨uc, kc, by rw [hv]; simp only [hl'], hwk, ?_⟩
      rw [huc hpos]
      have hA : A ≤ cs[i].b := by
        rw [huc hpos] at hcode
        obtain ⟨_, vs2, hr2, _⟩ := hcode
        rcases hr2 with h0 | ⟨b', o', ha, hB, _⟩
        · omega
        · cases ha; exact hB
      refine hc.is hA ?_ hw
      rw [hl']; exact hcode.1
    · rw [List.getElem_set_ne e]
      refine ⟨uc, kc, hv, hwk, hcode.butne (fun h0 b o e2 => ?_) hb⟩
      rw [huc h0] at e2
      cases e2
      exact ow.codes.dis k i (by omega) hic (fun e3 => e e3.symm) (by omega) hni
  · exact {
      val := ow.val
      srow := fun h0 => by
        obtain ⟨c, T, h1, h2⟩ := ow.srow h0
        exact ⟨c, T, (hb.block _ (hltP h1) (ow.sc h0 i hic hni)).trans h1, h2⟩
      brow := fun h0 => by
        obtain ⟨c, T, h1, h2⟩ := ow.brow h0
        exact ⟨c, T, (hb.block _ (hltP h1) (Ne.symm hgb)).trans h1, h2⟩
      codes := {
        cell := fun k hk => by
          obtain ⟨ad, cap, h1, h2⟩ := ow.codes.cell k hk
          refine ⟨ad, cap, ?_, h2⟩
          rw [hb.cell (World.block_lt_of_cell? W _ h1) (Ne.symm hgb)]
          exact h1
        row := fun k hk h0 => by
          by_cases e : k = i
          · subst e
            obtain ⟨cur, T, h1, h2, _⟩ := hc
            obtain ⟨_, _, _, _, _, e2, _⟩ := hall k hi hk
            exact ⟨cur, T, h1, by omega⟩
          · obtain ⟨c, T, h1, h2⟩ := ow.codes.row k hk h0
            exact ⟨c, T, (hb.block _ (hltP h1) (ow.codes.dis k i hk hic e h0 hni)).trans h1, h2⟩
        own := ow.codes.own
        dis := ow.codes.dis }
      sb := ow.sb
      sc := ow.sc }
end Go.Proofs.Ytdidgpjcagiaeaa

/- The places of a block that is right are right; the blocks, one after another. -/
namespace Go.Proofs.Ytdidgpjcagiaeaa
open Go.ChangeShapes Go.WideShapes Go.ChangeAt Go.RowKit
theorem placesUp_get (V : Nat) (code : List Ins) : ∀ (n j : Nat) (hn : n ≤ code.length) (hj : j < n), (placesUp V code n)[j]'(by rw [placesUp_len V code n hn]; exact hj) = placeP (ledP V (code.take j)) (code[j]'(by omega))
  | 0, _, _, hj => absurd hj (Nat.not_lt_zero _)
  | n + 1, j, hn, hj => by
    have e := placesUp_at V (show n < code.length by omega)
    have hl := placesUp_len V code n (by omega)
    simp only [e]
    by_cases h : j < n
    · rw [List.getElem_append_left (by omega)]
      exact placesUp_get V code n j (by omega) h
    · obtain rfl : j = n := by omega
      rw [List.getElem_append_right (by omega)]
      simp [hl]
theorem minmax_i64 {a b : Int} (ha : I64 a) (hb : I64 b) : I64 (min a b) ∧ I64 (max a b) := by
  unfold I64 at *
  omega
theorem plaI_place {R : Int} {V : Nat} {l : Led} {x : Ins} (h : LedOk V l) (hf : V + l.fresh ≤ 1000000) (hx : insOk R V x = true) (hn : I64 x.n) : PlaI (placeP l x) := by
  have m1 : I64 (-1) := ⟨by omega, by omega⟩
  have z : I64 0 := ⟨by omega, by omega⟩
  have go : (x.op = 3 ∨ x.op = 4) → vOk V x.b = true → (x.a = -1 ∨ vOk V x.a = true) → PlaI (placeP l x) := fun e hb ha => by
    have h1 : I64 (l.oget x.a).base := by
      unfold Led.oget
      split
      · exact m1
      · rename_i hne
        rcases ha with ha | ha
        · exact absurd ha hne
        · exact (h.get ha).i64 hf
    have h2 : I64 (l.get x.b).base := (h.get hb).i64 hf
    have := minmax_i64 h1 h2
    simp only [placeP, if_pos e]
    exact ⟨hn, this.1, this.2, wrap64_i64 _⟩
  have no : ¬ (x.op = 3 ∨ x.op = 4) → PlaI (placeP l x) := fun e => by
    simp only [placeP, if_neg e]
    exact ⟨m1, z, z, z⟩
  rcases insOk_slots hx with ⟨e, _⟩ | ⟨e, _⟩ | ⟨e, _⟩ | ⟨e, _, hb, ha, _⟩ | ⟨e, hb, ha, _⟩ | ⟨e, _⟩ | e
  · exact no (by omega)
  · exact no (by omega)
  · exact no (by omega)
  · exact go (Or.inl e) hb ha
  · exact go (Or.inr e) hb ha
  · exact no (by omega)
  · exact no (by omega)
theorem insOk_d {R V : Int} {x : Ins} (h : insOk R V x = true) (e : x.op = 3) : 0 ≤ x.d := by
  unfold insOk vOk at h
  simp [e] at h
  omega
theorem insOk_c {R V : Int} {x : Ins} (h : insOk R V x = true) (e : x.op = 4) : 0 ≤ x.c := by
  unfold insOk vOk at h
  simp [e] at h
  omega
theorem stOk_all {R : Int} {V : Nat} {code : List Ins} (co : CodeOk R V code) (hw : ∀ x ∈ code, x.wf ∧ x.t.size ≤ maxLen) : ∀ j (h1 : j < code.length) (h2 : j < (placesUp V code code.length).length), StOk code[j] (placesUp V code code.length)[j] := fun j h1 h2 => by
  have hm := List.getElem_mem h1
  obtain ⟨k1, k2⟩ := co.2.2 _ hm
  obtain ⟨w1, w2⟩ := hw _ hm
  have hl := ledP_ok co.2.2 j (by omega)
  rw [placesUp_get V code code.length j (Nat.le_refl _) h1]
  exact ⟨plaI_place hl.1 (by have := co.1; have := co.2.1; omega) k1 k2, w1, w2, insOk_d k1, insOk_c k1⟩
theorem ins_all {w : World} {B : Nat} {u : Option Addr} {code : List Ins} (h : SlIs InsIs 7 w B u code) : ∀ x ∈ code, x.wf ∧ x.t.size ≤ maxLen := fun x hx => by
  obtain ⟨i, hi, rfl⟩ := List.getElem_of_mem hx
  obtain ⟨_, _, _, _, _, _, _, _, ok⟩ := h.at i hi
  exact ok.2
theorem fwdCode_wf {R : Int} {V : Nat} {code : List Ins} (co : CodeOk R V code) (hw : ∀ x ∈ code, x.wf ∧ x.t.size ≤ maxLen) : ∀ z ∈ fwdCode V code, z.wf ∧ z.t.size ≤ maxLen :=
  (fwdUp_ok (placesUp_len V code _ (Nat.le_refl _)) (stOk_all co hw) code.length (Nat.le_refl _)).2
/-- The first j blocks are done. -/
def midB (V : Nat) (bs : List Blk) : Nat → List Blk
  | 0 => bs
  | j + 1 => (midB V bs j).set j (fwdB V (bs[j]!))
theorem midB_len (V : Nat) (bs : List Blk) : ∀ j, (midB V bs j).length = bs.length
  | 0 => rfl
  | j + 1 => by simp [midB, midB_len V bs j]
theorem midB_ge (V : Nat) (bs : List Blk) : ∀ j k, j ≤ k → (h : k < bs.length) → (midB V bs j)[k]'(by rw [midB_len]; exact h) = bs[k]
  | 0, _, _, _ => rfl
  | j + 1, k, hk, h => by
    simp only [midB]
    rw [List.getElem_set_ne (by omega)]
    exact midB_ge V bs j k (by omega) h
theorem midB_lt (V : Nat) (bs : List Blk) : ∀ j k, k < j → (h : k < bs.length) → (midB V bs j)[k]'(by rw [midB_len]; exact h) = fwdB V bs[k]
  | 0, _, hk, _ => absurd hk (Nat.not_lt_zero _)
  | j + 1, k, hk, h => by
    simp only [midB]
    by_cases e : j = k
    · subst e
      rw [List.getElem_set_self, getElem!_pos bs j h]
    · rw [List.getElem_set_ne e]
      exact midB_lt V bs j k (by omega) h
theorem midB_all (V : Nat) (bs : List Blk) : midB V bs bs.length = bs.map (fwdB V) := by
  apply List.ext_getElem (by simp [midB_len])
  intro k h1 h2
  rw [midB_lt V bs bs.length k (by rw [midB_len] at h1; exact h1) (by rw [midB_len] at h1; exact h1)]
  simp
theorem midB_code (V : Nat) (bs : List Blk) (j k : Nat) : ((midB V bs j)[k]!).code.length = (bs[k]!).code.length := by
  by_cases h : k < bs.length
  · have h' : k < (midB V bs j).length := by rw [midB_len]; exact h
    rw [getElem!_pos bs k h, getElem!_pos (midB V bs j) k h']
    by_cases e : k < j
    · rw [midB_lt V bs j k e h]; simp [fwdB, fwdCode_len]
    · rw [midB_ge V bs j k (by omega) h]
  · have h' : ¬ k < (midB V bs j).length := by rw [midB_len]; exact h
    rw [getElem!_neg bs k h, getElem!_neg (midB V bs j) k h']
theorem midB_skip (V : Nat) {bs : List Blk} {j : Nat} (h : j < bs.length) (he : (bs[j]).code = []) : midB V bs (j + 1) = midB V bs j := by
  have e : fwdB V (bs[j]!) = (midB V bs j)[j]'(by rw [midB_len]; exact h) := by
    rw [midB_ge V bs j j (Nat.le_refl _) h, getElem!_pos bs j h]
    have : fwdCode V (bs[j]).code = (bs[j]).code := by rw [he]; rfl
    unfold fwdB
    rw [this]
  show (midB V bs j).set j (fwdB V (bs[j]!)) = _
  rw [e, List.set_getElem_self]
end Go.Proofs.Ytdidgpjcagiaeaa
