/- What is known is not loaded: plain. -/
import Derived.Test.YtelkpikbjfkpcaaGreatCpyB
import Derived.Test.YtelkpikbjfkpcaaGreatAliB
import Derived.Maps.RangeWalk
import Derived.Maps.OwnSet
import Derived.Maps.OwnOps
import Derived.DeepKeys4
import Derived.Test.YtelkpikbjfkpcaaGreatRowA
import Derived.Deep.CutRange
import Derived.Deep.RegionHeld3
import Derived.Test.YtelkpikbjfkpcaaGreatLedAll
import Derived.Laws.Rows
import Derived.Deep.LoopGhost
import Derived.Test.YtelkpikbjfkpcaaGreatMksAll
namespace Go.Proofs.YtelkpikbjfkpcaaGreat
open Go.ChangeShapes Go.WideShapes Go.ChangeAt Go.RowKit
/-- A pair: a place and a slot. -/
abbrev Pai := Pla × Int
def PlaI (p : Pla) : Prop := I64 p.r ∧ I64 p.i ∧ I64 p.j ∧ I64 p.off
def dropF (l : List Pai) (d : Int) : List Pai := l.filter fun q => decide (q.2 ≠ d)
def overF (l : List Pai) (p : Pla) : List Pai := l.filter fun q => decide (aliasP q.1 p = 0)
def knowF (l : List Pai) (p : Pla) : Int := match l.find? (fun q => decide (aliasP q.1 p = 2)) with | some q => q.2 | none => -1
def movF (d s : Int) : Ins := ⟨1, d, s, 0, 0, 0, ByteArray.empty⟩
def stepF (l : List Pai) (x : Ins) (p : Pla) : List Pai × Ins :=
  if x.op = 4 then (overF l p ++ [(p, x.c)], x)
  else if x.op = 3 then (if 0 ≤ knowF l p then (dropF l x.d, movF x.d (knowF l p)) else (dropF l x.d ++ [(p, x.d)], x))
  else if x.op = 6 then (l, x)
  else (dropF l x.d, x)
/-- The pairs, and the steps, behind the first j. -/
def fwdUp (code : List Ins) (ps : List Pla) : Nat → List Pai × List Ins
  | 0 => ([], [])
  | j + 1 => match code[j]?, ps[j]? with
    | some x, some p => ((stepF (fwdUp code ps j).1 x p).1, (fwdUp code ps j).2 ++ [(stepF (fwdUp code ps j).1 x p).2])
    | _, _ => fwdUp code ps j
theorem fwdUp_at {code : List Ins} {ps : List Pla} {j : Nat} (h : j < code.length) (h2 : j < ps.length) : fwdUp code ps (j + 1) = ((stepF (fwdUp code ps j).1 code[j] ps[j]).1, (fwdUp code ps j).2 ++ [(stepF (fwdUp code ps j).1 code[j] ps[j]).2]) := by
  show (match code[j]?, ps[j]? with | some x, some p => _ | _, _ => _) = _
  rw [List.getElem?_eq_getElem h, List.getElem?_eq_getElem h2]
theorem fwdUp_len {code : List Ins} {ps : List Pla} (hp : ps.length = code.length) : ∀ j, j ≤ code.length → (fwdUp code ps j).2.length = j
  | 0, _ => rfl
  | j + 1, h => by rw [fwdUp_at (by omega) (by omega), List.length_append, fwdUp_len hp j (by omega)]; rfl
def fwdCode (V : Nat) (code : List Ins) : List Ins := (fwdUp code (placesUp V code code.length) code.length).2
theorem fwdCode_len (V : Nat) (code : List Ins) : (fwdCode V code).length = code.length := fwdUp_len (placesUp_len V code _ (Nat.le_refl _)) _ (Nat.le_refl _)
def fwdB (V : Nat) (b : Blk) : Blk := { b with code := fwdCode V b.code }
def fwdP (g : Gr) : Gr := if grOk g = true then { g with blocks := g.blocks.map (fwdB g.slots.toNat) } else g
theorem fwdP_ok {g : Gr} (h : grOk g = true) : fwdP g = { g with blocks := g.blocks.map (fwdB g.slots.toNat) } := by unfold fwdP; rw [if_pos h]
theorem fwdP_no {g : Gr} (h : ¬ grOk g = true) : fwdP g = g := by unfold fwdP; rw [if_neg h]
theorem alias_two {a b : Pla} : aliasP a b = 2 ↔ a = b := by
  obtain ⟨r, i, j, o⟩ := a
  obtain ⟨r', i', j', o'⟩ := b
  unfold aliasP
  simp only [Pla.mk.injEq]
  repeat' split
  all_goals simp_all
/-- No place stands twice; each slot is there. -/
structure PaiOk (l : List Pai) : Prop where
  nod : (l.map (·.1)).Nodup
  pla : ∀ q ∈ l, PlaI q.1
  slot : ∀ q ∈ l, 0 ≤ q.2 ∧ I64 q.2
theorem PaiOk.sub {l l' : List Pai} (h : PaiOk l) (hs : l'.Sublist l) : PaiOk l' :=
  ⟨h.nod.sublist (hs.map _), fun q hq => h.pla q (hs.subset hq), fun q hq => h.slot q (hs.subset hq)⟩
theorem PaiOk.drop {l : List Pai} (h : PaiOk l) (d : Int) : PaiOk (dropF l d) := h.sub List.filter_sublist
theorem PaiOk.over {l : List Pai} (h : PaiOk l) (p : Pla) : PaiOk (overF l p) := h.sub List.filter_sublist
theorem PaiOk.snoc {l : List Pai} (h : PaiOk l) {p : Pla} {c : Int} (hn : ∀ q ∈ l, q.1 ≠ p) (hp : PlaI p) (hc : 0 ≤ c ∧ I64 c) : PaiOk (l ++ [(p, c)]) := by
  refine ⟨?_, fun q hq => ?_, fun q hq => ?_⟩
  · rw [List.map_append, List.nodup_append]
    refine ⟨h.nod, by simp, fun a ha b hb => ?_⟩
    obtain ⟨q, hq, rfl⟩ := List.mem_map.1 ha
    simp only [List.map_cons, List.map_nil, List.mem_singleton] at hb
    rw [hb]; exact hn q hq
  · rcases List.mem_append.1 hq with hq | hq
    · exact h.pla q hq
    · rw [List.mem_singleton.1 hq]; exact hp
  · rcases List.mem_append.1 hq with hq | hq
    · exact h.slot q hq
    · rw [List.mem_singleton.1 hq]; exact hc
theorem inj_nod : ∀ {l : List Pai}, (l.map (·.1)).Nodup → ∀ {a b : Pai}, a ∈ l → b ∈ l → a.1 = b.1 → a = b
  | [], _, _, _, ha, _, _ => absurd ha (by simp)
  | x :: l, h, a, b, ha, hb, e => by
    rw [List.map_cons, List.nodup_cons] at h
    rcases List.mem_cons.1 ha with rfl | ha'
    · rcases List.mem_cons.1 hb with rfl | hb'
      · rfl
      · exact absurd (e ▸ List.mem_map.2 ⟨b, hb', rfl⟩) h.1
    · rcases List.mem_cons.1 hb with rfl | hb'
      · exact absurd (e ▸ List.mem_map.2 ⟨a, ha', rfl⟩) h.1
      · exact inj_nod h.2 ha' hb' e
theorem know_none {l : List Pai} {p : Pla} (h : ∀ q ∈ l, q.1 ≠ p) : knowF l p = -1 := by
  unfold knowF
  rw [List.find?_eq_none.2 (fun q hq => by simpa using fun e => h q hq (alias_two.1 e))]
theorem know_some {l : List Pai} (h : PaiOk l) {q : Pai} (hq : q ∈ l) : knowF l q.1 = q.2 := by
  unfold knowF
  cases hf : l.find? (fun x => decide (aliasP x.1 q.1 = 2)) with
  | none => exact absurd (alias_two.2 rfl) (by simpa using List.find?_eq_none.1 hf q hq)
  | some x =>
    have h1 := List.find?_some hf
    have h2 := List.mem_of_find?_eq_some hf
    have e : x.1 = q.1 := alias_two.1 (by simpa using h1)
    rw [inj_nod h.nod h2 hq e]
theorem over_ne {l : List Pai} {p : Pla} : ∀ q ∈ overF l p, q.1 ≠ p := fun q hq e => by
  have := (List.mem_filter.1 hq).2
  rw [e] at this
  have h2 : aliasP p p = 2 := alias_two.2 rfl
  simp [h2] at this
theorem know_neg {l : List Pai} (h : PaiOk l) {p : Pla} (hk : ¬ 0 ≤ knowF l p) : ∀ q ∈ l, q.1 ≠ p := fun q hq e => by
  have := know_some h hq
  rw [e] at this
  have := (h.slot q hq).1
  omega
theorem drop_noslot {l : List Pai} (h : PaiOk l) {d : Int} (hd : d < 0) : dropF l d = l := List.filter_eq_self.2 (fun q hq => by have := (h.slot q hq).1; simp; omega)
/-- A step that is right keeps the pairs right. -/
theorem stepF_ok {l : List Pai} (h : PaiOk l) {x : Ins} {p : Pla} (hp : PlaI p) (hd : x.op = 3 → 0 ≤ x.d) (hc : x.op = 4 → 0 ≤ x.c) (hw : x.wf) : PaiOk (stepF l x p).1 := by
  unfold stepF
  split
  · rename_i e
    exact (h.over p).snoc over_ne hp ⟨hc e, hw.2.2.2.2.1⟩
  · split
    · rename_i e
      split
      · exact h.drop _
      · rename_i hk
        exact (h.drop _).snoc (fun q hq => know_neg h hk q (List.mem_filter.1 hq).1) hp ⟨hd e, hw.2.1⟩
    · split
      · exact h
      · exact h.drop _
theorem know_i64 {l : List Pai} (h : PaiOk l) (p : Pla) : I64 (knowF l p) := by
  unfold knowF
  cases hf : l.find? (fun x => decide (aliasP x.1 p = 2)) with
  | none => exact ⟨by show (-9223372036854775808 : Int) ≤ -1; omega, by show (-1 : Int) ≤ _; omega⟩
  | some x => exact (h.slot x (List.mem_of_find?_eq_some hf)).2
theorem stepF_wf {l : List Pai} (h : PaiOk l) {x : Ins} {p : Pla} (hw : x.wf) (hs : x.t.size ≤ maxLen) : (stepF l x p).2.wf ∧ (stepF l x p).2.t.size ≤ maxLen := by
  unfold stepF
  split
  · exact ⟨hw, hs⟩
  · split
    · split
      · have z : I64 0 := ⟨by omega, by omega⟩
        exact ⟨⟨⟨by simp only [movF]; omega, by simp only [movF]; omega⟩, hw.2.1, know_i64 h p, z, z, z⟩, by simp [movF]⟩
      · exact ⟨hw, hs⟩
    · split <;> exact ⟨hw, hs⟩
/-- The step at place p is right. -/
def StOk (x : Ins) (p : Pla) : Prop := PlaI p ∧ x.wf ∧ x.t.size ≤ maxLen ∧ (x.op = 3 → 0 ≤ x.d) ∧ (x.op = 4 → 0 ≤ x.c)
theorem fwdUp_ok {code : List Ins} {ps : List Pla} (hp : ps.length = code.length) (h : ∀ j (h1 : j < code.length) (h2 : j < ps.length), StOk code[j] ps[j]) : ∀ j, j ≤ code.length → PaiOk (fwdUp code ps j).1 ∧ ∀ y ∈ (fwdUp code ps j).2, y.wf ∧ y.t.size ≤ maxLen
  | 0, _ => ⟨⟨by simp [fwdUp], by simp [fwdUp], by simp [fwdUp]⟩, by simp [fwdUp]⟩
  | j + 1, hj => by
    obtain ⟨h1, h2⟩ := fwdUp_ok hp h j (by omega)
    obtain ⟨s1, s2, s3, s4, s5⟩ := h j (by omega) (by omega)
    rw [fwdUp_at (by omega) (by omega)]
    refine ⟨stepF_ok h1 s1 s4 s5 s2, fun y hy => ?_⟩
    rcases List.mem_append.1 hy with hy | hy
    · exact h2 y hy
    · rw [List.mem_singleton.1 hy]; exact stepF_wf h1 s2 s3
end Go.Proofs.YtelkpikbjfkpcaaGreat

/- A map keyed by places: what it reads as, how a range that deletes goes. -/
namespace Go.Proofs.YtelkpikbjfkpcaaGreat
open Go.ChangeShapes Go.WideShapes Go.ChangeAt Go.RowKit Go.Maps
theorem laidM : laidOutB Tryz.prog = true := by kernel_rfl
theorem rowM : (92 : TypeId) < Tryz.prog.types.size := of_decide_eq_true (by kernel_rfl)
theorem lawM : Keyed Tryz.prog 92 := Keyed.of_law (deep_law_laid laidM (m := 2) (by omega) rowM (by kernel_rfl) (by rw [Tryz.underlying92]))
theorem keyTyM : Tryz.prog.keyType 92 = true := by kernel_rfl
theorem cellsM : Tryz.prog.cellsOf 92 = 4 := by kernel_rfl
theorem cellsI : Tryz.prog.cellsOf 3 = 1 := by kernel_rfl
theorem depthM : ∃ d, Tryz.prog.types.size = d + 1 := Nat.exists_eq_succ_of_ne_zero (Nat.ne_of_gt (Nat.lt_of_le_of_lt (Nat.zero_le _) rowM))
theorem zeroM (w : World) : (zeroValue 3).run Tryz.prog w = .ok (.int .i64 0) w := by kernel_rfl
def litV : Value → Option (List Lit)
  | .int q n => if q = .i64 ∧ (Lit.int .i64 n).wf = true then some [.int .i64 n] else none
  | _ => none
theorem litInt (d : Nat) (v : Value) : Tryz.prog.keyLits (d + 1) 3 [v] = litV v := by
  unfold Program.keyLits
  rw [Tryz.underlying3]
  cases v <;> rfl
theorem litV_some {v : Value} {x : List Lit} (h : litV v = some x) : ∃ n, v = .int .i64 n ∧ I64 n := by
  cases v <;> simp only [litV] at h
  all_goals first | (cases h; done) | skip
  split at h
  · rename_i hw
    obtain ⟨rfl, hw⟩ := hw
    refine ⟨_, rfl, ?_⟩
    have := hw
    simp [Lit.wf] at this
    exact this
  · cases h
theorem litV_mk {n : Int} (h : I64 n) : litV (.int .i64 n) = some [.int .i64 n] := by
  have : (Lit.int .i64 n).wf = true := WalkArith.wf_i64 h
  simp [litV, this]
theorem keyLits4 (m : Nat) (a b c d : Value) : Tryz.prog.keyLits (m + 1 + 1) 92 [a, b, c, d] = ([a, b, c, d].mapM litV).map List.flatten := by
  unfold Program.keyLits
  rw [Tryz.underlying92]
  simp [cellsM, cellsI, litInt]
theorem keyOf4 {v : Value} : ∃ m, keyOf Tryz.prog 92 v = if v.formed Tryz.prog 92 = true then (Tryz.prog.keyLits (m + 1 + 1) 92 v.cells.toList).map fun ls => Lit.string (keyBytes ls) else none := by
  obtain ⟨m, hm⟩ := depthM
  refine ⟨m, ?_⟩
  unfold keyOf
  rw [hm, Tryz.underlying92]
  simp only [keyTyM, Bool.true_and]
theorem key_ex {p : Pla} (h : PlaI p) : ∃ kl, keyOf Tryz.prog 92 (.agg (plV p)) = some kl := by
  obtain ⟨m, e⟩ := keyOf4 (v := .agg (plV p))
  have hf : (Value.agg (plV p)).formed Tryz.prog 92 = true := by simp [Value.formed, Tryz.underlying92, cellsM, plV]
  rw [e, if_pos hf]
  have hc : (Value.agg (plV p)).cells.toList = [.int .i64 p.r, .int .i64 p.i, .int .i64 p.j, .int .i64 p.off] := rfl
  rw [hc, keyLits4]
  simp only [List.mapM_cons, List.mapM_nil, litV_mk h.1, litV_mk h.2.1, litV_mk h.2.2.1, litV_mk h.2.2.2]
  exact ⟨_, rfl⟩
theorem size4 {cs : Array Value} (h : cs.size = 4) : ∃ a b c d, cs = #[a, b, c, d] := by
  obtain ⟨l⟩ := cs
  match l, h with
  | [a, b, c, d], _ => exact ⟨a, b, c, d, rfl⟩
theorem formed4 {v : Value} (h : v.formed Tryz.prog 92 = true) : ∃ a b c d, v = .agg #[a, b, c, d] := by
  cases v with
  | agg cs =>
    have hs : cs.size = 4 := by simpa only [Value.formed, Tryz.underlying92, cellsM, beq_iff_eq] using h
    obtain ⟨a, b, c, d, rfl⟩ := size4 hs
    exact ⟨a, b, c, d, rfl⟩
  | _ => exact absurd h (by simp [Value.formed, Tryz.underlying92])
theorem key_inv {v : Value} {kl : Lit} (h : keyOf Tryz.prog 92 v = some kl) : ∃ p, v = .agg (plV p) ∧ PlaI p := by
  obtain ⟨m, e⟩ := keyOf4 (v := v)
  rw [e] at h
  clear e
  by_cases hf : v.formed Tryz.prog 92 = true
  · rw [if_pos hf] at h
    obtain ⟨a, b, c, d, rfl⟩ := formed4 hf
    have hc : (Value.agg #[a, b, c, d]).cells.toList = [a, b, c, d] := rfl
    rw [hc, keyLits4] at h
    clear hf hc
    simp only [List.mapM_cons, List.mapM_nil] at h
    cases ha : litV a with
    | none => rw [ha] at h; cases h
    | some xa =>
    cases hb : litV b with
    | none => rw [ha, hb] at h; cases h
    | some xb =>
    cases hcc : litV c with
    | none => rw [ha, hb, hcc] at h; cases h
    | some xc =>
    cases hd : litV d with
    | none => rw [ha, hb, hcc, hd] at h; cases h
    | some xd =>
    obtain ⟨na, rfl, ia⟩ := litV_some ha
    obtain ⟨nb, rfl, ib⟩ := litV_some hb
    obtain ⟨nc, rfl, ic⟩ := litV_some hcc
    obtain ⟨nd, rfl, id⟩ := litV_some hd
    exact ⟨⟨na, nb, nc, nd⟩, rfl, ia, ib, ic, id⟩
  · rw [if_neg hf] at h; cases h
/-- What each place reads as, as a key. -/
structure KeyFn (pk : Pla → Lit) : Prop where
  key : ∀ {p : Pla}, PlaI p → keyOf Tryz.prog 92 (.agg (plV p)) = some (pk p)
  lit : ∀ {p : Pla}, PlaI p → WideAt.IsKeyLit (pk p)
  inj : ∀ {p q : Pla}, PlaI p → PlaI q → pk p = pk q → p = q
theorem keyFn_ex : ∃ pk, KeyFn pk := by
  have ex : ∀ p : Pla, ∃ kl, PlaI p → keyOf Tryz.prog 92 (.agg (plV p)) = some kl := fun p => by
    by_cases h : PlaI p
    · obtain ⟨kl, e⟩ := key_ex h
      exact ⟨kl, fun _ => e⟩
    · exact ⟨.bool false, fun h' => absurd h' h⟩
  obtain ⟨pk, hpk⟩ := Classical.axiomOfChoice ex
  refine ⟨pk, fun {p} h => hpk p h, fun {p} h => lawM.key (hpk p h), fun {p q} hp hq e => ?_⟩
  have e := lawM.inj (hpk p hp) (e ▸ hpk q hq)
  obtain ⟨a, b, c, d⟩ := p
  obtain ⟨a', b', c', d'⟩ := q
  simpa [plV] using e
section
variable {pk : Pla → Lit}
/-- The map reads as these pairs. -/
structure ReadsP (pk : Pla → Lit) (D : DataW Unit) (l : List Pai) : Prop where
  has : ∀ kl, Maps.has D kl = true ↔ ∃ q ∈ l, pk q.1 = kl
  at' : ∀ q ∈ l, ∀ z, D.atKey (pk q.1) z = .lit (.int .i64 q.2)
def keepL (pk : Pla → Lit) (keep : Pai → Bool) (left : Lit → Bool) (l : List Pai) : List Pai := l.filter fun q => keep q || left (pk q.1)
theorem keep_start {D : DataW Unit} {l : List Pai} (h : ReadsP pk D l) (keep : Pai → Bool) : keepL pk keep (Maps.has D) l = l :=
  List.filter_eq_self.2 (fun q hq => by rw [(h.has _).2 ⟨q, hq, rfl⟩]; simp)
theorem keep_end {keep : Pai → Bool} {left : Lit → Bool} (l : List Pai) (h : ∀ kl, left kl = false) : keepL pk keep left l = l.filter keep := by
  unfold keepL
  simp [h]
theorem same_iff (F : KeyFn pk) {a b : Pla} (ha : PlaI a) (hb : PlaI b) : (pk a).sameKey (pk b) = true ↔ a = b := by
  constructor
  · intro h
    exact F.inj ha hb (WideAt.sameKey_eq h)
  · rintro rfl
    exact WideAt.sameKey_self (F.lit ha)
/-- The pair q goes. -/
theorem keep_strike (F : KeyFn pk) {l : List Pai} (ok : PaiOk l) {keep : Pai → Bool} {left : Lit → Bool} {D : DataW Unit} (h : ReadsP pk D (keepL pk keep left l)) {q : Pai} (hq : q ∈ l) (hk : keep q = false) :
    ReadsP pk (D.del (pk q.1)) (keepL pk keep (fun z => left z && !z.sameKey (pk q.1)) l) := by
  have hm : ∀ y ∈ l, y ∈ keepL pk keep (fun z => left z && !z.sameKey (pk q.1)) l ↔ y ∈ keepL pk keep left l ∧ y.1 ≠ q.1 := fun y hy => by
    simp only [keepL, List.mem_filter, hy, true_and]
    by_cases e : y.1 = q.1
    · have : y = q := inj_nod ok.nod hy hq e
      subst this
      simp [hk, (same_iff F (ok.pla y hy) (ok.pla y hy)).2 rfl]
    · have hs : (pk y.1).sameKey (pk q.1) = false := by
        cases hs : (pk y.1).sameKey (pk q.1)
        · rfl
        · exact absurd ((same_iff F (ok.pla y hy) (ok.pla q hq)).1 hs) e
      simp [hs, e]
  have hin : ∀ {lf : Lit → Bool} {y : Pai}, y ∈ keepL pk keep lf l → y ∈ l := fun hy => (List.mem_filter.1 hy).1
  constructor
  · intro kl
    by_cases e : kl = pk q.1
    · subst e
      rw [Maps.has_del_same]
      constructor
      · intro h; cases h
      · rintro ⟨y, hy, e⟩
        exact absurd (F.inj (ok.pla y (hin hy)) (ok.pla q hq) e) ((hm y (hin hy)).1 hy).2
    · rw [Maps.has_del_other e, h.has]
      constructor
      · rintro ⟨y, hy, rfl⟩
        exact ⟨y, (hm y (hin hy)).2 ⟨hy, fun e' => e (by rw [e'])⟩, rfl⟩
      · rintro ⟨y, hy, rfl⟩
        exact ⟨y, ((hm y (hin hy)).1 hy).1, rfl⟩
  · intro y hy z
    have := (hm y (hin hy)).1 hy
    rw [Maps.atKey_del_other (fun e => this.2 (F.inj (ok.pla y (hin hy)) (ok.pla q hq) e))]
    exact h.at' y this.1 z
/-- The pair q stays. -/
theorem keep_stay (F : KeyFn pk) {l : List Pai} (ok : PaiOk l) {keep : Pai → Bool} {left : Lit → Bool} {q : Pai} (hq : q ∈ l) (hk : keep q = true) :
    keepL pk keep (fun z => left z && !z.sameKey (pk q.1)) l = keepL pk keep left l := by
  unfold keepL
  refine List.filter_congr (fun y hy => ?_)
  by_cases e : y.1 = q.1
  · have : y = q := inj_nod ok.nod hy hq e
    subst this
    simp [hk]
  · have hs : (pk y.1).sameKey (pk q.1) = false := by
      cases hs : (pk y.1).sameKey (pk q.1)
      · rfl
      · exact absurd ((same_iff F (ok.pla y hy) (ok.pla q hq)).1 hs) e
    simp [hs]
/-- The map in block b reads as these pairs. -/
def MapIs (w : World) (b n : Nat) (l : List Pai) : Prop := PaiOk l ∧ ∃ pk, KeyFn pk ∧ ∃ D : DataW Unit, w.ownsMap Tryz.prog 92 (plainElem Tryz.prog 3) b n D ∧ ReadsP pk D l
theorem reads_put (F : KeyFn pk) {D : DataW Unit} {l : List Pai} (hD : Maps.IsMap D) (h : ReadsP pk D l) (ok : PaiOk l) {p : Pla} {c : Int} (hp : PlaI p) (hn : ∀ q ∈ l, q.1 ≠ p) : ReadsP pk (D.put (pk p) (.lit (.int .i64 c))) (l ++ [(p, c)]) := by
  have hk := F.lit hp
  constructor
  · intro kl
    by_cases e : kl = pk p
    · subst e
      rw [Maps.has_put_same hD hk]
      exact ⟨fun _ => ⟨(p, c), by simp, rfl⟩, fun _ => rfl⟩
    · rw [Maps.has_put_other e, h.has]
      constructor
      · rintro ⟨y, hy, rfl⟩; exact ⟨y, by simp [hy], rfl⟩
      · rintro ⟨y, hy, rfl⟩
        rcases List.mem_append.1 hy with hy | hy
        · exact ⟨y, hy, rfl⟩
        · rw [List.mem_singleton.1 hy] at e; exact absurd rfl e
  · intro y hy z
    rcases List.mem_append.1 hy with hy | hy
    · rw [Maps.atKey_put_other (fun e => hn y hy (F.inj (ok.pla y hy) hp e))]
      exact h.at' y hy z
    · rw [List.mem_singleton.1 hy]
      exact Maps.atKey_put_same hD hk _ _
theorem reads_nil : ReadsP pk (.map []) [] := ⟨fun kl => by simp [Maps.has], fun q hq => by simp at hq⟩
end
theorem MapIs.made (w : World) : MapIs (w.alloc (.map #[] 0)) w.heap.size 0 [] := by
  obtain ⟨pk, F⟩ := keyFn_ex
  exact ⟨⟨by simp, by simp, by simp⟩, pk, F, _, World.ownsMap_made _ _ _ _, reads_nil⟩
theorem MapIs.kept {w w' : World} {b n : Nat} {l : List Pai} {row : Option Nat} (h : MapIs w b n l) (hg : w.grownBy w' row) (hne : some b ≠ row) : MapIs w' b n l :=
  let ⟨ok, pk, F, D, h1, h2⟩ := h
  ⟨ok, pk, F, D, h1.kept hg hne, h2⟩
theorem grows_below {w w' : World} (h : Below w.heap.size w w') : w.grownBy w' none := ⟨h.os, h.tape, h.output, h.size, fun i hi _ => h.block i hi⟩
theorem MapIs.stays {w w' : World} {b n : Nat} {l : List Pai} (h : MapIs w b n l) (bel : Below w.heap.size w w') : MapIs w' b n l := h.kept (grows_below bel) (by simp)
theorem MapIs.lt {w : World} {b n : Nat} {l : List Pai} (h : MapIs w b n l) : b < w.heap.size := let ⟨_, _, _, _, h1, _⟩ := h; h1.lt
end Go.Proofs.YtelkpikbjfkpcaaGreat

/- The contracts of (impl.pairs).makeAnew and (impl.pairs).storeOver. -/
namespace Go.Proofs.YtelkpikbjfkpcaaGreat
open Go.ChangeShapes Go.WideShapes Go.ChangeAt Go.RowKit Go.Maps
theorem But.ofG {b : Nat} {w w' : World} (h : w.grownBy w' (some b)) : But b w w' := ⟨h.os, h.tape, h.output, h.size, fun k hk hne => h.block k hk (by simpa using hne)⟩
theorem But.grow {b : Nat} {w w' : World} (h : But b w w') : w.grownBy w' (some b) := ⟨h.os, h.tape, h.output, h.size, fun k hk hne => h.block k hk (by simpa using hne)⟩
theorem invKM : ∀ key kl, keyOf Tryz.prog 92 key = some kl → ∃ x : Pla, key = Value.agg #[.int .i64 x.r, .int .i64 x.i, .int .i64 x.j, .int .i64 x.off] := fun key kl h => by
  obtain ⟨p, rfl, _⟩ := key_inv h
  exact ⟨p, rfl⟩
theorem invVM : ∀ (v : Value) (y : DataW Unit × List MemPlace), plainElem Tryz.prog 3 v = some y → ∃ c : Int, v = Value.int .i64 c := fun v y h => by
  obtain ⟨c, rfl, _⟩ := plainElem_int_inv Tryz.underlying3 h
  exact ⟨c, rfl⟩
theorem blkP (w : World) (cs : Array Value) : (w.alloc (.cells cs 92)).heap[w.heap.size]? = some (.cells cs 92) := by show (w.heap.push _)[w.heap.size]? = _; exact Array.getElem?_push_size
theorem dlit_inj {a c : Int} (h : (DataW.lit (.int .i64 a) : DataW Unit) = .lit (.int .i64 c)) : a = c := by cases h; rfl
theorem vint_inj {a c : Int} (h : Value.int .i64 a = .int .i64 c) : a = c := by cases h; rfl
/-- The entry that has come is a pair of the list. -/
theorem entry_is {pk : Pla → Lit} (F : KeyFn pk) {l : List Pai} (ok : PaiOk l) {keep : Pai → Bool} {left : Lit → Bool} {D : DataW Unit} (h : ReadsP pk D (keepL pk keep left l)) {x : Pla} {c : Int} {kl : Lit} {y : DataW Unit × List MemPlace}
    (hkey : keyOf Tryz.prog 92 (.agg #[.int .i64 x.r, .int .i64 x.i, .int .i64 x.j, .int .i64 x.off]) = some kl) (hv : plainElem Tryz.prog 3 (.int .i64 c) = some y) (hat : ∀ zd, D.atKey kl zd = y.1) : (x, c) ∈ l ∧ kl = pk x := by
  obtain ⟨p, e, hp⟩ := key_inv hkey
  have ex : x = p := by
    obtain ⟨a1, a2, a3, a4⟩ := x
    obtain ⟨b1, b2, b3, b4⟩ := p
    simpa [plV] using e
  subst ex
  have hk : kl = pk x := Option.some.inj (hkey.symm.trans (F.key hp))
  subst hk
  obtain ⟨c', e', rfl, _⟩ := plainElem_int_inv Tryz.underlying3 hv
  obtain ⟨q, hq, hqe⟩ := (h.has _).1 (has_true_of_atKey hat)
  have hql := (List.mem_filter.1 hq).1
  have h1 : q.1 = x := F.inj (ok.pla q hql) hp hqe
  have h2 := h.at' q hq (.lit (.int .i64 0))
  rw [h1, hat] at h2
  have h3 : c = q.2 := (vint_inj e').trans (dlit_inj h2)
  exact ⟨by rw [h3, ← h1]; exact hql, rfl⟩
set_option maxRecDepth 100000 in
set_option maxHeartbeats 4000000 in
theorem makeAnew_any (l : List Pai) (slot : Int) (w : World) (b n : Nat) (h : MapIs w b n l) :
    Calls Tryz.prog 150 #[.map (some b), .int .i64 slot] w fun e w' => e = .returned (.tuple #[]) ∧ MapIs w' b n (dropF l slot) ∧ But b w w' := by
  obtain ⟨ok, pk, F, D, hown, hrd⟩ := h
  have OK := hideP ok
  have HF := hideP F
  have HR := hideP hrd
  obtain ⟨keep, hkeep⟩ : ∃ keep : Pai → Bool, keep = fun q => decide (q.2 ≠ slot) := ⟨_, rfl⟩
  have HK := hideP hkeep
  clear ok F hrd hkeep
  go_enter Tryz.func150, Tryz.ntmps150
  go_wp2_with (first
    | (at_range; refine wpList_range_own _ rfl _ 139 rfl 92 3 lawM Tryz.underlying139 _ b n _ rfl hown ?_; intro w0 hrg0 hg0 hs0)
    | go_in)
  go_frame
  go_loopw [8] (fun _ wr => ∃ (left : Lit → Bool) (cnt : Nat) (D' : DataW Unit), wr.ranges Tryz.prog 92 (plainElem Tryz.prog 3) b w.heap.size n D' left cnt ∧ Hid (ReadsP pk D' (keepL pk keep left l)) ∧ w.grownBy wr (some b)) (fun _ wr => wr.rangeLeft b w.heap.size)
  case atStart => exact ⟨_, _, _, hrg0, by rw [keep_start HR.out]; exact HR.out, hg0.but _⟩
  case round =>
    obtain ⟨left, cnt, D', hrg, hrd, hgw⟩ := hrel
    clear hrg0 hg0 hs0 hown
    go_wp2_with (first
      | (at_next; refine wpList_next_ranges _ rfl _ rfl 92 lawM _ (fun x : Pla => Value.agg #[.int .i64 x.r, .int .i64 x.i, .int .i64 x.j, .int .i64 x.off]) (fun c : Int => Value.int .i64 c) invKM invVM b w.heap.size n _ _ _ rfl hrg ?_ ?_)
      | go_in)
    · intro _ hl0
      have E : Hid (keepL pk keep left l = dropF l slot) := by show _ = _; rw [keep_end l hl0, HK.out]; rfl
      go_wp2
      go_end0
      exact ⟨rfl, ⟨OK.out.drop _, pk, HF.out, _, hrg.owns, by rw [← E.out]; exact hrd.out⟩, But.ofG hgw⟩
    · intro x c kl y yp w1 cnt1 hkey hlk hv hat hrg1 hlt hg1 hs1 hen
      obtain ⟨hin, rfl⟩ := entry_is (y := (y, yp)) HF.out OK.out hrd.out hkey hv hat
      have hgw1 := hgw.andThen hg1 (fun j hj => by cases hj; exact Or.inl (Nat.le_refl _))
      have HIN := hideP hin
      obtain ⟨kl, hkl⟩ : ∃ kl, pk x = kl := ⟨_, rfl⟩
      rw [hkl] at hkey hlk hat hrg1
      have HKL := hideP hkl
      have hal := hrg1.alloc (.cells #[.int .i64 x.r, .int .i64 x.i, .int .i64 x.j, .int .i64 x.off] 92)
      have hgal : w.grownBy (w1.alloc (.cells #[.int .i64 x.r, .int .i64 x.i, .int .i64 x.j, .int .i64 x.off] 92)) (some b) := hgw1.andThen (World.grownBy_alloc w1 _ none) (fun j hj => by cases hj)
      clear hin hkl hv hat
      by_cases hc : c = slot
      · subst hc
        have KF : Hid (keep (x, c) = false) := by show _ = _; rw [HK.out]; simp
        go_wp2_with (first
          | (at_delete; refine wpList_delete_ranges _ rfl _ _ 139 92 rfl 3 lawM Tryz.underlying139 _ b w.heap.size n _ _ _ rfl hal _ _ rfl hkey ?_; intro w2 cnt2 hrg2 hle hturn; go_frame)
          | go_in)
        rw [strike_twice] at hrg2
        go_roundw
        case rel =>
          refine ⟨_, cnt2, _, hrg2, ?_, hgal.andThen hturn.grown (fun j hj => by cases hj; exact Or.inr rfl)⟩
          rw [← HKL.out]
          exact keep_strike HF.out OK.out hrd.out HIN.out KF.out
        case measure => rw [hrg2.left_eq, hrg.left_eq]; omega
      · have KF : Hid (keep (x, c) = true) := by show _ = _; rw [HK.out]; simp [hc]
        have hc2 : (c == slot) = false := by simpa using hc
        go_wp2
        go_roundw
        case rel =>
          refine ⟨_, cnt1, _, hal, ?_, hgal⟩
          rw [← HKL.out]
          have e := keep_stay (left := left) HF.out OK.out HIN.out KF.out
          show ReadsP _ _ (keepL pk keep (fun z => left z && !z.sameKey (pk x)) l)
          rw [show keepL pk keep (fun z => left z && !z.sameKey (pk x)) l = keepL pk keep left l from e]
          exact hrd.out
        case measure => rw [hal.left_eq, hrg.left_eq]; exact hlt
set_option maxRecDepth 100000 in
set_option maxHeartbeats 4000000 in
theorem storeOver_any (l : List Pai) (p : Pla) (w : World) (b n : Nat) (h : MapIs w b n l) :
    Calls Tryz.prog 149 #[.map (some b), .agg (plV p)] w fun e w' => e = .returned (.tuple #[]) ∧ MapIs w' b n (overF l p) ∧ But b w w' := by
  obtain ⟨ok, pk, F, D, hown, hrd⟩ := h
  have OK := hideP ok
  have HF := hideP F
  have HR := hideP hrd
  obtain ⟨keep, hkeep⟩ : ∃ keep : Pai → Bool, keep = fun q => decide (aliasP q.1 p = 0) := ⟨_, rfl⟩
  have HK := hideP hkeep
  clear ok F hrd hkeep
  obtain ⟨pr, pi, pj, po⟩ := p
  simp only [plV]
  have Q0 := hideP (blkP w #[.int .i64 pr, .int .i64 pi, .int .i64 pj, .int .i64 po])
  have hown1 := hown.alloc (.cells #[.int .i64 pr, .int .i64 pi, .int .i64 pj, .int .i64 po] 92)
  have hb0 := hown.lt
  go_enter Tryz.func149, Tryz.ntmps149
  go_wp2_with (first
    | (at_range; refine wpList_range_own _ rfl _ 139 rfl 92 3 lawM Tryz.underlying139 _ b n _ rfl hown1 ?_; intro w0 hrg0 hg0 hs0)
    | go_in)
  go_frame
  have e1 : (w.alloc (.cells #[.int .i64 pr, .int .i64 pi, .int .i64 pj, .int .i64 po] 92)).heap.size = w.heap.size + 1 := by simp
  rw [e1] at hrg0 ⊢
  clear e1
  go_loopw [7] (fun _ wr => ∃ (left : Lit → Bool) (cnt : Nat) (D' : DataW Unit), wr.ranges Tryz.prog 92 (plainElem Tryz.prog 3) b (w.heap.size + 1) n D' left cnt ∧ Hid (ReadsP pk D' (keepL pk keep left l)) ∧ w.grownBy wr (some b) ∧ Hid (wr.heap[w.heap.size]? = some (.cells #[.int .i64 pr, .int .i64 pi, .int .i64 pj, .int .i64 po] 92))) (fun _ wr => wr.rangeLeft b (w.heap.size + 1))
  case atStart => exact ⟨_, _, _, hrg0, by rw [keep_start HR.out]; exact HR.out, ((World.grownBy_alloc w _ none).trans hg0).but _, (hg0.block w.heap.size (by simp) (by simp)).trans Q0.out⟩
  case round =>
    obtain ⟨left, cnt, D', hrg, hrd, hgw, hbx⟩ := hrel
    clear hrg0 hg0 hs0 hown hown1
    go_wp2_with (first
      | (at_next; refine wpList_next_ranges _ rfl _ rfl 92 lawM _ (fun x : Pla => Value.agg #[.int .i64 x.r, .int .i64 x.i, .int .i64 x.j, .int .i64 x.off]) (fun c : Int => Value.int .i64 c) invKM invVM b (w.heap.size + 1) n _ _ _ rfl hrg ?_ ?_)
      | go_in)
    · intro _ hl0
      have E : Hid (keepL pk keep left l = overF l ⟨pr, pi, pj, po⟩) := by show _ = _; rw [keep_end l hl0, HK.out]; rfl
      go_wp2
      go_end0
      exact ⟨rfl, ⟨OK.out.over _, pk, HF.out, _, hrg.owns, by rw [← E.out]; exact hrd.out⟩, But.ofG hgw⟩
    · intro x c kl y yp w1 cnt1 hkey hlk hv hat hrg1 hlt hg1 hs1 hen
      obtain ⟨hin, rfl⟩ := entry_is (y := (y, yp)) HF.out OK.out hrd.out hkey hv hat
      have hgw1 := hgw.andThen hg1 (fun j hj => by cases hj; exact Or.inl (Nat.le_succ _))
      have HIN := hideP hin
      obtain ⟨kl, hkl⟩ : ∃ kl, pk x = kl := ⟨_, rfl⟩
      rw [hkl] at hkey hlk hat hrg1
      have HKL := hideP hkl
      have hal := hrg1.alloc (.cells #[.int .i64 x.r, .int .i64 x.i, .int .i64 x.j, .int .i64 x.off] 92)
      have hgal : w.grownBy (w1.alloc (.cells #[.int .i64 x.r, .int .i64 x.i, .int .i64 x.j, .int .i64 x.off] 92)) (some b) := hgw1.andThen (World.grownBy_alloc w1 _ none) (fun j hj => by cases hj)
      clear hin hkl hv hat
      have hx0 := (hg1.block w.heap.size (hltP hbx.out) (by simp)).trans hbx.out
      have HX0 := hideP (((Below.refl w1.heap.size w1).alloc (Nat.le_refl _) (.cells #[.int .i64 x.r, .int .i64 x.i, .int .i64 x.j, .int .i64 x.off] 92)).block w.heap.size (hltP hx0) |>.trans hx0)
      have HX1 := hideP (blkP w1 #[.int .i64 x.r, .int .i64 x.i, .int .i64 x.j, .int .i64 x.off])
      obtain ⟨al, hal2⟩ : ∃ al, aliasP x ⟨pr, pi, pj, po⟩ = al := ⟨_, rfl⟩
      have AI : Hid (∀ W, Calls Tryz.prog 144 #[.agg #[.int .i64 x.r, .int .i64 x.i, .int .i64 x.j, .int .i64 x.off], .agg #[.int .i64 pr, .int .i64 pi, .int .i64 pj, .int .i64 po]] W fun e w' => e = .returned (.int .i64 al) ∧ Below W.heap.size W w') := fun W => hal2 ▸ implAlias_any x ⟨pr, pi, pj, po⟩ W
      have KA : Hid (keep (x, c) = decide (al = 0)) := by show _ = _; rw [HK.out, ← hal2]
      clear hal2 hx0 hbx hs1
      go_upto_region 4 with fail
      obtain ⟨wb, hwb⟩ : ∃ wb, w1.alloc (.cells #[.int .i64 x.r, .int .i64 x.i, .int .i64 x.j, .int .i64 x.off] 92) = wb := ⟨_, rfl⟩
      rw [hwb] at hal hgal HX0 HX1 ⊢
      clear hwb hen
      have y0 := (cells_of HX0.out).1 0
      have y1 := (cells_of HX0.out).1 1
      have y2 := (cells_of HX0.out).1 2
      have y3 := (cells_of HX0.out).1 3
      have x0 := (cells_of HX1.out).1 0
      have x1 := (cells_of HX1.out).1 1
      have x2 := (cells_of HX1.out).1 2
      have x3 := (cells_of HX1.out).1 3
      simp at y0 y1 y2 y3 x0 x1 x2 x3
      go_wp2_with fail
      refine (AI.out _).mono ?_
      rintro e5 w5 ⟨rfl, bel5⟩
      have hrg5 := hal.kept (grows_below bel5) (by simp) (by simp)
      have hg5 := hgal.andThen (grows_below bel5) (fun j hj => by cases hj)
      have HY5 := hideP ((bel5.block _ (hltP HX0.out)).trans HX0.out)
      have X5 := hideP ((bel5.block _ (hltP HX1.out)).trans HX1.out)
      clear bel5 y0 y1 y2 y3 x0 x1 x2 x3 hal hgal HX0 HX1 AI
      have x0 := (cells_of X5.out).1 0
      have x1 := (cells_of X5.out).1 1
      have x2 := (cells_of X5.out).1 2
      have x3 := (cells_of X5.out).1 3
      simp at x0 x1 x2 x3
      by_cases hc : al = 0
      · have KF : Hid (keep (x, c) = true) := by show _ = _; rw [KA.out]; simp [hc]
        subst hc
        go_wp2
        go_roundw
        case rel =>
          refine ⟨_, cnt1, _, hrg5, ?_, hg5, HY5.out⟩
          rw [← HKL.out]
          have e := keep_stay (left := left) HF.out OK.out HIN.out KF.out
          show ReadsP _ _ (keepL pk keep (fun z => left z && !z.sameKey (pk x)) l)
          rw [show keepL pk keep (fun z => left z && !z.sameKey (pk x)) l = keepL pk keep left l from e]
          exact hrd.out
        case measure => rw [hrg5.left_eq, hrg.left_eq]; exact hlt
      · have KF : Hid (keep (x, c) = false) := by show _ = _; rw [KA.out]; simp [hc]
        have hc2 : (al == 0) = false := by simpa using hc
        go_wp2_with (first
          | (at_delete; refine wpList_delete_ranges _ rfl _ _ 139 92 rfl 3 lawM Tryz.underlying139 _ b (w.heap.size + 1) n _ _ _ rfl hrg5 _ _ rfl hkey ?_; intro w2 cnt2 hrg2 hle hturn; go_frame)
          | go_in)
        rw [strike_twice] at hrg2
        go_roundw
        case rel =>
          refine ⟨_, cnt2, _, hrg2, ?_, hg5.andThen hturn.grown (fun j hj => by cases hj; exact Or.inr rfl), ?_⟩
          · rw [← HKL.out]
            exact keep_strike HF.out OK.out hrd.out HIN.out KF.out
          · exact (hturn.grown.block _ (hltP HY5.out) (by simp; omega)).trans HY5.out
        case measure => rw [hrg2.left_eq, hrg.left_eq]; omega
end Go.Proofs.YtelkpikbjfkpcaaGreat

/- The contracts of (impl.pairs).load and (impl.pairs).step (written by wip/mkfwdb.py). -/
namespace Go.Proofs.YtelkpikbjfkpcaaGreat
open Go.ChangeShapes Go.WideShapes Go.ChangeAt Go.RowKit Go.Maps
theorem MapIs.up {w : World} {b n m : Nat} {l : List Pai} (h : MapIs w b n l) (hn : n ≤ m) : MapIs w b m l :=
  let ⟨ok, pk, F, D, h1, h2⟩ := h
  ⟨ok, pk, F, D, h1.mono hn, h2⟩
theorem MapIs.but {w w' : World} {b n k : Nat} {l : List Pai} (h : MapIs w b n l) (hb : But k w w') (hne : b ≠ k) : MapIs w' b n l := h.kept hb.grow (by simpa using hne)
/-- One block besides is written that is new. -/
theorem upBut {b k : Nat} {w w1 w2 : World} (h : But b w w1) (hk : But k w1 w2) (hn : w.heap.size ≤ k) : But b w w2 :=
  ⟨hk.os.trans h.os, hk.tape.trans h.tape, hk.output.trans h.output, Nat.le_trans h.size hk.size, fun i hi hne => (hk.block i (Nat.lt_of_lt_of_le hi h.size) (by omega)).trans (h.block i hi hne)⟩
theorem But.thenB {b : Nat} {w w1 w2 : World} (h : Below w.heap.size w w1) (k : But b w1 w2) : But b w w2 :=
  ⟨k.os.trans h.os, k.tape.trans h.tape, k.output.trans h.output, Nat.le_trans h.size k.size, fun i hi hne => (k.block i (Nat.lt_of_lt_of_le hi h.size) hne).trans (h.block i hi)⟩
theorem But.ofBelowP {b : Nat} {w w1 : World} (k : Below w.heap.size w w1) : But b w w1 := But.thenB k (But.refl _ _)
theorem But.keepB {b k : Nat} {w w' : World} {o : Obj} (h : But b w w') (hx : w.heap[k]? = some o) (hne : k ≠ b) : w'.heap[k]? = some o := (h.block k (hltP hx) hne).trans hx
theorem But.twice {b : Nat} {w w1 w2 : World} (h : But b w w1) (k : But b w1 w2) : But b w w2 :=
  ⟨k.os.trans h.os, k.tape.trans h.tape, k.output.trans h.output, Nat.le_trans h.size k.size, fun i hi hne => (k.block i (Nat.lt_of_lt_of_le hi h.size) hne).trans (h.block i hi hne)⟩
/-- What a look-up tells. -/
theorem look_is {pk : Pla → Lit} (F : KeyFn pk) {D : DataW Unit} {l : List Pai} (ok : PaiOk l) (h : ReadsP pk D l) {p : Pla} (hp : PlaI p) :
    (Maps.has D (pk p) = true ∧ 0 ≤ knowF l p ∧ ∀ c z, D.atKey (pk p) z = .lit (.int .i64 c) → c = knowF l p) ∨ (Maps.has D (pk p) = false ∧ ¬ 0 ≤ knowF l p ∧ ∀ q ∈ l, q.1 ≠ p) := by
  cases hh : Maps.has D (pk p)
  · have hn : ∀ q ∈ l, q.1 ≠ p := fun q hq e => by
      have := (h.has (pk p)).2 ⟨q, hq, by rw [e]⟩
      rw [hh] at this; cases this
    exact Or.inr ⟨rfl, by rw [know_none hn]; omega, hn⟩
  · obtain ⟨q, hq, e⟩ := (h.has (pk p)).1 hh
    have e1 : q.1 = p := F.inj (ok.pla q hq) hp e
    have hk := know_some ok hq
    rw [e1] at hk
    refine Or.inl ⟨rfl, by rw [hk]; exact (ok.slot q hq).1, fun c z hc => ?_⟩
    have := h.at' q hq z
    rw [e1, hc] at this
    rw [hk]; exact dlit_inj this
theorem MapIs.put {w' : World} {b n : Nat} {l : List Pai} {p : Pla} {c : Int} {pk : Pla → Lit} (F : KeyFn pk) (ok : PaiOk l) {D : DataW Unit} (hD : Maps.IsMap D) (hr : ReadsP pk D l) (hp : PlaI p) (hc : 0 ≤ c ∧ I64 c) (hn : ∀ q ∈ l, q.1 ≠ p) (h : w'.ownsMap Tryz.prog 92 (plainElem Tryz.prog 3) b (n + 1) (D.put (pk p) (.lit (.int .i64 c)))) : MapIs w' b (n + 1) (l ++ [(p, c)]) :=
  ⟨ok.snoc hn hp hc, pk, F, _, h, reads_put F hD hr ok hp hn⟩
theorem threeP (w : World) (o1 o2 o3 : Obj) : (((w.alloc o1).alloc o2).alloc o3).heap[w.heap.size]? = some o1 ∧ (((w.alloc o1).alloc o2).alloc o3).heap[w.heap.size + 1]? = some o2 ∧ (((w.alloc o1).alloc o2).alloc o3).heap[w.heap.size + 2]? = some o3 := by
  have := three (w := w) (o1 := o1) (o2 := o2) (o3 := o3) (Below.refl _ _)
  exact ⟨this.1, this.2.1, this.2.2.1⟩
/-- Behind the boxes of a step, a place and a result. -/
structure LdAt (w : World) (xs ps : Array Value) (b n : Nat) (l : List Pai) (W : World) : Prop where
  bx : W.heap[w.heap.size]? = some (.cells xs 56 (0, 0))
  bp : W.heap[w.heap.size + 1]? = some (.cells ps 92 (0, 0))
  br : W.heap[w.heap.size + 2]? = some (.cells #[.int .i64 0, .int .i64 0, .int .i64 0, .int .i64 0, .int .i64 0, .int .i64 0, .string ByteArray.empty] 56 (0, 0))
  map : MapIs W b n l
  but : But b w W
  low : b < w.heap.size
theorem LdAt.next {w W W' : World} {xs ps : Array Value} {b n n' : Nat} {l l' : List Pai} (h : LdAt w xs ps b n l W) (hb : But b W W') (hm : MapIs W' b n' l') : LdAt w xs ps b n' l' W' :=
  have hl := h.low
  ⟨hb.keepB h.bx (by omega), hb.keepB h.bp (by omega), hb.keepB h.br (by omega), hm, h.but.twice hb, hl⟩
theorem LdAt.start {w : World} {xs ps : Array Value} {b n : Nat} {l : List Pai} (h : MapIs w b n l) : LdAt w xs ps b n l (((w.alloc (.cells xs 56)).alloc (.cells ps 92)).alloc (.cells #[.int .i64 0, .int .i64 0, .int .i64 0, .int .i64 0, .int .i64 0, .int .i64 0, .string ByteArray.empty] 56)) :=
  have th := threeP w (.cells xs 56) (.cells ps 92) (.cells #[.int .i64 0, .int .i64 0, .int .i64 0, .int .i64 0, .int .i64 0, .int .i64 0, .string ByteArray.empty] 56)
  have bl := below3 w (.cells xs 56) (.cells ps 92) (.cells #[.int .i64 0, .int .i64 0, .int .i64 0, .int .i64 0, .int .i64 0, .int .i64 0, .string ByteArray.empty] 56)
  ⟨th.1, th.2.1, th.2.2, h.stays bl, But.thenB bl (But.refl _ _), h.lt⟩
set_option maxRecDepth 100000 in
set_option maxHeartbeats 4000000 in
theorem load_known (l : List Pai) (x : Ins) (p : Pla) (w : World) (b n : Nat) (h : MapIs w b n l) (hp : PlaI p) (hk : 0 ≤ knowF l p) :
    Calls Tryz.prog 148 #[.map (some b), .agg (insV x), .agg (plV p)] w fun e w' => e = .returned (.agg #[.int .i64 1, .int .i64 x.d, .int .i64 (knowF l p), .int .i64 0, .int .i64 0, .int .i64 0, .string ByteArray.empty]) ∧ MapIs w' b n (dropF l x.d) ∧ But b w w' := by
  obtain ⟨op, d, a, b0, c0, nn, t⟩ := x
  obtain ⟨pr, pi, pj, po⟩ := p
  simp only [insV, plV] at *
  have ST := hideP (LdAt.start (xs := #[.int .i64 op, .int .i64 d, .int .i64 a, .int .i64 b0, .int .i64 c0, .int .i64 nn, .string t]) (ps := #[.int .i64 pr, .int .i64 pi, .int .i64 pj, .int .i64 po]) h)
  have HM := hideP h
  have hbw := h.lt
  have MA : Hid (∀ W, MapIs W b n l → Calls Tryz.prog 150 #[.map (some b), .int .i64 d] W fun e w' => e = .returned (.tuple #[]) ∧ MapIs w' b n (dropF l d) ∧ But b W w') := fun W hW => makeAnew_any l d W b n hW
  have HP := hideP hp
  obtain ⟨ok, pk, F, D, hown, hrd⟩ := ST.out.map
  have hkey := F.key hp
  simp only [plV] at hkey
  have OK := hideP ok
  have LK := look_is F ok hrd hp
  clear hrd F ok hp h
  obtain ⟨kp, hkp⟩ : ∃ kp, knowF l ⟨pr, pi, pj, po⟩ = kp := ⟨_, rfl⟩
  obtain ⟨kl, hkl⟩ : ∃ kl, pk ⟨pr, pi, pj, po⟩ = kl := ⟨_, rfl⟩
  rw [hkl] at hkey LK
  rw [hkp] at LK hk ⊢
  clear hkl
  obtain ⟨hh, hat0⟩ : Maps.has D kl = true ∧ ∀ c z, D.atKey kl z = .lit (.int .i64 c) → c = kp := by
    rcases LK with ⟨h1, _, h2⟩ | ⟨_, h1, _⟩
    · exact ⟨h1, h2⟩
    · exact absurd hk h1
  clear LK
  go_enter Tryz.func148, Tryz.ntmps148
  go_wp2_with (at_lookup; refine wpList_lookup_own_ok_int _ rfl _ _ 139 rfl 92 3 .i64 lawM Tryz.underlying139 Tryz.underlying3 (zeroM _) b n D rfl hown _ _ rfl hkey ?_; intro c hat hwc; rw [hh])
  refine (MA.out _ ST.out.map).mono ?_
  rintro e4 w4 ⟨rfl, m4, b4⟩
  have S4 := hideP (ST.out.next b4 m4)
  clear ST MA hown b4 m4
  obtain rfl := hat0 c _ hat
  clear hat hat0
  have hX := S4.out.bx
  have x0 := (cells_of hX).1 0
  have x1 := (cells_of hX).1 1
  have x2 := (cells_of hX).1 2
  have x3 := (cells_of hX).1 3
  have x4 := (cells_of hX).1 4
  have x5 := (cells_of hX).1 5
  have x6 := (cells_of hX).1 6
  simp at x0 x1 x2 x3 x4 x5 x6
  have z := S4.out.br
  have r0 := (cells_of z).1 0
  have r1 := (cells_of z).1 1
  have r2 := (cells_of z).1 2
  have r3 := (cells_of z).1 3
  have r4 := (cells_of z).1 4
  have r5 := (cells_of z).1 5
  have r6 := (cells_of z).1 6
  simp at r0 r1 r2 r3 r4 r5 r6
  have rf := (cells_of z).2
  have z0 := heap_setCell_same w4 _ 0 _ _ (.int .i64 1) z
  have z1 := heap_setCell_same _ _ 1 _ _ (.int .i64 d) z0
  have z2 := heap_setCell_same _ _ 2 _ _ (.int .i64 c) z1
  have z3 := heap_setCell_same _ _ 3 _ _ (.int .i64 0) z2
  have z4 := heap_setCell_same _ _ 4 _ _ (.int .i64 0) z3
  have z5 := heap_setCell_same _ _ 5 _ _ (.int .i64 0) z4
  have z6 : (((((((w4.setCell ⟨w.heap.size + 2, 0, none⟩ (.int .i64 1)).setCell ⟨w.heap.size + 2, 1, none⟩ (.int .i64 d)).setCell ⟨w.heap.size + 2, 2, none⟩ (.int .i64 c)).setCell ⟨w.heap.size + 2, 3, none⟩ (.int .i64 0)).setCell ⟨w.heap.size + 2, 4, none⟩ (.int .i64 0)).setCell ⟨w.heap.size + 2, 5, none⟩ (.int .i64 0)).setCell ⟨w.heap.size + 2, 6, none⟩ (.string ByteArray.empty)).heap[w.heap.size + 2]? = some (.cells #[.int .i64 1, .int .i64 d, .int .i64 c, .int .i64 0, .int .i64 0, .int .i64 0, .string ByteArray.empty] 56 (0, 0)) := heap_setCell_same _ _ 6 _ _ (.string ByteArray.empty) z5
  have ZF := hideP z6
  have BU : Hid (But (w.heap.size + 2) w4 (((((((w4.setCell ⟨w.heap.size + 2, 0, none⟩ (.int .i64 1)).setCell ⟨w.heap.size + 2, 1, none⟩ (.int .i64 d)).setCell ⟨w.heap.size + 2, 2, none⟩ (.int .i64 c)).setCell ⟨w.heap.size + 2, 3, none⟩ (.int .i64 0)).setCell ⟨w.heap.size + 2, 4, none⟩ (.int .i64 0)).setCell ⟨w.heap.size + 2, 5, none⟩ (.int .i64 0)).setCell ⟨w.heap.size + 2, 6, none⟩ (.string ByteArray.empty))) := ((((((((But.refl (w.heap.size + 2) w4).set 0 (.int .i64 1)).set 1 (.int .i64 d)).set 2 (.int .i64 c)).set 3 (.int .i64 0)).set 4 (.int .i64 0)).set 5 (.int .i64 0)).set 6 (.string ByteArray.empty))
  clear z0 z1 z2 z3 z4 z5 z6 z
  clear hX
  go_wp2
  refine bodyPost_ret (results_cell_row rfl _ _ (w.heap.size + 2) 56 #[.int .i64 1, .int .i64 d, .int .i64 c, .int .i64 0, .int .i64 0, .int .i64 0, .string ByteArray.empty] (0, 0) _ rfl ZF.out Tryz.underlying56 rfl (by kernel_rfl)) rfl ?_
  exact ⟨rfl, S4.out.map.but BU.out (by omega), upBut S4.out.but BU.out (by omega)⟩
set_option maxRecDepth 100000 in
set_option maxHeartbeats 4000000 in
theorem load_new (l : List Pai) (x : Ins) (p : Pla) (w : World) (b n : Nat) (h : MapIs w b n l) (hp : PlaI p) (hk : ¬ 0 ≤ knowF l p) (hd : 0 ≤ x.d ∧ I64 x.d) (hn : n < 1000000) :
    Calls Tryz.prog 148 #[.map (some b), .agg (insV x), .agg (plV p)] w fun e w' => e = .returned (.agg (insV x)) ∧ MapIs w' b (n + 1) (dropF l x.d ++ [(p, x.d)]) ∧ But b w w' := by
  obtain ⟨op, d, a, b0, c0, nn, t⟩ := x
  obtain ⟨pr, pi, pj, po⟩ := p
  simp only [insV, plV] at *
  have ST := hideP (LdAt.start (xs := #[.int .i64 op, .int .i64 d, .int .i64 a, .int .i64 b0, .int .i64 c0, .int .i64 nn, .string t]) (ps := #[.int .i64 pr, .int .i64 pi, .int .i64 pj, .int .i64 po]) h)
  have HM := hideP h
  have hbw := h.lt
  have MA : Hid (∀ W, MapIs W b n l → Calls Tryz.prog 150 #[.map (some b), .int .i64 d] W fun e w' => e = .returned (.tuple #[]) ∧ MapIs w' b n (dropF l d) ∧ But b W w') := fun W hW => makeAnew_any l d W b n hW
  have HP := hideP hp
  obtain ⟨ok, pk, F, D, hown, hrd⟩ := ST.out.map
  have hkey := F.key hp
  simp only [plV] at hkey
  have OK := hideP ok
  have LK := look_is F ok hrd hp
  clear hrd F ok hp h
  obtain ⟨kp, hkp⟩ : ∃ kp, knowF l ⟨pr, pi, pj, po⟩ = kp := ⟨_, rfl⟩
  obtain ⟨kl, hkl⟩ : ∃ kl, pk ⟨pr, pi, pj, po⟩ = kl := ⟨_, rfl⟩
  rw [hkl] at hkey LK
  rw [hkp] at LK hk 
  clear hkl
  obtain ⟨hh, hnn⟩ : Maps.has D kl = false ∧ ∀ q ∈ l, q.1 ≠ ⟨pr, pi, pj, po⟩ := by
    rcases LK with ⟨_, h1, _⟩ | ⟨h1, _, h2⟩
    · exact absurd h1 hk
    · exact ⟨h1, h2⟩
  have HN := hideP hnn
  clear LK hnn
  go_enter Tryz.func148, Tryz.ntmps148
  go_wp2_with (at_lookup; refine wpList_lookup_own_ok_int _ rfl _ _ 139 rfl 92 3 .i64 lawM Tryz.underlying139 Tryz.underlying3 (zeroM _) b n D rfl hown _ _ rfl hkey ?_; intro c hat hwc; rw [hh])
  refine (MA.out _ ST.out.map).mono ?_
  rintro e4 w4 ⟨rfl, m4, b4⟩
  have S4 := hideP (ST.out.next b4 m4)
  clear ST MA hown b4 m4
  obtain ⟨ok4, pk4, F4, D4, hown4, hrd4⟩ := S4.out.map
  have hkey4 := F4.key HP.out
  simp only [plV] at hkey4
  have PM : Hid (∀ W, W.ownsMap Tryz.prog 92 (plainElem Tryz.prog 3) b (n + 1) (D4.put (pk4 ⟨pr, pi, pj, po⟩) (.lit (.int .i64 d))) → MapIs W b (n + 1) (dropF l d ++ [(⟨pr, pi, pj, po⟩, d)])) := fun W hW => MapIs.put F4 ok4 hown4.isMap hrd4 HP.out hd (fun q hq => HN.out q (List.mem_filter.1 hq).1) hW
  have hX := S4.out.bx
  have hP := S4.out.bp
  have x0 := (cells_of hX).1 0
  have x1 := (cells_of hX).1 1
  have x2 := (cells_of hX).1 2
  have x3 := (cells_of hX).1 3
  have x4 := (cells_of hX).1 4
  have x5 := (cells_of hX).1 5
  have x6 := (cells_of hX).1 6
  simp at x0 x1 x2 x3 x4 x5 x6
  have p0 := (cells_of hP).1 0
  have p1 := (cells_of hP).1 1
  have p2 := (cells_of hP).1 2
  have p3 := (cells_of hP).1 3
  simp at p0 p1 p2 p3
  clear hX hP ok4 F4 hrd4 hat hwc hkey
  go_upto_region 6 with (at_mapUpdate; refine wpList_mapUpdate_in _ rfl _ _ _ 139 rfl 92 3 lawM Tryz.underlying139 _ b n _ rfl hown4 (by unfold maxLen; omega) _ _ _ rfl rfl hkey4 _ [] (plainElem_int Tryz.underlying3 (WalkArith.wf_i64 hd.2)) ?_; intro w5 hown5 hturn5)
  have S5 := hideP (S4.out.next (But.ofG hturn5.grown) (PM.out _ hown5))
  clear S4 PM hown5 hturn5 hown4 x0 x1 x2 x3 x4 x5 x6 p0 p1 p2 p3
  have hX := S5.out.bx
  have x0 := (cells_of hX).1 0
  have x1 := (cells_of hX).1 1
  have x2 := (cells_of hX).1 2
  have x3 := (cells_of hX).1 3
  have x4 := (cells_of hX).1 4
  have x5 := (cells_of hX).1 5
  have x6 := (cells_of hX).1 6
  simp at x0 x1 x2 x3 x4 x5 x6
  have z := S5.out.br
  have r0 := (cells_of z).1 0
  have r1 := (cells_of z).1 1
  have r2 := (cells_of z).1 2
  have r3 := (cells_of z).1 3
  have r4 := (cells_of z).1 4
  have r5 := (cells_of z).1 5
  have r6 := (cells_of z).1 6
  simp at r0 r1 r2 r3 r4 r5 r6
  have rf := (cells_of z).2
  have z0 := heap_setCell_same w5 _ 0 _ _ (.int .i64 op) z
  have z1 := heap_setCell_same _ _ 1 _ _ (.int .i64 d) z0
  have z2 := heap_setCell_same _ _ 2 _ _ (.int .i64 a) z1
  have z3 := heap_setCell_same _ _ 3 _ _ (.int .i64 b0) z2
  have z4 := heap_setCell_same _ _ 4 _ _ (.int .i64 c0) z3
  have z5 := heap_setCell_same _ _ 5 _ _ (.int .i64 nn) z4
  have z6 : (((((((w5.setCell ⟨w.heap.size + 2, 0, none⟩ (.int .i64 op)).setCell ⟨w.heap.size + 2, 1, none⟩ (.int .i64 d)).setCell ⟨w.heap.size + 2, 2, none⟩ (.int .i64 a)).setCell ⟨w.heap.size + 2, 3, none⟩ (.int .i64 b0)).setCell ⟨w.heap.size + 2, 4, none⟩ (.int .i64 c0)).setCell ⟨w.heap.size + 2, 5, none⟩ (.int .i64 nn)).setCell ⟨w.heap.size + 2, 6, none⟩ (.string t)).heap[w.heap.size + 2]? = some (.cells #[.int .i64 op, .int .i64 d, .int .i64 a, .int .i64 b0, .int .i64 c0, .int .i64 nn, .string t] 56 (0, 0)) := heap_setCell_same _ _ 6 _ _ (.string t) z5
  have ZF := hideP z6
  have BU : Hid (But (w.heap.size + 2) w5 (((((((w5.setCell ⟨w.heap.size + 2, 0, none⟩ (.int .i64 op)).setCell ⟨w.heap.size + 2, 1, none⟩ (.int .i64 d)).setCell ⟨w.heap.size + 2, 2, none⟩ (.int .i64 a)).setCell ⟨w.heap.size + 2, 3, none⟩ (.int .i64 b0)).setCell ⟨w.heap.size + 2, 4, none⟩ (.int .i64 c0)).setCell ⟨w.heap.size + 2, 5, none⟩ (.int .i64 nn)).setCell ⟨w.heap.size + 2, 6, none⟩ (.string t))) := ((((((((But.refl (w.heap.size + 2) w5).set 0 (.int .i64 op)).set 1 (.int .i64 d)).set 2 (.int .i64 a)).set 3 (.int .i64 b0)).set 4 (.int .i64 c0)).set 5 (.int .i64 nn)).set 6 (.string t))
  clear z0 z1 z2 z3 z4 z5 z6 z
  clear hX
  go_wp2
  refine bodyPost_ret (results_cell_row rfl _ _ (w.heap.size + 2) 56 #[.int .i64 op, .int .i64 d, .int .i64 a, .int .i64 b0, .int .i64 c0, .int .i64 nn, .string t] (0, 0) _ rfl ZF.out Tryz.underlying56 rfl (by kernel_rfl)) rfl ?_
  exact ⟨rfl, S5.out.map.but BU.out (by omega), upBut S5.out.but BU.out (by omega)⟩
theorem load_any (l : List Pai) (x : Ins) (p : Pla) (w : World) (b n : Nat) (h : MapIs w b n l) (hx : x.op = 3) (hp : PlaI p) (hd : 0 ≤ x.d ∧ I64 x.d) (hn : n < 1000000) :
    Calls Tryz.prog 148 #[.map (some b), .agg (insV x), .agg (plV p)] w fun e w' => e = .returned (.agg (insV (stepF l x p).2)) ∧ MapIs w' b (n + 1) (stepF l x p).1 ∧ But b w w' := by
  have h4 : ¬ x.op = 4 := by omega
  by_cases hk : 0 ≤ knowF l p
  · refine (load_known l x p w b n h hp hk).mono ?_
    rintro e w' ⟨rfl, hm, hb⟩
    simp only [stepF, if_neg h4, if_pos hx, if_pos hk]
    exact ⟨rfl, hm.up (Nat.le_succ _), hb⟩
  · refine (load_new l x p w b n h hp hk hd hn).mono ?_
    rintro e w' ⟨rfl, hm, hb⟩
    simp only [stepF, if_neg h4, if_pos hx, if_neg hk]
    exact ⟨trivial, hm, hb⟩
set_option maxRecDepth 100000 in
set_option maxHeartbeats 4000000 in
theorem pstep_load (l : List Pai) (x : Ins) (p : Pla) (w : World) (b n : Nat) (h : MapIs w b n l) (hp : StOk x p) (hn : n < 1000000) (hx : x.op = 3) :
    Calls Tryz.prog 115 #[.map (some b), .agg (insV x), .agg (plV p)] w fun e w' => e = .returned (.agg (insV (stepF l x p).2)) ∧ MapIs w' b (n + 1) (stepF l x p).1 ∧ But b w w' := by
  obtain ⟨op, d, a, b0, c0, nn, t⟩ := x
  obtain ⟨pr, pi, pj, po⟩ := p
  simp only [insV, plV] at *
  have ST := hideP (LdAt.start (xs := #[.int .i64 op, .int .i64 d, .int .i64 a, .int .i64 b0, .int .i64 c0, .int .i64 nn, .string t]) (ps := #[.int .i64 pr, .int .i64 pi, .int .i64 pj, .int .i64 po]) h)
  have hbw := h.lt
  obtain ⟨Y, hY⟩ : ∃ Y, (stepF l ⟨op, d, a, b0, c0, nn, t⟩ ⟨pr, pi, pj, po⟩).2 = Y := ⟨_, rfl⟩
  obtain ⟨L', hL⟩ : ∃ L', (stepF l ⟨op, d, a, b0, c0, nn, t⟩ ⟨pr, pi, pj, po⟩).1 = L' := ⟨_, rfl⟩
  rw [hY, hL]
  have LD : Hid (∀ W, MapIs W b n l → Calls Tryz.prog 148 #[.map (some b), .agg #[.int .i64 op, .int .i64 d, .int .i64 a, .int .i64 b0, .int .i64 c0, .int .i64 nn, .string t], .agg #[.int .i64 pr, .int .i64 pi, .int .i64 pj, .int .i64 po]] W fun e w' => e = .returned (.agg (insV Y)) ∧ MapIs w' b (n + 1) L' ∧ But b W w') := fun W hW => by
    rw [← hY, ← hL]
    exact load_any l ⟨op, d, a, b0, c0, nn, t⟩ ⟨pr, pi, pj, po⟩ W b n hW hx hp.1 ⟨hp.2.2.2.1 hx, hp.2.1.2.1⟩ hn
  obtain ⟨y0, y1, y2, y3, y4, y5, yt⟩ := Y
  simp only [insV] at LD
  clear hY hL hp h
  subst hx
  go_enter Tryz.func115, Tryz.ntmps115
  go_wp2_with fail
  refine (LD.out _ ST.out.map).mono ?_
  rintro e4 w4 ⟨rfl, m4, b4⟩
  have S4 := hideP (ST.out.next b4 m4)
  clear ST LD b4 m4
  have z := S4.out.br
  have r0 := (cells_of z).1 0
  have r1 := (cells_of z).1 1
  have r2 := (cells_of z).1 2
  have r3 := (cells_of z).1 3
  have r4 := (cells_of z).1 4
  have r5 := (cells_of z).1 5
  have r6 := (cells_of z).1 6
  simp at r0 r1 r2 r3 r4 r5 r6
  have rf := (cells_of z).2
  have z0 := heap_setCell_same w4 _ 0 _ _ (.int .i64 y0) z
  have z1 := heap_setCell_same _ _ 1 _ _ (.int .i64 y1) z0
  have z2 := heap_setCell_same _ _ 2 _ _ (.int .i64 y2) z1
  have z3 := heap_setCell_same _ _ 3 _ _ (.int .i64 y3) z2
  have z4 := heap_setCell_same _ _ 4 _ _ (.int .i64 y4) z3
  have z5 := heap_setCell_same _ _ 5 _ _ (.int .i64 y5) z4
  have z6 : (((((((w4.setCell ⟨w.heap.size + 2, 0, none⟩ (.int .i64 y0)).setCell ⟨w.heap.size + 2, 1, none⟩ (.int .i64 y1)).setCell ⟨w.heap.size + 2, 2, none⟩ (.int .i64 y2)).setCell ⟨w.heap.size + 2, 3, none⟩ (.int .i64 y3)).setCell ⟨w.heap.size + 2, 4, none⟩ (.int .i64 y4)).setCell ⟨w.heap.size + 2, 5, none⟩ (.int .i64 y5)).setCell ⟨w.heap.size + 2, 6, none⟩ (.string yt)).heap[w.heap.size + 2]? = some (.cells #[.int .i64 y0, .int .i64 y1, .int .i64 y2, .int .i64 y3, .int .i64 y4, .int .i64 y5, .string yt] 56 (0, 0)) := heap_setCell_same _ _ 6 _ _ (.string yt) z5
  have ZF := hideP z6
  have BU : Hid (But (w.heap.size + 2) w4 (((((((w4.setCell ⟨w.heap.size + 2, 0, none⟩ (.int .i64 y0)).setCell ⟨w.heap.size + 2, 1, none⟩ (.int .i64 y1)).setCell ⟨w.heap.size + 2, 2, none⟩ (.int .i64 y2)).setCell ⟨w.heap.size + 2, 3, none⟩ (.int .i64 y3)).setCell ⟨w.heap.size + 2, 4, none⟩ (.int .i64 y4)).setCell ⟨w.heap.size + 2, 5, none⟩ (.int .i64 y5)).setCell ⟨w.heap.size + 2, 6, none⟩ (.string yt))) := ((((((((But.refl (w.heap.size + 2) w4).set 0 (.int .i64 y0)).set 1 (.int .i64 y1)).set 2 (.int .i64 y2)).set 3 (.int .i64 y3)).set 4 (.int .i64 y4)).set 5 (.int .i64 y5)).set 6 (.string yt))
  clear z0 z1 z2 z3 z4 z5 z6 z
  go_wp2
  refine bodyPost_ret (results_cell_row rfl _ _ (w.heap.size + 2) 56 #[.int .i64 y0, .int .i64 y1, .int .i64 y2, .int .i64 y3, .int .i64 y4, .int .i64 y5, .string yt] (0, 0) _ rfl ZF.out Tryz.underlying56 rfl (by kernel_rfl)) rfl ?_
  exact ⟨rfl, S4.out.map.but BU.out (by omega), upBut S4.out.but BU.out (by omega)⟩
set_option maxRecDepth 100000 in
set_option maxHeartbeats 4000000 in
theorem pstep_store (l : List Pai) (x : Ins) (p : Pla) (w : World) (b n : Nat) (h : MapIs w b n l) (hp : StOk x p) (hn : n < 1000000) (hx : x.op = 4) :
    Calls Tryz.prog 115 #[.map (some b), .agg (insV x), .agg (plV p)] w fun e w' => e = .returned (.agg (insV (stepF l x p).2)) ∧ MapIs w' b (n + 1) (stepF l x p).1 ∧ But b w w' := by
  obtain ⟨op, d, a, b0, c0, nn, t⟩ := x
  obtain ⟨pr, pi, pj, po⟩ := p
  simp only [insV, plV] at *
  have ST := hideP (LdAt.start (xs := #[.int .i64 op, .int .i64 d, .int .i64 a, .int .i64 b0, .int .i64 c0, .int .i64 nn, .string t]) (ps := #[.int .i64 pr, .int .i64 pi, .int .i64 pj, .int .i64 po]) h)
  have hbw := h.lt
  obtain ⟨Y, hY⟩ : ∃ Y, (stepF l ⟨op, d, a, b0, c0, nn, t⟩ ⟨pr, pi, pj, po⟩).2 = Y := ⟨_, rfl⟩
  obtain ⟨L', hL⟩ : ∃ L', (stepF l ⟨op, d, a, b0, c0, nn, t⟩ ⟨pr, pi, pj, po⟩).1 = L' := ⟨_, rfl⟩
  rw [hY, hL]
  have EY : Y = ⟨op, d, a, b0, c0, nn, t⟩ := by rw [← hY]; simp [stepF, hx]
  have EL : L' = overF l ⟨pr, pi, pj, po⟩ ++ [(⟨pr, pi, pj, po⟩, c0)] := by rw [← hL]; simp [stepF, hx]
  subst EY EL
  have HP := hideP hp.1
  have hc : 0 ≤ c0 ∧ I64 c0 := ⟨hp.2.2.2.2 hx, hp.2.1.2.2.2.2.1⟩
  have SO : Hid (∀ W, MapIs W b n l → Calls Tryz.prog 149 #[.map (some b), .agg #[.int .i64 pr, .int .i64 pi, .int .i64 pj, .int .i64 po]] W fun e w' => e = .returned (.tuple #[]) ∧ MapIs w' b n (overF l ⟨pr, pi, pj, po⟩) ∧ But b W w') := fun W hW => storeOver_any l ⟨pr, pi, pj, po⟩ W b n hW
  clear hY hL hp h
  subst hx
  go_enter Tryz.func115, Tryz.ntmps115
  go_wp2_with fail
  refine (SO.out _ ST.out.map).mono ?_
  rintro e4 w4 ⟨rfl, m4, b4⟩
  have S4 := hideP (ST.out.next b4 m4)
  clear ST SO b4 m4
  obtain ⟨ok4, pk4, F4, D4, hown4, hrd4⟩ := S4.out.map
  have hkey4 := F4.key HP.out
  simp only [plV] at hkey4
  have PM : Hid (∀ W, W.ownsMap Tryz.prog 92 (plainElem Tryz.prog 3) b (n + 1) (D4.put (pk4 ⟨pr, pi, pj, po⟩) (.lit (.int .i64 c0))) → MapIs W b (n + 1) (overF l ⟨pr, pi, pj, po⟩ ++ [(⟨pr, pi, pj, po⟩, c0)])) := fun W hW => MapIs.put F4 ok4 hown4.isMap hrd4 HP.out hc over_ne hW
  have hX := S4.out.bx
  have hP := S4.out.bp
  have x0 := (cells_of hX).1 0
  have x1 := (cells_of hX).1 1
  have x2 := (cells_of hX).1 2
  have x3 := (cells_of hX).1 3
  have x4 := (cells_of hX).1 4
  have x5 := (cells_of hX).1 5
  have x6 := (cells_of hX).1 6
  simp at x0 x1 x2 x3 x4 x5 x6
  have p0 := (cells_of hP).1 0
  have p1 := (cells_of hP).1 1
  have p2 := (cells_of hP).1 2
  have p3 := (cells_of hP).1 3
  simp at p0 p1 p2 p3
  clear hX hP ok4 F4 hrd4
  go_upto_region 8 with (at_mapUpdate; refine wpList_mapUpdate_in _ rfl _ _ _ 139 rfl 92 3 lawM Tryz.underlying139 _ b n _ rfl hown4 (by unfold maxLen; omega) _ _ _ rfl rfl hkey4 _ [] (plainElem_int Tryz.underlying3 (WalkArith.wf_i64 hc.2)) ?_; intro w5 hown5 hturn5)
  have S5 := hideP (S4.out.next (But.ofG hturn5.grown) (PM.out _ hown5))
  clear S4 PM hown5 hturn5 hown4 x0 x1 x2 x3 x4 x5 x6 p0 p1 p2 p3
  have hX := S5.out.bx
  have x0 := (cells_of hX).1 0
  have x1 := (cells_of hX).1 1
  have x2 := (cells_of hX).1 2
  have x3 := (cells_of hX).1 3
  have x4 := (cells_of hX).1 4
  have x5 := (cells_of hX).1 5
  have x6 := (cells_of hX).1 6
  simp at x0 x1 x2 x3 x4 x5 x6
  clear hX
  have z := S5.out.br
  have r0 := (cells_of z).1 0
  have r1 := (cells_of z).1 1
  have r2 := (cells_of z).1 2
  have r3 := (cells_of z).1 3
  have r4 := (cells_of z).1 4
  have r5 := (cells_of z).1 5
  have r6 := (cells_of z).1 6
  simp at r0 r1 r2 r3 r4 r5 r6
  have rf := (cells_of z).2
  have z0 := heap_setCell_same w5 _ 0 _ _ (.int .i64 4) z
  have z1 := heap_setCell_same _ _ 1 _ _ (.int .i64 d) z0
  have z2 := heap_setCell_same _ _ 2 _ _ (.int .i64 a) z1
  have z3 := heap_setCell_same _ _ 3 _ _ (.int .i64 b0) z2
  have z4 := heap_setCell_same _ _ 4 _ _ (.int .i64 c0) z3
  have z5 := heap_setCell_same _ _ 5 _ _ (.int .i64 nn) z4
  have z6 : (((((((w5.setCell ⟨w.heap.size + 2, 0, none⟩ (.int .i64 4)).setCell ⟨w.heap.size + 2, 1, none⟩ (.int .i64 d)).setCell ⟨w.heap.size + 2, 2, none⟩ (.int .i64 a)).setCell ⟨w.heap.size + 2, 3, none⟩ (.int .i64 b0)).setCell ⟨w.heap.size + 2, 4, none⟩ (.int .i64 c0)).setCell ⟨w.heap.size + 2, 5, none⟩ (.int .i64 nn)).setCell ⟨w.heap.size + 2, 6, none⟩ (.string t)).heap[w.heap.size + 2]? = some (.cells #[.int .i64 4, .int .i64 d, .int .i64 a, .int .i64 b0, .int .i64 c0, .int .i64 nn, .string t] 56 (0, 0)) := heap_setCell_same _ _ 6 _ _ (.string t) z5
  have ZF := hideP z6
  have BU : Hid (But (w.heap.size + 2) w5 (((((((w5.setCell ⟨w.heap.size + 2, 0, none⟩ (.int .i64 4)).setCell ⟨w.heap.size + 2, 1, none⟩ (.int .i64 d)).setCell ⟨w.heap.size + 2, 2, none⟩ (.int .i64 a)).setCell ⟨w.heap.size + 2, 3, none⟩ (.int .i64 b0)).setCell ⟨w.heap.size + 2, 4, none⟩ (.int .i64 c0)).setCell ⟨w.heap.size + 2, 5, none⟩ (.int .i64 nn)).setCell ⟨w.heap.size + 2, 6, none⟩ (.string t))) := ((((((((But.refl (w.heap.size + 2) w5).set 0 (.int .i64 4)).set 1 (.int .i64 d)).set 2 (.int .i64 a)).set 3 (.int .i64 b0)).set 4 (.int .i64 c0)).set 5 (.int .i64 nn)).set 6 (.string t))
  clear z0 z1 z2 z3 z4 z5 z6 z
  go_wp2
  refine bodyPost_ret (results_cell_row rfl _ _ (w.heap.size + 2) 56 #[.int .i64 4, .int .i64 d, .int .i64 a, .int .i64 b0, .int .i64 c0, .int .i64 nn, .string t] (0, 0) _ rfl ZF.out Tryz.underlying56 rfl (by kernel_rfl)) rfl ?_
  exact ⟨rfl, S5.out.map.but BU.out (by omega), upBut S5.out.but BU.out (by omega)⟩
set_option maxRecDepth 100000 in
set_option maxHeartbeats 4000000 in
theorem pstep_else (l : List Pai) (x : Ins) (p : Pla) (w : World) (b n : Nat) (h : MapIs w b n l) (hp : StOk x p) (_ : n < 1000000) (hx3 : ¬ x.op = 3) (hx4 : ¬ x.op = 4) :
    Calls Tryz.prog 115 #[.map (some b), .agg (insV x), .agg (plV p)] w fun e w' => e = .returned (.agg (insV (stepF l x p).2)) ∧ MapIs w' b (n + 1) (stepF l x p).1 ∧ But b w w' := by
  obtain ⟨op, d, a, b0, c0, nn, t⟩ := x
  obtain ⟨pr, pi, pj, po⟩ := p
  simp only [insV, plV] at *
  have ST := hideP (LdAt.start (xs := #[.int .i64 op, .int .i64 d, .int .i64 a, .int .i64 b0, .int .i64 c0, .int .i64 nn, .string t]) (ps := #[.int .i64 pr, .int .i64 pi, .int .i64 pj, .int .i64 po]) h)
  have hbw := h.lt
  obtain ⟨Y, hY⟩ : ∃ Y, (stepF l ⟨op, d, a, b0, c0, nn, t⟩ ⟨pr, pi, pj, po⟩).2 = Y := ⟨_, rfl⟩
  obtain ⟨L', hL⟩ : ∃ L', (stepF l ⟨op, d, a, b0, c0, nn, t⟩ ⟨pr, pi, pj, po⟩).1 = L' := ⟨_, rfl⟩
  rw [hY, hL]
  have EY : Y = ⟨op, d, a, b0, c0, nn, t⟩ := by rw [← hY]; unfold stepF; rw [if_neg hx4, if_neg hx3]; split <;> rfl
  have EL : L' = dropF l (makesP ⟨op, d, a, b0, c0, nn, t⟩) := by
    rw [← hL]; unfold stepF; rw [if_neg hx4, if_neg hx3]; unfold makesP
    split
    · rename_i h6
      rw [if_pos (Or.inr h6), drop_noslot h.1 (by omega)]
    · rename_i h6
      rw [if_neg (fun h => h.elim hx4 h6)]
  subst EY EL
  have MK : Hid (∀ W, Calls Tryz.prog 106 #[.agg #[.int .i64 op, .int .i64 d, .int .i64 a, .int .i64 b0, .int .i64 c0, .int .i64 nn, .string t]] W fun e w' => e = .returned (.int .i64 (makesP ⟨op, d, a, b0, c0, nn, t⟩)) ∧ Below W.heap.size W w') := fun W => impl_makes _ W 0 _ ⟨rfl, hp.2.1, hp.2.2.1⟩
  obtain ⟨mk, hmk⟩ : ∃ mk, makesP ⟨op, d, a, b0, c0, nn, t⟩ = mk := ⟨_, rfl⟩
  rw [hmk] at MK ⊢
  have MA : Hid (∀ W, MapIs W b n l → Calls Tryz.prog 150 #[.map (some b), .int .i64 mk] W fun e w' => e = .returned (.tuple #[]) ∧ MapIs w' b n (dropF l mk) ∧ But b W w') := fun W hW => makeAnew_any l mk W b n hW
  clear hY hL hp h hmk
  have hx3b : (op == 3) = false := by simpa using hx3
  have hx4b : (op == 4) = false := by simpa using hx4
  go_enter Tryz.func115, Tryz.ntmps115
  go_wp2_with fail
  refine (MK.out _).mono ?_
  rintro e3 w3 ⟨rfl, bel3⟩
  have S3 := hideP (ST.out.next (But.ofBelowP bel3) (ST.out.map.stays bel3))
  clear ST MK bel3
  go_wp2_with fail
  refine (MA.out _ S3.out.map).mono ?_
  rintro e4 w4 ⟨rfl, m4, b4⟩
  have S4 := hideP (S3.out.next b4 (m4.up (Nat.le_succ _)))
  clear S3 MA b4 m4
  have hX := S4.out.bx
  have x0 := (cells_of hX).1 0
  have x1 := (cells_of hX).1 1
  have x2 := (cells_of hX).1 2
  have x3 := (cells_of hX).1 3
  have x4 := (cells_of hX).1 4
  have x5 := (cells_of hX).1 5
  have x6 := (cells_of hX).1 6
  simp at x0 x1 x2 x3 x4 x5 x6
  clear hX
  have z := S4.out.br
  have r0 := (cells_of z).1 0
  have r1 := (cells_of z).1 1
  have r2 := (cells_of z).1 2
  have r3 := (cells_of z).1 3
  have r4 := (cells_of z).1 4
  have r5 := (cells_of z).1 5
  have r6 := (cells_of z).1 6
  simp at r0 r1 r2 r3 r4 r5 r6
  have rf := (cells_of z).2
  have z0 := heap_setCell_same w4 _ 0 _ _ (.int .i64 op) z
  have z1 := heap_setCell_same _ _ 1 _ _ (.int .i64 d) z0
  have z2 := heap_setCell_same _ _ 2 _ _ (.int .i64 a) z1
  have z3 := heap_setCell_same _ _ 3 _ _ (.int .i64 b0) z2
  have z4 := heap_setCell_same _ _ 4 _ _ (.int .i64 c0) z3
  have z5 := heap_setCell_same _ _ 5 _ _ (.int .i64 nn) z4
  have z6 : (((((((w4.setCell ⟨w.heap.size + 2, 0, none⟩ (.int .i64 op)).setCell ⟨w.heap.size + 2, 1, none⟩ (.int .i64 d)).setCell ⟨w.heap.size + 2, 2, none⟩ (.int .i64 a)).setCell ⟨w.heap.size + 2, 3, none⟩ (.int .i64 b0)).setCell ⟨w.heap.size + 2, 4, none⟩ (.int .i64 c0)).setCell ⟨w.heap.size + 2, 5, none⟩ (.int .i64 nn)).setCell ⟨w.heap.size + 2, 6, none⟩ (.string t)).heap[w.heap.size + 2]? = some (.cells #[.int .i64 op, .int .i64 d, .int .i64 a, .int .i64 b0, .int .i64 c0, .int .i64 nn, .string t] 56 (0, 0)) := heap_setCell_same _ _ 6 _ _ (.string t) z5
  have ZF := hideP z6
  have BU : Hid (But (w.heap.size + 2) w4 (((((((w4.setCell ⟨w.heap.size + 2, 0, none⟩ (.int .i64 op)).setCell ⟨w.heap.size + 2, 1, none⟩ (.int .i64 d)).setCell ⟨w.heap.size + 2, 2, none⟩ (.int .i64 a)).setCell ⟨w.heap.size + 2, 3, none⟩ (.int .i64 b0)).setCell ⟨w.heap.size + 2, 4, none⟩ (.int .i64 c0)).setCell ⟨w.heap.size + 2, 5, none⟩ (.int .i64 nn)).setCell ⟨w.heap.size + 2, 6, none⟩ (.string t))) := ((((((((But.refl (w.heap.size + 2) w4).set 0 (.int .i64 op)).set 1 (.int .i64 d)).set 2 (.int .i64 a)).set 3 (.int .i64 b0)).set 4 (.int .i64 c0)).set 5 (.int .i64 nn)).set 6 (.string t))
  clear z0 z1 z2 z3 z4 z5 z6 z
  go_wp2
  refine bodyPost_ret (results_cell_row rfl _ _ (w.heap.size + 2) 56 #[.int .i64 op, .int .i64 d, .int .i64 a, .int .i64 b0, .int .i64 c0, .int .i64 nn, .string t] (0, 0) _ rfl ZF.out Tryz.underlying56 rfl (by kernel_rfl)) rfl ?_
  exact ⟨rfl, S4.out.map.but BU.out (by omega), upBut S4.out.but BU.out (by omega)⟩
theorem pstep_any (l : List Pai) (x : Ins) (p : Pla) (w : World) (b n : Nat) (h : MapIs w b n l) (hp : StOk x p) (hn : n < 1000000) :
    Calls Tryz.prog 115 #[.map (some b), .agg (insV x), .agg (plV p)] w fun e w' => e = .returned (.agg (insV (stepF l x p).2)) ∧ MapIs w' b (n + 1) (stepF l x p).1 ∧ But b w w' := by
  by_cases h3 : x.op = 3
  · exact pstep_load l x p w b n h hp hn h3
  · by_cases h4 : x.op = 4
    · exact pstep_store l x p w b n h hp hn h4
    · exact pstep_else l x p w b n h hp hn h3 h4
end Go.Proofs.YtelkpikbjfkpcaaGreat

/- The contract of impl.forwardCode. -/
namespace Go.Proofs.YtelkpikbjfkpcaaGreat
open Go.ChangeShapes Go.WideShapes Go.ChangeAt Go.RowKit Go.Maps
/-- How far it has come. -/
def midF (code : List Ins) (ps : List Pla) (j : Nat) : List Ins := (fwdUp code ps j).2 ++ code.drop j
theorem midF_len {code : List Ins} {ps : List Pla} (hp : ps.length = code.length) {j : Nat} (hj : j ≤ code.length) : (midF code ps j).length = code.length := by
  rw [midF, List.length_append, fwdUp_len hp j hj, List.length_drop]; omega
theorem midF_at {code : List Ins} {ps : List Pla} (hp : ps.length = code.length) {j : Nat} (hj : j < code.length) : (midF code ps j)[j]! = code[j] := by
  have hl := fwdUp_len hp j (by omega)
  rw [getElem!_pos _ j (by rw [midF_len hp (by omega)]; exact hj)]
  simp only [midF]
  rw [List.getElem_append_right (by omega)]
  simp [hl]
theorem midF_next {code : List Ins} {ps : List Pla} (hp : ps.length = code.length) {j : Nat} (hj : j < code.length) (k : Nat) (hk : k < code.length) :
    (midF code ps (j + 1))[k]! = if k = j then (stepF (fwdUp code ps j).1 code[j] (ps[j]'(by omega))).2 else (midF code ps j)[k]! := by
  have hl := fwdUp_len hp j (by omega)
  have hl1 := fwdUp_len hp (j + 1) (by omega)
  rw [getElem!_pos _ k (by rw [midF_len hp (by omega)]; exact hk)]
  split
  · rename_i e
    subst e
    simp only [midF]
    rw [List.getElem_append_left (by omega)]
    simp only [fwdUp_at hj (show k < ps.length by omega)]
    rw [List.getElem_append_right (by omega)]
    simp [hl]
  · rename_i e
    rw [getElem!_pos _ k (by rw [midF_len hp (by omega)]; exact hk)]
    simp only [midF]
    by_cases hkj : k < j
    · rw [List.getElem_append_left (by omega), List.getElem_append_left (by omega)]
      simp only [fwdUp_at hj (show j < ps.length by omega)]
      rw [List.getElem_append_left (by omega)]
    · rw [List.getElem_append_right (by omega), List.getElem_append_right (by omega)]
      simp only [List.getElem_drop]
      congr 1
      omega
/-- All but two blocks are as they were. -/
def KpQ (wb : World) (m g : Nat) (W : World) : Prop := ∀ k, k < wb.heap.size → k ≠ m → k ≠ g → W.heap[k]? = wb.heap[k]?
theorem KpQ.of {wb W : World} {m g : Nat} (h : But m wb W) : KpQ wb m g W := fun k hk hm _ => h.block k hk hm
theorem KpQ.on {wb W W' : World} {m g : Nat} (h : But m wb W) (hb : But g W W') : KpQ wb m g W' := fun k hk hm hg => (hb.block k (by have := h.size; omega) hg).trans (h.block k hk hm)
theorem KpQ.drew (wb : World) (m g : Nat) : KpQ wb m g wb.drew := fun _ _ _ _ => rfl
/-- Between two rounds. -/
structure FcAt (w : World) (g o gp kp : Nat) (code : List Ins) (ps : List Pla) (j : Nat) (W : World) : Prop where
  row : RowF W g o code.length (fun k r => insF ((midF code ps j)[k]!) r)
  map : MapIs W w.heap.size j (fwdUp code ps j).1
  pl : OwnE PlE W 0 (.slice (some ⟨gp, 0, none⟩) ps.length kp) ps
  but : But g w W
  low : g < w.heap.size
  lowp : gp < w.heap.size
  ne : gp ≠ g
theorem FcAt.boxed {w W : World} {g o gp kp : Nat} {code : List Ins} {ps : List Pla} {j : Nat} (h : FcAt w g o gp kp code ps j W) (ob : Obj) : FcAt w g o gp kp code ps j (W.alloc ob) :=
  have al := (Below.refl W.heap.size W).alloc (Nat.le_refl _) ob
  ⟨h.row.keep (al.block _ h.row.lt), h.map.stays al, h.pl.stays al, h.but.on al, h.low, h.lowp, h.ne⟩
/-- What is known behind the call of a round. -/
structure FcCall (w : World) (g o gp kp : Nat) (code : List Ins) (ps : List Pla) (j : Nat) (L2 : List Pai) (wb w5 : World) : Prop where
  but : But w.heap.size wb w5
  map : MapIs w5 w.heap.size (j + 1) L2
  row : RowF w5 g o code.length (fun k r => insF ((midF code ps j)[k]!) r)
  k5 : KpQ wb w.heap.size g w5
  k6 : ∀ v0 v1 v2 v3 v4 v5 v6, KpQ wb w.heap.size g (((((((w5.setCell ⟨g, o + j * 7, none⟩ v0).setCell ⟨g, o + j * 7 + 1, none⟩ v1).setCell ⟨g, o + j * 7 + 2, none⟩ v2).setCell ⟨g, o + j * 7 + 3, none⟩ v3).setCell ⟨g, o + j * 7 + 4, none⟩ v4).setCell ⟨g, o + j * 7 + 5, none⟩ v5).setCell ⟨g, o + j * 7 + 6, none⟩ v6)
theorem fc_call {w wb w5 : World} {g o gp kp : Nat} {code : List Ins} {ps : List Pla} {j : Nat} {L2 : List Pai} (h : FcAt w g o gp kp code ps j wb) (m5 : MapIs w5 w.heap.size (j + 1) L2) (b5 : But w.heap.size wb.drew w5) : FcCall w g o gp kp code ps j L2 wb w5 :=
  have b : But w.heap.size wb w5 := ⟨b5.os, b5.tape, b5.output, b5.size, b5.block⟩
  ⟨b, m5, h.row.keep (b.block g h.row.lt (by have := h.low; omega)), KpQ.of b, fun _ _ _ _ _ _ _ => KpQ.on b (set7 _ _ _ _ _ _ _ _ _ _ _)⟩
theorem fc_next {w wb w5 : World} {g o gp kp : Nat} {code : List Ins} {ps : List Pla} {j : Nat} {L2 : List Pai} (h : FcAt w g o gp kp code ps j wb) (c : FcCall w g o gp kp code ps j L2 wb w5) (hj : j < code.length) (y : Ins) (up : (fwdUp code ps (j + 1)).1 = L2) (mn : ∀ k, k < code.length → (midF code ps (j + 1))[k]! = if k = j then y else (midF code ps j)[k]!) :
    FcAt w g o gp kp code ps (j + 1) (((((((w5.setCell ⟨g, o + j * 7, none⟩ (.int .i64 y.op)).setCell ⟨g, o + j * 7 + 1, none⟩ (.int .i64 y.d)).setCell ⟨g, o + j * 7 + 2, none⟩ (.int .i64 y.a)).setCell ⟨g, o + j * 7 + 3, none⟩ (.int .i64 y.b)).setCell ⟨g, o + j * 7 + 4, none⟩ (.int .i64 y.c)).setCell ⟨g, o + j * 7 + 5, none⟩ (.int .i64 y.n)).setCell ⟨g, o + j * 7 + 6, none⟩ (.string y.t)) := by
  have hb := set7 w5 g o j (.int .i64 y.op) (.int .i64 y.d) (.int .i64 y.a) (.int .i64 y.b) (.int .i64 y.c) (.int .i64 y.n) (.string y.t)
  have hlow := h.low
  have hlowp := h.lowp
  have hne := h.ne
  have h1 := c.row.put hj y
  refine ⟨h1.congr (fun k hk r hr => ?_), ?_, ?_, (upBut h.but c.but (Nat.le_refl _)).twice hb, hlow, hlowp, hne⟩
  · rw [mn k hk]
    split <;> rfl
  · rw [up]; exact c.map.but hb (by omega)
  · refine (h.pl.blk (fun k hk hkl => c.but.block k hkl ?_)).blk (fun k hk hkl => hb.block k hkl ?_)
    · have : gp = k := by simpa [Value.ownBlock] using hk
      omega
    · have : gp = k := by simpa [Value.ownBlock] using hk
      omega
set_option maxRecDepth 100000 in
set_option maxHeartbeats 4000000 in
theorem forwardCode_any (code : List Ins) (ps : List Pla) (w : World) (g o cap gp kp : Nat) (hne : gp ≠ g) (hc : CodeF w g o code) (hp : ps.length = code.length) (hst : ∀ j (h1 : j < code.length) (h2 : j < ps.length), StOk code[j] ps[j]) (hl : code.length ≤ 1000) (hpl : OwnE PlE w 0 (.slice (some ⟨gp, 0, none⟩) ps.length kp) ps) :
    Calls Tryz.prog 63 #[.slice (some ⟨g, o, none⟩) code.length cap, .slice (some ⟨gp, 0, none⟩) ps.length kp] w fun en w' => en = .returned (.tuple #[]) ∧ CodeF w' g o (fwdUp code ps code.length).2 ∧ But g w w' := by
  have HST := hideP hst
  have HPL := hideP hp
  have hgl := hc.lt
  have hgpl := (hpl.low gp rfl).2
  have S0 : Hid (FcAt w g o gp kp code ps 0 (w.alloc (.map #[] 0))) := by
    have al := (Below.refl w.heap.size w).alloc (Nat.le_refl _) (.map #[] 0)
    refine ⟨?_, MapIs.made w, hpl.stays al, (But.refl g w).on al, hgl, hgpl, hne⟩
    exact RowF.keep hc (al.block _ hgl)
  have hmm := @run_makeMap Tryz.prog
  obtain ⟨N, hN⟩ : ∃ N, code.length = N := ⟨_, rfl⟩
  have HN := hideP hN
  rw [hp, hN]
  rw [hN] at hl
  clear hst hpl hc hp hN
  go_enter Tryz.func63, Tryz.ntmps63
  go_wp2
  clear hmm
  go_loopg [10] N (fun gk ix wr => ∃ j : Nat, gk + j = N ∧ ix = .int .i64 j ∧ Hid (FcAt w g o gp kp code ps j wr))
  case atStart => exact ⟨0, by simp, rfl, S0.out⟩
  case round =>
    obtain ⟨j, hj, rfl, hS⟩ := hrel
    clear S0
    by_cases hlt : j < N
    · have hjc : j < code.length := by rw [HN.out]; exact hlt
      have hjp : j < ps.length := by rw [HPL.out]; exact hjc
      obtain ⟨X, hX⟩ : ∃ X, code[j] = X := ⟨_, rfl⟩
      obtain ⟨P, hP⟩ : ∃ P, ps[j] = P := ⟨_, rfl⟩
      obtain ⟨L, hL⟩ : ∃ L, (fwdUp code ps j).1 = L := ⟨_, rfl⟩
      obtain ⟨Y, hY⟩ : ∃ Y, (stepF L X P).2 = Y := ⟨_, rfl⟩
      obtain ⟨L2, hL2⟩ : ∃ L2, (stepF L X P).1 = L2 := ⟨_, rfl⟩
      have st := HST.out j hjc hjp
      rw [hX, hP] at st
      have UP : Hid ((fwdUp code ps (j + 1)).1 = L2) := by show _ = _; rw [fwdUp_at hjc hjp, hL, hX, hP, hL2]
      have MN : Hid (∀ k, k < code.length → (midF code ps (j + 1))[k]! = if k = j then Y else (midF code ps j)[k]!) := fun k hk => by rw [midF_next HPL.out hjc k hk, hL, hX, hP, hY]
      have PS : Hid (∀ W, MapIs W w.heap.size j L → Calls Tryz.prog 115 #[.map (some w.heap.size), .agg (insV X), .agg (plV P)] W fun e w' => e = .returned (.agg (insV Y)) ∧ MapIs w' w.heap.size (j + 1) L2 ∧ But w.heap.size W w') := fun W hW => by
        rw [← hY, ← hL2]
        exact pstep_any L X P W w.heap.size j hW st (by omega)
      have hr : ∀ r, r < 7 → wr.cell? ⟨g, o + j * 7 + r, none⟩ = some (insF X r) := fun r hr => by
        have := (hS.out.row.at hjc hr).1
        rw [midF_at HPL.out hjc, hX] at this
        exact this
      have HP := hideP hP
      have HLL := hideP hL
      clear hX hL hY hL2 st hP
      obtain ⟨op, d, a, b0, c0, nn, t⟩ := X
      obtain ⟨y0, y1, y2, y3, y4, y5, yt⟩ := Y
      obtain ⟨pr, pi, pj, po⟩ := P
      simp only [insV, plV] at PS
      have x0 : wr.cell? ⟨g, o + j * 7, none⟩ = some (.int .i64 op) := hr 0 (by omega)
      have x1 : wr.cell? ⟨g, o + j * 7 + 1, none⟩ = some (.int .i64 d) := hr 1 (by omega)
      have x2 : wr.cell? ⟨g, o + j * 7 + 2, none⟩ = some (.int .i64 a) := hr 2 (by omega)
      have x3 : wr.cell? ⟨g, o + j * 7 + 3, none⟩ = some (.int .i64 b0) := hr 3 (by omega)
      have x4 : wr.cell? ⟨g, o + j * 7 + 4, none⟩ = some (.int .i64 c0) := hr 4 (by omega)
      have x5 : wr.cell? ⟨g, o + j * 7 + 5, none⟩ = some (.int .i64 nn) := hr 5 (by omega)
      have x6 : wr.cell? ⟨g, o + j * 7 + 6, none⟩ = some (.string t) := hr 6 (by omega)
      have S1 := hideP (hS.out.boxed (.cells #[.int .i64 op, .int .i64 d, .int .i64 a, .int .i64 b0, .int .i64 c0, .int .i64 nn, .string t] 56))
      have BX := hideP (newI wr #[.int .i64 op, .int .i64 d, .int .i64 a, .int .i64 b0, .int .i64 c0, .int .i64 nn, .string t])
      have hml := hS.out.map.lt
      clear hr hS
      go_upto_region 4 with fail
      clear x0 x1 x2 x3 x4 x5 x6
      obtain ⟨wb, hwb⟩ : ∃ wb, wr.alloc (.cells #[.int .i64 op, .int .i64 d, .int .i64 a, .int .i64 b0, .int .i64 c0, .int .i64 nn, .string t] 56) = wb := ⟨_, rfl⟩
      rw [hwb] at S1 BX ⊢
      clear hwb
      have SK : Hid (∀ W', KpQ wb w.heap.size g W' → W'.cell? ⟨wr.heap.size, 0, none⟩ = some (.int .i64 op) ∧ W'.cell? ⟨wr.heap.size, 1, none⟩ = some (.int .i64 d) ∧ W'.cell? ⟨wr.heap.size, 2, none⟩ = some (.int .i64 a) ∧ W'.cell? ⟨wr.heap.size, 3, none⟩ = some (.int .i64 b0) ∧ W'.cell? ⟨wr.heap.size, 4, none⟩ = some (.int .i64 c0) ∧ W'.cell? ⟨wr.heap.size, 5, none⟩ = some (.int .i64 nn) ∧ W'.cell? ⟨wr.heap.size, 6, none⟩ = some (.string t) ∧ W'.cell? ⟨gp, j * 4, none⟩ = some (.int .i64 pr) ∧ W'.cell? ⟨gp, j * 4 + 1, none⟩ = some (.int .i64 pi) ∧ W'.cell? ⟨gp, j * 4 + 2, none⟩ = some (.int .i64 pj) ∧ W'.cell? ⟨gp, j * 4 + 3, none⟩ = some (.int .i64 po)) := fun W' hk => by
        have hb := (hk wr.heap.size (hltP BX.out) (by omega) (by have := S1.out.low; omega)).trans BX.out
        have hq := pla_at S1.out.pl j hjp
        rw [HP.out] at hq
        have hg : ∀ i u, wb.cell? ⟨gp, i, none⟩ = some u → W'.cell? ⟨gp, i, none⟩ = some u := fun i u hu => (World.cell?_of_block (a := ⟨gp, i, none⟩) (hk gp (by have := S1.out.lowp; have := S1.out.but.size; omega) (by have := S1.out.lowp; omega) S1.out.ne)).trans hu
        have hc := (cells_of hb).1
        exact ⟨hc 0, hc 1, hc 2, hc 3, hc 4, hc 5, hc 6, hg _ _ hq.1, hg _ _ hq.2.1, hg _ _ hq.2.2.1, hg _ _ hq.2.2.2⟩
      have M1 : Hid (MapIs wb.drew w.heap.size j L) := by have := S1.out.map; rw [HLL.out] at this; exact this
      go_region_held3 (fun W' => W'.cell? ⟨wr.heap.size, 0, none⟩ = some (.int .i64 op) ∧ W'.cell? ⟨wr.heap.size, 1, none⟩ = some (.int .i64 d) ∧ W'.cell? ⟨wr.heap.size, 2, none⟩ = some (.int .i64 a) ∧ W'.cell? ⟨wr.heap.size, 3, none⟩ = some (.int .i64 b0) ∧ W'.cell? ⟨wr.heap.size, 4, none⟩ = some (.int .i64 c0) ∧ W'.cell? ⟨wr.heap.size, 5, none⟩ = some (.int .i64 nn) ∧ W'.cell? ⟨wr.heap.size, 6, none⟩ = some (.string t) ∧ W'.cell? ⟨gp, j * 4, none⟩ = some (.int .i64 pr) ∧ W'.cell? ⟨gp, j * 4 + 1, none⟩ = some (.int .i64 pi) ∧ W'.cell? ⟨gp, j * 4 + 2, none⟩ = some (.int .i64 pj) ∧ W'.cell? ⟨gp, j * 4 + 3, none⟩ = some (.int .i64 po)) (first | with_reducible exact SK.out _ C5.out.k5 | with_reducible exact SK.out _ (C5.out.k6 _ _ _ _ _ _ _) | with_reducible exact SK.out _ (KpQ.drew _ _ _)) (first
        | (go_at_call 115; refine (PS.out _ M1.out).mono ?_; rintro e5 w5 ⟨rfl, m5, b5⟩; have C5 := hideP (fc_call S1.out m5 b5); obtain ⟨u0, u1, u2, u3, u4, u5, u6, q0, q1, q2, q3, q4, q5, q6, qf⟩ := C5.out.row.seen hjc; clear b5 m5))
      have S6 : Hid (FcAt w g o gp kp code ps (j + 1) (((((((w5.setCell ⟨g, o + j * 7, none⟩ (.int .i64 y0)).setCell ⟨g, o + j * 7 + 1, none⟩ (.int .i64 y1)).setCell ⟨g, o + j * 7 + 2, none⟩ (.int .i64 y2)).setCell ⟨g, o + j * 7 + 3, none⟩ (.int .i64 y3)).setCell ⟨g, o + j * 7 + 4, none⟩ (.int .i64 y4)).setCell ⟨g, o + j * 7 + 5, none⟩ (.int .i64 y5)).setCell ⟨g, o + j * 7 + 6, none⟩ (.string yt))) := fc_next S1.out C5.out hjc ⟨y0, y1, y2, y3, y4, y5, yt⟩ UP.out MN.out
      clear SK M1 C5 S1 q0 q1 q2 q3 q4 q5 q6 qf PS BX
      go_wp2
      go_roundg (N - (j + 1))
      case rel => exact ⟨j + 1, by omega, by go_num, S6.out⟩
      case measure => omega
    · have hjn : j = N := by omega
      subst hjn
      have E : Hid (CodeF wr g o (fwdUp code ps j).2) := by
        have h1 := hS.out.row
        have e : midF code ps j = (fwdUp code ps j).2 := by rw [midF, ← HN.out, List.drop_length, List.append_nil]
        rw [e, HN.out] at h1
        have hl2 := fwdUp_len HPL.out j (by rw [HN.out]; exact Nat.le_refl _)
        show RowF _ _ _ _ _
        rw [hl2]; exact h1
      go_wp2
      go_end0
      exact ⟨rfl, E.out, hS.out.but⟩
end Go.Proofs.YtelkpikbjfkpcaaGreat

/- The code of one block of a graph of one's own is written anew. -/
namespace Go.Proofs.YtelkpikbjfkpcaaGreat
open Go.ChangeShapes Go.WideShapes Go.ChangeAt Go.RowKit
/-- Where the code of block i lies. -/
theorem GOwn.codeAt {W : World} {A : Nat} {v : Array Value} {y : Gr} {S : CRow} {gb : Nat} {cs : List CRow} (h : GrIs W A v y) (ow : GOwn W v S gb 0 cs) {i : Nat} (hic : i < cs.length) :
    ∃ us kS ub kB vs, v = #[.slice us y.sizes.length kS, .int .i64 y.params, .int .i64 y.vars, .int .i64 y.slots, .slice ub y.blocks.length kB] ∧ ub = some ⟨gb, 0, none⟩ ∧ (0 < y.sizes.length → us = some ⟨S.b, S.o, none⟩ ∧ 0 < S.n) ∧ IntsIs W A us y.sizes ∧ RowAt W A ub y.blocks.length 5 vs ∧ y.blocks.length ≤ maxLen ∧ y.wf ∧ (∀ (k : Nat) (hk : k < y.blocks.length) (hkc : k < cs.length), ∃ uc kc, vs k = #[.slice uc (y.blocks[k]).code.length kc, .int .i64 (y.blocks[k]).jump, .int .i64 (y.blocks[k]).a, .int .i64 (y.blocks[k]).to, .int .i64 (y.blocks[k]).els] ∧ (y.blocks[k]).wf ∧ SlIs InsIs 7 W A uc (y.blocks[k]).code ∧ cs[k].n = (y.blocks[k]).code.length ∧ (0 < (y.blocks[k]).code.length → uc = some ⟨cs[k].b, cs[k].o, none⟩)) := by
  obtain ⟨us, kS, ub, kB, rfl, ok, hs, hl, vs, hr, hx⟩ := h
  obtain ⟨ads, caps, p, q, r, adb, capb, hv, h1, h2⟩ := ow.val
  obtain ⟨e0, e4⟩ := five_inj hv
  obtain ⟨rfl, en, rfl⟩ := slice_inj e0
  obtain ⟨rfl, em, rfl⟩ := slice_inj e4
  have hub : ub = some ⟨gb, 0, none⟩ := by
    rcases h2 with h2 | h2
    · subst h2; simp at hic
    · exact h2
  refine ⟨us, kS, ub, kB, vs, rfl, hub, fun h0 => ?_, hs, hr, hl, ok, fun k hk hkc => ?_⟩
  · rcases h1 with h1 | h1
    · omega
    · exact ⟨h1, by omega⟩
  · obtain ⟨uc, kc, hvk, hw, hcode⟩ := hx k hk
    obtain ⟨ad, cap, hc, had⟩ := ow.codes.cell k hkc
    have hc2 : W.cell? ⟨gb, 0 + k * 5, none⟩ = (vs k)[0]? := by
      rcases hr with h0 | ⟨b', o', ha, _, _, _, hcc⟩
      · omega
      · rw [hub] at ha
        cases ha
        have := (hcc k hk).2 0 (by omega)
        simpa using this
    rw [hvk, hc] at hc2
    have hc3 : Value.slice ad cs[k].n cap = Value.slice uc (y.blocks[k]).code.length kc := by simpa using hc2
    obtain ⟨ea, en2, _⟩ := slice_inj hc3
    refine ⟨uc, kc, hvk, hw, hcode, en2, fun h0 => ?_⟩
    rcases had with had | had
    · omega
    · rw [← ea]; exact had
theorem GrIs.recode {W W' : World} {A : Nat} {v : Array Value} {y : Gr} {S : CRow} {gb : Nat} {cs : List CRow} (h : GrIs W A v y) (ow : GOwn W v S gb 0 cs) (hl : cs.length = y.blocks.length) {i : Nat} (hi : i < y.blocks.length) (hic : i < cs.length) (hpos : 0 < (y.blocks[i]).code.length)
    {code' : List Ins} (hl' : code'.length = (y.blocks[i]).code.length) (hw : ∀ z ∈ code', z.wf ∧ z.t.size ≤ maxLen) (hb : But cs[i].b W W') (hc : CodeF W' cs[i].b cs[i].o code') :
    GrIs W' A v { y with blocks := y.blocks.set i { y.blocks[i] with code := code' } } ∧ GOwn W' v S gb 0 cs := by
  obtain ⟨us, kS, ub, kB, vs, rfl, rfl, hus, hs, hr, hlen, ok, hall⟩ := ow.codeAt h hic
  have hni : 0 < cs[i].n := by obtain ⟨_, _, _, _, _, e, _⟩ := hall i hi hic; omega
  have hne : cs ≠ [] := fun e => by subst e; simp at hic
  have hgb := ow.codes.own i hic hni
  refine ⟨⟨us, kS, some ⟨gb, 0, none⟩, kB, by simp only [List.length_set], ok, ?_, ?_⟩, ?_⟩
  · refine hs.butne (fun h0 b o e => ?_) hb
    obtain ⟨e1, hsn⟩ := hus h0
    rw [e1] at e
    cases e
    exact ow.sc hsn i hic hni
  · refine ⟨by simpa using hlen, vs, by simpa using hr.butne (Ne.symm hgb) hb, fun k hk => ?_⟩
    simp only [List.length_set] at hk
    obtain ⟨uc, kc, hv, hwk, hcode, hnk, huc⟩ := hall k hk (by omega)
    by_cases e : i = k
    · subst e
      rw [List.getElem_set_self]
      refine ⟨uc, kc, by rw [hv]; simp only [hl'], hwk, ?_⟩
      rw [huc hpos]
      have hA : A ≤ cs[i].b := by
        rw [huc hpos] at hcode
        obtain ⟨_, vs2, hr2, _⟩ := hcode
        rcases hr2 with h0 | ⟨b', o', ha, hB, _⟩
        · omega
        · cases ha; exact hB
      refine hc.is hA ?_ hw
      rw [hl']; exact hcode.1
    · rw [List.getElem_set_ne e]
      refine ⟨uc, kc, hv, hwk, hcode.butne (fun h0 b o e2 => ?_) hb⟩
      rw [huc h0] at e2
      cases e2
      exact ow.codes.dis k i (by omega) hic (fun e3 => e e3.symm) (by omega) hni
  · exact {
      val := ow.val
      srow := fun h0 => by
        obtain ⟨c, T, h1, h2⟩ := ow.srow h0
        exact ⟨c, T, (hb.block _ (hltP h1) (ow.sc h0 i hic hni)).trans h1, h2⟩
      brow := fun h0 => by
        obtain ⟨c, T, h1, h2⟩ := ow.brow h0
        exact ⟨c, T, (hb.block _ (hltP h1) (Ne.symm hgb)).trans h1, h2⟩
      codes := {
        cell := fun k hk => by
          obtain ⟨ad, cap, h1, h2⟩ := ow.codes.cell k hk
          refine ⟨ad, cap, ?_, h2⟩
          rw [hb.cell (World.block_lt_of_cell? W _ h1) (Ne.symm hgb)]
          exact h1
        row := fun k hk h0 => by
          by_cases e : k = i
          · subst e
            obtain ⟨cur, T, h1, h2, _⟩ := hc
            obtain ⟨_, _, _, _, _, e2, _⟩ := hall k hi hk
            exact ⟨cur, T, h1, by omega⟩
          · obtain ⟨c, T, h1, h2⟩ := ow.codes.row k hk h0
            exact ⟨c, T, (hb.block _ (hltP h1) (ow.codes.dis k i hk hic e h0 hni)).trans h1, h2⟩
        own := ow.codes.own
        dis := ow.codes.dis }
      sb := ow.sb
      sc := ow.sc }
end Go.Proofs.YtelkpikbjfkpcaaGreat

/- The places of a block that is right are right; the blocks, one after another. -/
namespace Go.Proofs.YtelkpikbjfkpcaaGreat
open Go.ChangeShapes Go.WideShapes Go.ChangeAt Go.RowKit
theorem placesUp_get (V : Nat) (code : List Ins) : ∀ (n j : Nat) (hn : n ≤ code.length) (hj : j < n), (placesUp V code n)[j]'(by rw [placesUp_len V code n hn]; exact hj) = placeP (ledP V (code.take j)) (code[j]'(by omega))
  | 0, _, _, hj => absurd hj (Nat.not_lt_zero _)
  | n + 1, j, hn, hj => by
    have e := placesUp_at V (show n < code.length by omega)
    have hl := placesUp_len V code n (by omega)
    simp only [e]
    by_cases h : j < n
    · rw [List.getElem_append_left (by omega)]
      exact placesUp_get V code n j (by omega) h
    · obtain rfl : j = n := by omega
      rw [List.getElem_append_right (by omega)]
      simp [hl]
theorem minmax_i64 {a b : Int} (ha : I64 a) (hb : I64 b) : I64 (min a b) ∧ I64 (max a b) := by
  unfold I64 at *
  omega
theorem plaI_place {R : Int} {V : Nat} {l : Led} {x : Ins} (h : LedOk V l) (hf : V + l.fresh ≤ 1000000) (hx : insOk R V x = true) (hn : I64 x.n) : PlaI (placeP l x) := by
  have m1 : I64 (-1) := ⟨by omega, by omega⟩
  have z : I64 0 := ⟨by omega, by omega⟩
  have go : (x.op = 3 ∨ x.op = 4) → vOk V x.b = true → (x.a = -1 ∨ vOk V x.a = true) → PlaI (placeP l x) := fun e hb ha => by
    have h1 : I64 (l.oget x.a).base := by
      unfold Led.oget
      split
      · exact m1
      · rename_i hne
        rcases ha with ha | ha
        · exact absurd ha hne
        · exact (h.get ha).i64 hf
    have h2 : I64 (l.get x.b).base := (h.get hb).i64 hf
    have := minmax_i64 h1 h2
    simp only [placeP, if_pos e]
    exact ⟨hn, this.1, this.2, wrap64_i64 _⟩
  have no : ¬ (x.op = 3 ∨ x.op = 4) → PlaI (placeP l x) := fun e => by
    simp only [placeP, if_neg e]
    exact ⟨m1, z, z, z⟩
  rcases insOk_slots hx with ⟨e, _⟩ | ⟨e, _⟩ | ⟨e, _⟩ | ⟨e, _, hb, ha, _⟩ | ⟨e, hb, ha, _⟩ | ⟨e, _⟩ | e
  · exact no (by omega)
  · exact no (by omega)
  · exact no (by omega)
  · exact go (Or.inl e) hb ha
  · exact go (Or.inr e) hb ha
  · exact no (by omega)
  · exact no (by omega)
theorem insOk_d {R V : Int} {x : Ins} (h : insOk R V x = true) (e : x.op = 3) : 0 ≤ x.d := by
  unfold insOk vOk at h
  simp [e] at h
  omega
theorem insOk_c {R V : Int} {x : Ins} (h : insOk R V x = true) (e : x.op = 4) : 0 ≤ x.c := by
  unfold insOk vOk at h
  simp [e] at h
  omega
theorem stOk_all {R : Int} {V : Nat} {code : List Ins} (co : CodeOk R V code) (hw : ∀ x ∈ code, x.wf ∧ x.t.size ≤ maxLen) : ∀ j (h1 : j < code.length) (h2 : j < (placesUp V code code.length).length), StOk code[j] (placesUp V code code.length)[j] := fun j h1 h2 => by
  have hm := List.getElem_mem h1
  obtain ⟨k1, k2⟩ := co.2.2 _ hm
  obtain ⟨w1, w2⟩ := hw _ hm
  have hl := ledP_ok co.2.2 j (by omega)
  rw [placesUp_get V code code.length j (Nat.le_refl _) h1]
  exact ⟨plaI_place hl.1 (by have := co.1; have := co.2.1; omega) k1 k2, w1, w2, insOk_d k1, insOk_c k1⟩
theorem ins_all {w : World} {B : Nat} {u : Option Addr} {code : List Ins} (h : SlIs InsIs 7 w B u code) : ∀ x ∈ code, x.wf ∧ x.t.size ≤ maxLen := fun x hx => by
  obtain ⟨i, hi, rfl⟩ := List.getElem_of_mem hx
  obtain ⟨_, _, _, _, _, _, _, _, ok⟩ := h.at i hi
  exact ok.2
theorem fwdCode_wf {R : Int} {V : Nat} {code : List Ins} (co : CodeOk R V code) (hw : ∀ x ∈ code, x.wf ∧ x.t.size ≤ maxLen) : ∀ z ∈ fwdCode V code, z.wf ∧ z.t.size ≤ maxLen :=
  (fwdUp_ok (placesUp_len V code _ (Nat.le_refl _)) (stOk_all co hw) code.length (Nat.le_refl _)).2
/-- The first j blocks are done. -/
def midB (V : Nat) (bs : List Blk) : Nat → List Blk
  | 0 => bs
  | j + 1 => (midB V bs j).set j (fwdB V (bs[j]!))
theorem midB_len (V : Nat) (bs : List Blk) : ∀ j, (midB V bs j).length = bs.length
  | 0 => rfl
  | j + 1 => by simp [midB, midB_len V bs j]
theorem midB_ge (V : Nat) (bs : List Blk) : ∀ j k, j ≤ k → (h : k < bs.length) → (midB V bs j)[k]'(by rw [midB_len]; exact h) = bs[k]
  | 0, _, _, _ => rfl
  | j + 1, k, hk, h => by
    simp only [midB]
    rw [List.getElem_set_ne (by omega)]
    exact midB_ge V bs j k (by omega) h
theorem midB_lt (V : Nat) (bs : List Blk) : ∀ j k, k < j → (h : k < bs.length) → (midB V bs j)[k]'(by rw [midB_len]; exact h) = fwdB V bs[k]
  | 0, _, hk, _ => absurd hk (Nat.not_lt_zero _)
  | j + 1, k, hk, h => by
    simp only [midB]
    by_cases e : j = k
    · subst e
      rw [List.getElem_set_self, getElem!_pos bs j h]
    · rw [List.getElem_set_ne e]
      exact midB_lt V bs j k (by omega) h
theorem midB_all (V : Nat) (bs : List Blk) : midB V bs bs.length = bs.map (fwdB V) := by
  apply List.ext_getElem (by simp [midB_len])
  intro k h1 h2
  rw [midB_lt V bs bs.length k (by rw [midB_len] at h1; exact h1) (by rw [midB_len] at h1; exact h1)]
  simp
theorem midB_code (V : Nat) (bs : List Blk) (j k : Nat) : ((midB V bs j)[k]!).code.length = (bs[k]!).code.length := by
  by_cases h : k < bs.length
  · have h' : k < (midB V bs j).length := by rw [midB_len]; exact h
    rw [getElem!_pos bs k h, getElem!_pos (midB V bs j) k h']
    by_cases e : k < j
    · rw [midB_lt V bs j k e h]; simp [fwdB, fwdCode_len]
    · rw [midB_ge V bs j k (by omega) h]
  · have h' : ¬ k < (midB V bs j).length := by rw [midB_len]; exact h
    rw [getElem!_neg bs k h, getElem!_neg (midB V bs j) k h']
theorem midB_skip (V : Nat) {bs : List Blk} {j : Nat} (h : j < bs.length) (he : (bs[j]).code = []) : midB V bs (j + 1) = midB V bs j := by
  have e : fwdB V (bs[j]!) = (midB V bs j)[j]'(by rw [midB_len]; exact h) := by
    rw [midB_ge V bs j j (Nat.le_refl _) h, getElem!_pos bs j h]
    have : fwdCode V (bs[j]).code = (bs[j]).code := by rw [he]; rfl
    unfold fwdB
    rw [this]
  show (midB V bs j).set j (fwdB V (bs[j]!)) = _
  rw [e, List.set_getElem_self]
set_option maxRecDepth 100000 in
theorem forwardCode_nil (w : World) (u : Option Addr) (cap : Nat) (vp : Value) :
    Calls Tryz.prog 63 #[.slice u 0 cap, vp] w fun en w' => en = .returned (.tuple #[]) ∧ Below w.heap.size w w' := by
  have hmm := @run_makeMap Tryz.prog
  have al := (Below.refl w.heap.size w).alloc (Nat.le_refl _) (.map #[] 0)
  go_enter Tryz.func63, Tryz.ntmps63
  go_wp2
  clear hmm
  go_loopw [10] (fun ix wr => ix = .int .i64 0 ∧ wr = w.alloc (.map #[] 0)) (fun _ _ => 0)
  case atStart => exact ⟨rfl, rfl⟩
  case round =>
    obtain ⟨rfl, rfl⟩ := hrel
    go_wp2
    go_end0
    exact ⟨rfl, al⟩
end Go.Proofs.YtelkpikbjfkpcaaGreat
