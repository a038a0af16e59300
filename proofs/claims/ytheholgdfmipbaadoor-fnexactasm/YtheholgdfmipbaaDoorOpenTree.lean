/- Out of an argument's reading: the expression, statement or program that lies there. -/
import Derived.Test.YtheholgdfmipbaaDoorTree
import Derived.DataReads
import Derived.ChangeArms
import Derived.ChangeSlices
import Derived.Deep.Slices
namespace Go.Proofs.YtheholgdfmipbaaDoor
open Go.ChangeShapes Go.WideShapes Go.RowKit
section
variable {H : Type} {enc : TypeId × Value → H} {P : Program} {W : World} {sp : Nat → Bool} {held : Bool}

/-- A field of a struct whose fields' types and offsets are known. -/
theorem field_at {fs : Array Field} {l : List (TypeId × Nat)} (hf : fs.toList.map (fun f => (f.type, f.offset)) = l) (i : Nat) {t o : Nat} (hi : l[i]? = some (t, o)) : ∃ f, fs[i]? = some f ∧ f.type = t ∧ f.offset = o := by
  subst hf
  rw [List.getElem?_map] at hi
  obtain ⟨f, hf, he⟩ := Option.map_eq_some_iff.1 hi
  simp only [Prod.mk.injEq] at he
  exact ⟨f, by simpa using hf, he.1, he.2⟩
/-- The elements of a slice by their index; the slice's address has no spot. -/
theorem row_of {t e : TypeId} {sz fuel : Nat} {cs : List Value} {x : DataW H × List MemPlace} (ht : P.underlying t = some (.slice e)) (hc : P.cellsOf e = sz) (hsz : 0 < sz) (h : DataW.trod enc P W 0 sp held fuel t cs = some x) :
    ∃ a len cap vs, cs = [.slice a len cap] ∧ len ≤ maxLen ∧ RowAt W 0 a len sz vs ∧ ∀ i, i < len → ∃ n y, n < fuel ∧ DataW.trod enc P W 0 sp held n e (vs i).toList = some y := by
  rcases DataW.trod_slice ht h with ⟨rfl, _⟩ | ⟨a, len, cap, elems, rest, n, rfl, rfl, rfl, hb, hl, hm, hlen, hel, hsp, hns⟩
  · exact ⟨none, 0, 0, fun _ => #[], rfl, Nat.zero_le _, Or.inl rfl, fun i hi => absurd hi (Nat.not_lt_zero _)⟩
  · rw [hc] at hel
    have each : ∀ i, i < len → ∃ v : Array Value, (v.size = sz ∧ ∀ j, j < sz → W.cell? ((a.add (i * sz)).add j) = v[j]?) ∧ ∃ y, DataW.trod enc P W 0 sp held n e v.toList = some y := fun i hi => by
      have h1 := hel i hi
      rw [List.getElem?_eq_getElem (by omega)] at h1
      obtain ⟨cs', h2, h3⟩ := Option.bind_eq_some_iff.1 h1
      obtain ⟨_, h4, h5⟩ := World.cells?_some h2
      exact ⟨cs'.toArray, ⟨by simpa using h4, fun j hj => by rw [h5 j hj]; simp⟩, _, h3⟩
    obtain ⟨vs, hvs⟩ := Deep.choose_lt (α := Array Value) each
    refine ⟨some a, len, cap, vs, rfl, Nat.le_trans hl hm, ?_, fun i hi => let ⟨y, hy⟩ := (hvs i hi).2; ⟨n, y, by omega, hy⟩⟩
    by_cases h0 : len = 0
    · exact Or.inl h0
    · obtain ⟨b, o, spot⟩ := a
      have hz := (hvs 0 (by omega)).1
      have hs : spot = none := by
        have h1 := hz.2 0 hsz
        rw [Array.getElem?_eq_getElem (by omega)] at h1
        simpa [Addr.add] using World.cell?_spot h1
      subst hs
      have hadd : ∀ i j, ((⟨b, o, none⟩ : Addr).add i).add j = ⟨b, o + i + j, none⟩ := fun i j => by
        unfold Addr.add; by_cases hi : i = 0 <;> by_cases hj : j = 0 <;> simp [hi, hj]
      refine Or.inr ⟨b, o, rfl, Nat.zero_le _, ?_, fun h => absurd h (Nat.lt_irrefl 0), fun i hi => ⟨(hvs i hi).1.1, fun j hj => by rw [← hadd]; exact (hvs i hi).1.2 j hj⟩⟩
      have h1 := hz.2 0 hsz
      rw [Array.getElem?_eq_getElem (by omega), hadd] at h1
      exact World.block_lt_of_cell? _ _ h1

/-- What an element type needs to be known by. -/
structure ExTy (P : Program) (tE tL tI tS : TypeId) : Prop where
  e : ∃ fs, P.underlying tE = some (.struct fs) ∧ fs.toList.map (fun f => (f.type, f.offset)) = [(tI, 0), (tI, 1), (tI, 2), (tS, 3), (tL, 4)]
  l : P.underlying tL = some (.slice tE)
  i : P.underlying tI = some (.int .i64)
  s : P.underlying tS = some .string
  ce : P.cellsOf tE = 5
  cl : P.cellsOf tL = 1
  ci : P.cellsOf tI = 1
  cs : P.cellsOf tS = 1
theorem open_ex {tE tL tI tS : TypeId} (T : ExTy P tE tL tI tS) : ∀ (fuel : Nat) (cs : List Value) (x : DataW H × List MemPlace), DataW.trod enc P W 0 sp held fuel tE cs = some x → ∃ e, ExIs W 0 cs.toArray e := by
  intro fuel
  induction fuel using Nat.strongRecOn with
  | ind fuel ih =>
    intro cs x h
    obtain ⟨fs, hfs, hmap⟩ := T.e
    obtain ⟨xs, n, rfl, _, hlen, hxl, hfld⟩ := DataW.trod_struct hfs h
    rw [T.ce] at hlen
    have hsize : fs.size = 5 := by have := congrArg List.length hmap; simpa using this
    have fld : ∀ i t o, ([(tI, 0), (tI, 1), (tI, 2), (tS, 3), (tL, 4)] : List (TypeId × Nat))[i]? = some (t, o) → P.cellsOf t = 1 → ∃ y, DataW.trod enc P W 0 sp held n t ((cs.drop o).take 1) = some y := fun i t o hi hc => by
      obtain ⟨f, h1, rfl, rfl⟩ := field_at hmap i hi
      have hlt : i < 5 := by
        rcases Nat.lt_or_ge i 5 with h' | h'
        · exact h'
        · rw [Array.getElem?_eq_none (by omega)] at h1; cases h1
      have h2 := hfld i f h1
      rw [hc, List.getElem?_eq_getElem (by omega)] at h2
      exact ⟨_, h2⟩
    match cs, hlen with
    | [c0, c1, c2, c3, c4], _ =>
      obtain ⟨y0, h0⟩ := fld 0 tI 0 rfl T.ci
      obtain ⟨y1, h1⟩ := fld 1 tI 1 rfl T.ci
      obtain ⟨y2, h2⟩ := fld 2 tI 2 rfl T.ci
      obtain ⟨y3, h3⟩ := fld 3 tS 3 rfl T.cs
      obtain ⟨y4, h4⟩ := fld 4 tL 4 rfl T.cl
      obtain ⟨k, e0, _⟩ := DataW.trod_int T.i h0
      obtain ⟨m, e1, _⟩ := DataW.trod_int T.i h1
      obtain ⟨b, e2, _⟩ := DataW.trod_int T.i h2
      obtain ⟨t, e3, _, ht⟩ := DataW.trod_string T.s h3
      obtain ⟨a, len, cap, vs, e4, hl, hrow, hel⟩ := row_of T.l T.ce (by omega) h4
      simp at e0 e1 e2 e3 e4
      subst e0 e1 e2 e3 e4
      obtain ⟨E, hE⟩ := Deep.choose_lt (α := Ex) (n := len) (p := fun i e => ExIs W 0 (vs i) e) (fun i hi => by
        obtain ⟨n', y, hn, hy⟩ := hel i hi
        simpa using ih n' (by omega) _ _ hy)
      refine ⟨.mk k m b t ((List.range len).map E), ?_⟩
      have := ExIs.mk (w := W) (B := 0) k m b t ((List.range len).map E) a cap vs (by simpa using hl) ht (by simpa using hrow) (fun i hi => by
        have hi' : i < len := by simpa using hi
        simpa using hE i hi')
      simpa using this
theorem open_exs {tE tL tI tS : TypeId} (T : ExTy P tE tL tI tS) {fuel : Nat} {cs : List Value} {x : DataW H × List MemPlace} (h : DataW.trod enc P W 0 sp held fuel tL cs = some x) : ∃ a cap es, cs = [.slice a es.length cap] ∧ ExsIs W 0 a es := by
  obtain ⟨a, len, cap, vs, e4, hl, hrow, hel⟩ := row_of T.l T.ce (by omega) h
  obtain ⟨E, hE⟩ := Deep.choose_lt (α := Ex) (n := len) (p := fun i e => ExIs W 0 (vs i) e) (fun i hi => by
    obtain ⟨n', y, hn, hy⟩ := hel i hi
    simpa using open_ex T n' _ _ hy)
  refine ⟨a, cap, (List.range len).map E, by simpa using e4, by simpa using hl, vs, by simpa using hrow, fun i hi => ?_⟩
  have hi' : i < len := by simpa using hi
  simpa using hE i hi'
structure StTy (P : Program) (tE tL tI tS tT tM : TypeId) : Prop where
  x : ExTy P tE tL tI tS
  e : ∃ fs, P.underlying tT = some (.struct fs) ∧ fs.toList.map (fun f => (f.type, f.offset)) = [(tI, 0), (tI, 1), (tI, 2), (tL, 3), (tM, 4), (tM, 5)]
  l : P.underlying tM = some (.slice tT)
  ce : P.cellsOf tT = 6
  cl : P.cellsOf tM = 1
theorem open_st {tE tL tI tS tT tM : TypeId} (T : StTy P tE tL tI tS tT tM) : ∀ (fuel : Nat) (cs : List Value) (x : DataW H × List MemPlace), DataW.trod enc P W 0 sp held fuel tT cs = some x → ∃ e, StIs W 0 cs.toArray e := by
  intro fuel
  induction fuel using Nat.strongRecOn with
  | ind fuel ih =>
    intro cs x h
    obtain ⟨fs, hfs, hmap⟩ := T.e
    obtain ⟨xs, n, rfl, _, hlen, hxl, hfld⟩ := DataW.trod_struct hfs h
    rw [T.ce] at hlen
    have hsize : fs.size = 6 := by have := congrArg List.length hmap; simpa using this
    have fld : ∀ i t o, ([(tI, 0), (tI, 1), (tI, 2), (tL, 3), (tM, 4), (tM, 5)] : List (TypeId × Nat))[i]? = some (t, o) → P.cellsOf t = 1 → ∃ y, DataW.trod enc P W 0 sp held n t ((cs.drop o).take 1) = some y := fun i t o hi hc => by
      obtain ⟨f, h1, rfl, rfl⟩ := field_at hmap i hi
      have hlt : i < 6 := by
        rcases Nat.lt_or_ge i 6 with h' | h'
        · exact h'
        · rw [Array.getElem?_eq_none (by omega)] at h1; cases h1
      have h2 := hfld i f h1
      rw [hc, List.getElem?_eq_getElem (by omega)] at h2
      exact ⟨_, h2⟩
    match cs, hlen with
    | [c0, c1, c2, c3, c4, c5], _ =>
      obtain ⟨y0, h0⟩ := fld 0 tI 0 rfl T.x.ci
      obtain ⟨y1, h1⟩ := fld 1 tI 1 rfl T.x.ci
      obtain ⟨y2, h2⟩ := fld 2 tI 2 rfl T.x.ci
      obtain ⟨y3, h3⟩ := fld 3 tL 3 rfl T.x.cl
      obtain ⟨y4, h4⟩ := fld 4 tM 4 rfl T.cl
      obtain ⟨y5, h5⟩ := fld 5 tM 5 rfl T.cl
      obtain ⟨k, e0, _⟩ := DataW.trod_int T.x.i h0
      obtain ⟨m, e1, _⟩ := DataW.trod_int T.x.i h1
      obtain ⟨b, e2, _⟩ := DataW.trod_int T.x.i h2
      obtain ⟨ea, ec, es, e3, hes⟩ := open_exs T.x h3
      obtain ⟨a, len, cap, vs, e4, hl, hrow, hel⟩ := row_of T.l T.ce (by omega) h4
      obtain ⟨a', len', cap', vs', e5, hl', hrow', hel'⟩ := row_of T.l T.ce (by omega) h5
      simp at e0 e1 e2 e3 e4 e5
      subst e0 e1 e2 e3 e4 e5
      obtain ⟨E, hE⟩ := Deep.choose_lt (α := St) (n := len) (p := fun i e => StIs W 0 (vs i) e) (fun i hi => by
        obtain ⟨n', y, hn, hy⟩ := hel i hi
        simpa using ih n' (by omega) _ _ hy)
      obtain ⟨E', hE'⟩ := Deep.choose_lt (α := St) (n := len') (p := fun i e => StIs W 0 (vs' i) e) (fun i hi => by
        obtain ⟨n', y, hn, hy⟩ := hel' i hi
        simpa using ih n' (by omega) _ _ hy)
      refine ⟨.mk k m b es ((List.range len).map E) ((List.range len').map E'), ?_⟩
      have := StIs.mk (w := W) (B := 0) k m b es ((List.range len).map E) ((List.range len').map E') ea ec a cap a' cap' vs vs' hes (by simpa using hl) (by simpa using hl') (by simpa using hrow) (by simpa using hrow') (fun i hi => by
        have hi' : i < len := by simpa using hi
        simpa using hE i hi') (fun i hi => by
        have hi' : i < len' := by simpa using hi
        simpa using hE' i hi')
      simpa using this
theorem open_sts {tE tL tI tS tT tM : TypeId} (T : StTy P tE tL tI tS tT tM) {fuel : Nat} {cs : List Value} {x : DataW H × List MemPlace} (h : DataW.trod enc P W 0 sp held fuel tM cs = some x) : ∃ a cap es, cs = [.slice a es.length cap] ∧ StsIs W 0 a es := by
  obtain ⟨a, len, cap, vs, e4, hl, hrow, hel⟩ := row_of T.l T.ce (by omega) h
  obtain ⟨E, hE⟩ := Deep.choose_lt (α := St) (n := len) (p := fun i e => StIs W 0 (vs i) e) (fun i hi => by
    obtain ⟨n', y, hn, hy⟩ := hel i hi
    simpa using open_st T n' _ _ hy)
  refine ⟨a, cap, (List.range len).map E, by simpa using e4, by simpa using hl, vs, by simpa using hrow, fun i hi => ?_⟩
  have hi' : i < len := by simpa using hi
  simpa using hE i hi'
theorem open_nums {tI tZ : TypeId} {fuel : Nat} {cs : List Value} {x : DataW H × List MemPlace} (hz : P.underlying tZ = some (.slice tI)) (hi : P.underlying tI = some (.int .i64)) (hc : P.cellsOf tI = 1) (h : DataW.trod enc P W 0 sp held fuel tZ cs = some x) :
    ∃ a cap zs, cs = [.slice a zs.length cap] ∧ IntsIs W 0 a zs := by
  obtain ⟨a, len, cap, vs, e4, hl, hrow, hel⟩ := row_of hz hc (by omega) h
  obtain ⟨Z, hZ⟩ := Deep.choose_lt (α := Int) (n := len) (p := fun i z => vs i = #[.int .i64 z]) (fun i hi' => by
    obtain ⟨n', y, hn, hy⟩ := hel i hi'
    obtain ⟨z, hz', _⟩ := DataW.trod_int hi hy
    exact ⟨z, Array.ext' hz'⟩)
  refine ⟨a, cap, (List.range len).map Z, by simpa using e4, by simpa using hl, ?_⟩
  rcases hrow with h0 | ⟨b, o, ha, hB, hb, _, hcell⟩
  · exact Or.inl (by simpa using h0)
  · refine Or.inr ⟨b, o, ha, hB, hb, fun h0 => absurd h0 (Nat.lt_irrefl _), fun i hi' => ?_⟩
    have hi2 : i < len := by simpa using hi'
    have := (hcell i hi2).2 0 (by omega)
    rw [hZ i hi2] at this
    simpa using this
structure PrTy (P : Program) (tE tL tI tS tT tM tZ tP : TypeId) : Prop where
  s : StTy P tE tL tI tS tT tM
  e : ∃ fs, P.underlying tP = some (.struct fs) ∧ fs.toList.map (fun f => (f.type, f.offset)) = [(tZ, 0), (tI, 1), (tI, 2), (tM, 3)]
  z : P.underlying tZ = some (.slice tI)
  ce : P.cellsOf tP = 4
  cz : P.cellsOf tZ = 1
theorem open_pr {tE tL tI tS tT tM tZ tP : TypeId} (T : PrTy P tE tL tI tS tT tM tZ tP) {fuel : Nat} {cs : List Value} {x : DataW H × List MemPlace} (h : DataW.trod enc P W 0 sp held fuel tP cs = some x) : ∃ p, PrIs W 0 cs.toArray p := by
  obtain ⟨fs, hfs, hmap⟩ := T.e
  obtain ⟨xs, n, rfl, _, hlen, hxl, hfld⟩ := DataW.trod_struct hfs h
  rw [T.ce] at hlen
  have hsize : fs.size = 4 := by have := congrArg List.length hmap; simpa using this
  have fld : ∀ i t o, ([(tZ, 0), (tI, 1), (tI, 2), (tM, 3)] : List (TypeId × Nat))[i]? = some (t, o) → P.cellsOf t = 1 → ∃ y, DataW.trod enc P W 0 sp held n t ((cs.drop o).take 1) = some y := fun i t o hi hc => by
    obtain ⟨f, h1, rfl, rfl⟩ := field_at hmap i hi
    have hlt : i < 4 := by
      rcases Nat.lt_or_ge i 4 with h' | h'
      · exact h'
      · rw [Array.getElem?_eq_none (by omega)] at h1; cases h1
    have h2 := hfld i f h1
    rw [hc, List.getElem?_eq_getElem (by omega)] at h2
    exact ⟨_, h2⟩
  match cs, hlen with
  | [c0, c1, c2, c3], _ =>
    obtain ⟨y0, h0⟩ := fld 0 tZ 0 rfl T.cz
    obtain ⟨y1, h1⟩ := fld 1 tI 1 rfl T.s.x.ci
    obtain ⟨y2, h2⟩ := fld 2 tI 2 rfl T.s.x.ci
    obtain ⟨y3, h3⟩ := fld 3 tM 3 rfl T.s.cl
    obtain ⟨a, cap, zs, e0, hz⟩ := open_nums T.z T.s.x.i T.s.x.ci h0
    obtain ⟨m, e1, _⟩ := DataW.trod_int T.s.x.i h1
    obtain ⟨b, e2, _⟩ := DataW.trod_int T.s.x.i h2
    obtain ⟨ab, cb, ss, e3, hs⟩ := open_sts T.s h3
    simp at e0 e1 e2 e3
    subst e0 e1 e2 e3
    exact ⟨⟨zs, m, b, ss⟩, a, cap, ab, cb, rfl, hz, hs⟩
end
end Go.Proofs.YtheholgdfmipbaaDoor
