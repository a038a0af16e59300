/- Lists of numbers: the contracts of szIntS, toIntS, eqIntS and of spec.l02Ints. -/
import Derived.Test.YtjmclmbepnbeoaaRows
import Derived.Test.YtjmclmbepnbeoaaPlA
import Derived.WalkKit
import Derived.ProofKit
import Derived.OpenShut
import Derived.ShutString
import Derived.WalkSpells
import Derived.WalkLawsBesides
import Derived.Laws.MakeOwn
import Derived.Laws.Rows
import Derived.Deep.Slices
import Derived.Deep.QuietTactic
import Derived.BigQuiet
import Derived.Deep.RegionWith
namespace Go.Proofs.Ytjmclmbepnbeoaa
open Go.ChangeShapes Go.WideShapes Go.ChangeAt Go.RowKit

/-- What is left of L behind s. -/
def szR (s L : Nat) : Int := if s ≤ L then ((L - s : Nat) : Int) else -1
theorem szR_pos {s L : Nat} (h : s ≤ L) : szR s L = ((L - s : Nat) : Int) := if_pos h
theorem szR_neg {s L : Nat} (h : L < s) : szR s L = -1 := if_neg (by omega)
theorem maxLen_lt : maxLen ≤ 9223372036854775807 := by unfold maxLen; decide

theorem infoI : (Try.prog.info? 3).map (fun i => (i.zero, i.size, i.bytes)) = some (some (.int .i64 0), 1, 8) := by kernel_rfl
theorem info_out {P : Program} {e : TypeId} {z : Value} {s b : Nat} (h : (P.info? e).map (fun i => (i.zero, i.size, i.bytes)) = some (some z, s, b)) : ∃ i, P.info? e = some i ∧ i.zero = some z ∧ i.size = s ∧ i.bytes = b := by
  obtain ⟨i, hi, he⟩ := Option.map_eq_some_iff.1 h
  simp only [Prod.mk.injEq] at he
  exact ⟨i, hi, he.1, he.2.1, he.2.2⟩
/-- 'make([]T, n)': n elements of nought. -/
theorem make_n {P : Program} {t e : TypeId} {z : Value} {s b : Nat} (ht : P.underlying t = some (.slice e)) (hi : (P.info? e).map (fun i => (i.zero, i.size, i.bytes)) = some (some z, s, b)) (n : Nat) (hn : n ≤ 1048576) (hb : b ≤ 1000) (w : World) :
    (Instr.makeSlice t (.int .i64 (n : Int)) (.int .i64 (n : Int))).run P w = .ok (.slice (some ⟨w.heap.size, 0, none⟩) n n) (w.alloc (.cells (madeCells z.cells (n * s)) e)) := by
  obtain ⟨i, hi, hz, hs, hbb⟩ := info_out hi
  have hbn : b * n ≤ 1000 * 1048576 := Nat.mul_le_mul hb hn
  have hr := run_make (P := P) w t e i z ht hi hz .i64 .i64 n n (by omega) (Int.le_refl _) (by rw [hbb, ← Int.natCast_mul]; omega) (by omega)
  rw [hs] at hr
  simpa using hr
theorem below3 (w : World) (o1 o2 o3 : Obj) : Below w.heap.size w (((w.alloc o1).alloc o2).alloc o3) :=
  (((Below.refl _ _).alloc (Nat.le_refl _) _).alloc (by simp) _).alloc (by simp; omega) _
theorem three {w w1 : World} {o1 o2 o3 : Obj} (bel : Below (((w.alloc o1).alloc o2).alloc o3).heap.size (((w.alloc o1).alloc o2).alloc o3) w1) :
    w1.heap[w.heap.size]? = some o1 ∧ w1.heap[w.heap.size + 1]? = some o2 ∧ w1.heap[w.heap.size + 1 + 1]? = some o3 ∧ w.heap.size + 2 < w1.heap.size ∧ Below w.heap.size w w1 := by
  have e : (((w.alloc o1).alloc o2).alloc o3).heap = ((w.heap.push o1).push o2).push o3 := rfl
  have hz : (((w.alloc o1).alloc o2).alloc o3).heap.size = w.heap.size + 3 := by rw [e]; simp
  have hs := bel.size
  refine ⟨?_, ?_, ?_, by omega, (below3 w o1 o2 o3).trans (bel.mono (by omega))⟩
  · rw [bel.block _ (by omega), e, Array.getElem?_push, Array.getElem?_push, Array.getElem?_push]; simp; intro h; omega
  · rw [bel.block _ (by omega), e, Array.getElem?_push, Array.getElem?_push]; simp
  · rw [bel.block _ (by omega), e, Array.getElem?_push]; simp
theorem cells_of {w : World} {b : Nat} {cs : Array Value} {T : TypeId} (h : w.heap[b]? = some (.cells cs T (0, 0))) : (∀ o, w.cell? ⟨b, o, none⟩ = cs[o]?) ∧ ∀ o, w.frozen? ⟨b, o, none⟩ = false :=
  ⟨fun o => by simp [World.cell?, h], fun o => by simp [World.frozen?, h]⟩
theorem size_set (W : World) (a : Addr) (v : Value) : (W.setCell a v).heap.size = W.heap.size := by simp [World.setCell]

theorem below2 (w : World) (o1 o2 : Obj) : Below w.heap.size w ((w.alloc o1).alloc o2) := ((Below.refl _ _).alloc (Nat.le_refl _) _).alloc (by simp) _
/-- Two new blocks behind a call: what they hold. -/
theorem two {w w1 : World} {o1 o2 : Obj} (bel : Below ((w.alloc o1).alloc o2).heap.size ((w.alloc o1).alloc o2) w1) :
    w1.heap[w.heap.size]? = some o1 ∧ w1.heap[w.heap.size + 1]? = some o2 ∧ w.heap.size + 1 < w1.heap.size ∧ Below w.heap.size w w1 := by
  have e : ((w.alloc o1).alloc o2).heap = (w.heap.push o1).push o2 := rfl
  have hz : ((w.alloc o1).alloc o2).heap.size = w.heap.size + 2 := by rw [e]; simp
  have hs := bel.size
  refine ⟨?_, ?_, by omega, (below2 w o1 o2).trans (bel.mono (by omega))⟩
  · rw [bel.block _ (by omega), e, Array.getElem?_push, Array.getElem?_push]; simp
  · rw [bel.block _ (by omega), e, Array.getElem?_push]; simp
set_option maxHeartbeats 1000000 in
theorem szIntS_any (w : World) (a : Option Addr) (n cap L : Nat) (hn : n ≤ maxLen) (hL : L ≤ 1048576) :
    Calls Try.prog 23 #[.slice a n cap, .int .i64 L] w fun en w' => en = .returned (.int .i64 (szR n L)) ∧ w' = w := by
  have hm := maxLen_lt
  by_cases h0 : n ≤ L
  · rw [szR_pos h0]
    go_enter Try.func23, Try.ntmps23
    go_wp2
    go_ret
    exact ⟨ret_int (by omega), rfl⟩
  · rw [szR_neg (by omega)]
    go_enter Try.func23, Try.ntmps23
    go_wp2
    go_ret
    exact ⟨rfl, rfl⟩
/-- The first j numbers stand in the new block g. -/
def BuiltI (wr : World) (g : Nat) (zs : List Int) (j : Nat) : Prop :=
  ∃ cur, wr.heap[g]? = some (.cells cur 3 (0, 0)) ∧ cur.size = zs.length ∧ ∀ (i : Nat) (h : i < zs.length), i < j → cur[i]? = some (.int .i64 zs[i])
theorem BuiltI.step {wr : World} {g : Nat} {zs : List Int} {j : Nat} (hj : j < zs.length) (h : BuiltI wr g zs j) : BuiltI (wr.setCell ⟨g, j, none⟩ (.int .i64 zs[j])) g zs (j + 1) := by
  obtain ⟨cur, h1, h2, h3⟩ := h
  refine ⟨_, heap_setCell_same _ g _ _ _ _ h1, by simpa using h2, fun i hi hij => ?_⟩
  rw [Array.getElem?_setIfInBounds]
  by_cases he : j = i
  · subst he; rw [if_pos rfl, if_pos (by omega)]
  · rw [if_neg he]; exact h3 i hi (by omega)
theorem IntsIs.get {w : World} {B : Nat} {a : Option Addr} {zs : List Int} (h : IntsIs w B a zs) (i : Nat) (hi : i < zs.length) : ∃ b o, a = some ⟨b, o, none⟩ ∧ B ≤ b ∧ b < w.heap.size ∧ w.cell? ⟨b, o + i, none⟩ = some (.int .i64 zs[i]) := by
  rcases h.2 with h0 | ⟨b, o, ha, hB, hb, _, hc⟩
  · omega
  · exact ⟨b, o, ha, hB, hb, hc i hi⟩
theorem IntsIs.but {w w' : World} {B g : Nat} {a : Option Addr} {zs : List Int} (h : IntsIs w B a zs) (hg : g < B) (hb : But g w w') : IntsIs w' B a zs := by
  refine ⟨h.1, ?_⟩
  rcases h.2 with h0 | ⟨b, o, ha, hB, hbs, hp, hc⟩
  · exact Or.inl h0
  · exact Or.inr ⟨b, o, ha, hB, Nat.lt_of_lt_of_le hbs hb.size, fun h0 => let ⟨cs, T, h⟩ := hp h0; ⟨cs, T, (hb.block b hbs (by omega)).trans h⟩, fun i hi => (hb.cell hbs (by omega)).trans (hc i hi)⟩
theorem IntsIs.mono {w : World} {B B' : Nat} {a : Option Addr} {zs : List Int} (h : IntsIs w B a zs) (hB : B' ≤ B) : IntsIs w B' a zs := by
  refine ⟨h.1, ?_⟩
  rcases h.2 with h0 | ⟨b, o, ha, hb, hl, hp, hr⟩
  · exact Or.inl h0
  · exact Or.inr ⟨b, o, ha, Nat.le_trans hB hb, hl, fun h0 => hp (by omega), hr⟩
set_option maxHeartbeats 1000000 in
theorem toIntS_any (zs : List Int) (w : World) (B : Nat) (a : Option Addr) (cap : Nat) (h : IntsIs w B a zs) (hl : zs.length ≤ 1048576) :
    Calls Try.prog 29 #[.slice a zs.length cap] w fun en w' => ∃ g, en = .returned (.slice (some ⟨g, 0, none⟩) zs.length zs.length) ∧ IntsIs w' w.heap.size (some ⟨g, 0, none⟩) zs ∧ Below w.heap.size w w' := by
  have hl0 := h.1
  have hmk := make_n (P := Try.prog) Try.underlying22 infoI zs.length hl (by decide)
  have H := hideP h
  clear h
  go_enter Try.func29, Try.ntmps29
  go_wp2
  clear hmk
  go_loopw [4] (fun i wr => ∃ j : Nat, j ≤ zs.length ∧ i = .int .i64 j ∧ BuiltI wr w.heap.size zs j ∧ Below w.heap.size w wr) (fun i _ => zs.length - (intOf i).toNat)
  case atStart => exact ⟨0, Nat.zero_le _, rfl, ⟨_, by show (w.heap.push _)[w.heap.size]? = _; exact Array.getElem?_push_size, by simp [size_madeCells], fun _ _ h => absurd h (Nat.not_lt_zero _)⟩, (Below.refl _ _).alloc (Nat.le_refl _) _⟩
  case round =>
    obtain ⟨j, hj, rfl, hbt, bel⟩ := hrel
    by_cases hlt : j < zs.length
    · obtain ⟨b, o, rfl, _, hb, c0⟩ := (H.out.stays bel).get j hlt
      obtain ⟨z, hz⟩ : ∃ z, zs[j] = z := ⟨_, rfl⟩
      rw [hz] at c0
      obtain ⟨cur, h1, h2, h3⟩ := hbt
      have hd : ∃ v, wr.cell? ⟨w.heap.size, j, none⟩ = some v := ⟨cur[j], by simp [World.cell?, h1, show j < cur.size by omega]⟩
      obtain ⟨d, hd⟩ := hd
      have hf : wr.frozen? ⟨w.heap.size, j, none⟩ = false := by simp [World.frozen?, h1]
      have HT : Hid (BuiltI wr w.heap.size zs j) := ⟨cur, h1, h2, h3⟩
      have HZ := hideP hz
      have HB := hideP bel
      clear h1 h2 h3 hz bel
      go_wp2
      go_roundw
      case rel => exact ⟨j + 1, by omega, by go_num, by have := HT.out.step hlt; rw [HZ.out] at this; exact this, HB.out.setCell (Nat.le_refl _) _⟩
      case measure => simp [intOf]; omega
    · have hjn : j = zs.length := by omega
      subst hjn
      go_wp2
      go_ret
      obtain ⟨cur, h1, h2, h3⟩ := hbt
      exact ⟨_, rfl, ⟨hl0, Or.inr ⟨_, 0, rfl, Nat.le_refl _, (Array.getElem?_eq_some_iff.1 h1).1, fun _ => ⟨cur, _, h1⟩, fun i hi => by simp only [World.cell?, h1, Nat.zero_add]; exact h3 i hi hi⟩⟩, bel⟩
set_option maxHeartbeats 1000000 in
theorem eqIntS_same (zs : List Int) (w : World) (B1 B2 : Nat) (a1 a2 : Option Addr) (c1 c2 : Nat) (h1 : IntsIs w B1 a1 zs) (h2 : IntsIs w B2 a2 zs) :
    Calls Try.prog 34 #[.slice a1 zs.length c1, .slice a2 zs.length c2] w fun en w' => en = .returned (.bool true) ∧ Below w.heap.size w w' := by
  have hm := maxLen_lt
  have hl := h1.1
  have H1 := hideP h1
  have H2 := hideP h2
  clear h1 h2
  go_enter Try.func34, Try.ntmps34
  go_wp2
  go_loopw [5] (fun i wr => ∃ j : Nat, j ≤ zs.length ∧ i = .int .i64 j ∧ Below w.heap.size w wr) (fun i _ => zs.length - (intOf i).toNat)
  case atStart => exact ⟨0, Nat.zero_le _, rfl, Below.refl _ _⟩
  case round =>
    obtain ⟨j, hj, rfl, bel⟩ := hrel
    by_cases hlt : j < zs.length
    · obtain ⟨b, o, rfl, _, hb, p0⟩ := (H1.out.stays bel).get j hlt
      obtain ⟨b', o', rfl, _, hb', q0⟩ := (H2.out.stays bel).get j hlt
      obtain ⟨z, hz⟩ : ∃ z, zs[j] = z := ⟨_, rfl⟩
      rw [hz] at p0 q0
      have HB := hideP bel
      clear hz bel
      go_wp2
      go_region
      all_goals
        go_wp2
        go_roundw
        case rel => exact ⟨j + 1, by omega, by go_num, by first | exact HB.out | exact HB.out.drew | exact HB.out.drew.drew⟩
        case measure => simp [intOf]; omega
    · go_wp2
      go_ret
      exact ⟨rfl, bel⟩

/-- Two lists, told by their elements one by one. -/
def IntsGet (w : World) (a : Option Addr) (zs : List Int) : Prop := zs.length ≤ maxLen ∧ (zs.length = 0 ∨ ∃ b o, a = some ⟨b, o, none⟩ ∧ ∀ (i : Nat) (h : i < zs.length), w.cell? ⟨b, o + i, none⟩ = some (.int .i64 zs[i]))
theorem IntsIs.sees {w : World} {B : Nat} {a : Option Addr} {zs : List Int} (h : IntsIs w B a zs) : IntsGet w a zs := by
  refine ⟨h.1, ?_⟩
  rcases h.2 with h0 | ⟨b, o, ha, _, _, _, hc⟩
  · exact Or.inl h0
  · exact Or.inr ⟨b, o, ha, hc⟩
theorem IntsGet.take {w : World} {a : Option Addr} {zs : List Int} (h : IntsGet w a zs) (n : Nat) (hn : n ≤ zs.length) : IntsGet w a (zs.take n) := by
  have hl : (zs.take n).length = n := by rw [List.length_take]; omega
  refine ⟨by have := h.1; omega, ?_⟩
  rcases h.2 with h0 | ⟨b, o, ha, hc⟩
  · exact Or.inl (by omega)
  · refine Or.inr ⟨b, o, ha, fun i hi => ?_⟩
    rw [List.getElem_take]; exact hc i (by omega)
theorem IntsGet.cellsame {w w' : World} {a : Option Addr} {zs : List Int} (h : IntsGet w a zs) (hc : ∀ p, w'.cell? p = w.cell? p) : IntsGet w' a zs := by
  refine ⟨h.1, ?_⟩
  rcases h.2 with h0 | ⟨b, o, ha, hg⟩
  · exact Or.inl h0
  · exact Or.inr ⟨b, o, ha, fun i hi => (hc _).trans (hg i hi)⟩
theorem IntsGet.get {w : World} {a : Option Addr} {zs : List Int} (h : IntsGet w a zs) (i : Nat) (hi : i < zs.length) : ∃ b o, a = some ⟨b, o, none⟩ ∧ w.cell? ⟨b, o + i, none⟩ = some (.int .i64 zs[i]) := by
  rcases h.2 with h0 | ⟨b, o, ha, hc⟩
  · omega
  · exact ⟨b, o, ha, hc i hi⟩
theorem beq_at {xs ys : List Int} {j : Nat} (h : j < xs.length) (h' : j < ys.length) (hne : xs[j] ≠ ys[j]) : (xs == ys) = false := by
  rw [beq_eq_false_iff_ne]; rintro rfl; exact hne rfl
theorem beq_len {xs ys : List Int} (h : xs.length ≠ ys.length) : (xs == ys) = false := by
  rw [beq_eq_false_iff_ne]; rintro rfl; exact h rfl
theorem beq_same {xs ys : List Int} (h : xs.length = ys.length) (hs : ∀ i (hi : i < xs.length) (hi' : i < ys.length), xs[i] = ys[i]) : (xs == ys) = true := by
  rw [beq_iff_eq]; exact List.ext_getElem h hs

end Go.Proofs.Ytjmclmbepnbeoaa

/- Slices of structs in general: each element is so many cells; how such a slice stays, is read, is copied into a new block. -/
namespace Go.Proofs.Ytjmclmbepnbeoaa
open Go.ChangeShapes Go.WideShapes Go.ChangeAt Go.RowKit

def I64 (n : Int) : Prop := -9223372036854775808 ≤ n ∧ n ≤ 9223372036854775807
theorem i64_of {n : Int} (h : (Lit.int .i64 n).wf = true) : I64 n := by
  have e1 : IntKind.i64.min = -9223372036854775808 := rfl
  have e2 : IntKind.i64.max = 9223372036854775807 := rfl
  simp only [Lit.wf, e1, e2] at h
  simpa [I64] using h
/-- The slice holds these things, each of sz cells. -/
def SlIs {α : Type} (Is : World → Nat → Array Value → α → Prop) (sz : Nat) (w : World) (B : Nat) (a : Option Addr) (xs : List α) : Prop :=
  xs.length ≤ maxLen ∧ ∃ vs, RowAt w B a xs.length sz vs ∧ ∀ (i : Nat) (h : i < xs.length), Is w B (vs i) xs[i]
/-- What is said of a thing's cells stays when memory grows, when a block below is written, and at a lower bound. -/
structure Keeps {α : Type} (Is : World → Nat → Array Value → α → Prop) : Prop where
  stays : ∀ {w w' : World} {B : Nat} {v : Array Value} {x : α}, Is w B v x → Below w.heap.size w w' → Is w' B v x
  but : ∀ {w w' : World} {B g : Nat} {v : Array Value} {x : α}, Is w B v x → g < B → But g w w' → Is w' B v x
  mono : ∀ {w : World} {B B' : Nat} {v : Array Value} {x : α}, Is w B v x → B' ≤ B → Is w B' v x
section
variable {α : Type} {Is : World → Nat → Array Value → α → Prop} {sz : Nat}
theorem SlIs.stays (K : Keeps Is) {w w' : World} {B : Nat} {a : Option Addr} {xs : List α} (h : SlIs Is sz w B a xs) (bel : Below w.heap.size w w') : SlIs Is sz w' B a xs :=
  let ⟨hl, vs, hr, hx⟩ := h
  ⟨hl, vs, hr.below bel, fun i hi => K.stays (hx i hi) bel⟩
theorem SlIs.but (K : Keeps Is) {w w' : World} {B g : Nat} {a : Option Addr} {xs : List α} (h : SlIs Is sz w B a xs) (hg : g < B) (hb : But g w w') : SlIs Is sz w' B a xs :=
  let ⟨hl, vs, hr, hx⟩ := h
  ⟨hl, vs, hr.but hg hb, fun i hi => K.but (hx i hi) hg hb⟩
theorem SlIs.mono (K : Keeps Is) {w : World} {B B' : Nat} {a : Option Addr} {xs : List α} (h : SlIs Is sz w B a xs) (hB : B' ≤ B) : SlIs Is sz w B' a xs :=
  let ⟨hl, vs, hr, hx⟩ := h
  ⟨hl, vs, hr.mono hB, fun i hi => K.mono (hx i hi) hB⟩
/-- Element i: where it lies, its cells, and that they are it. -/
theorem SlIs.at {w : World} {B : Nat} {a : Option Addr} {xs : List α} (h : SlIs Is sz w B a xs) (i : Nat) (hi : i < xs.length) :
    ∃ b o v, a = some ⟨b, o, none⟩ ∧ B ≤ b ∧ b < w.heap.size ∧ v.size = sz ∧ (∀ j, j < sz → w.cell? ⟨b, o + i * sz + j, none⟩ = v[j]?) ∧ Is w B v xs[i] := by
  obtain ⟨_, vs, hr, hx⟩ := h
  rcases hr with h0 | ⟨b, o, ha, hB, hb, _, hc⟩
  · omega
  · exact ⟨b, o, vs i, ha, hB, hb, (hc i hi).1, (hc i hi).2, hx i hi⟩

/-- How great a list is, as the law counts it. -/
def slSum (f : α → Nat) : List α → Nat
  | [] => 0
  | e :: l => f e + slSum f l
def slSz (f : α → Nat) (l : List α) : Nat := l.length + slSum f l
theorem slSum_append (f : α → Nat) : ∀ (l m : List α), slSum f (l ++ m) = slSum f l + slSum f m
  | [], m => by simp [slSum]
  | e :: l, m => by simp [slSum, slSum_append f l m]; omega
theorem slSum_take (f : α → Nat) (l : List α) (i : Nat) (h : i < l.length) : slSum f (l.take (i + 1)) = slSum f (l.take i) + f l[i] := by
  rw [List.take_succ_eq_append_getElem h, slSum_append]; simp [slSum]
theorem slSum_le (f : α → Nat) (l : List α) (i : Nat) : slSum f (l.take i) ≤ slSum f l := by
  conv => rhs; rw [← List.take_append_drop i l, slSum_append]
  omega
theorem slSum_mem (f : α → Nat) {l : List α} {e : α} (h : e ∈ l) : f e ≤ slSum f l := by
  obtain ⟨a, b, rfl⟩ := List.append_of_mem h
  rw [slSum_append]; simp [slSum]; omega

/-- Values stored one behind another into block g from p on. -/
def sets (g : Nat) : World → Nat → List Value → World
  | w, _, [] => w
  | w, p, v :: l => sets g (w.setCell ⟨g, p, none⟩ v) (p + 1) l
def setsA : Array Value → Nat → List Value → Array Value
  | c, _, [] => c
  | c, p, v :: l => setsA (c.setIfInBounds p v) (p + 1) l
theorem setsA_size : ∀ (l : List Value) (c : Array Value) (p : Nat), (setsA c p l).size = c.size
  | [], _, _ => rfl
  | v :: l, c, p => by rw [setsA, setsA_size l]; simp
theorem setsA_out : ∀ (l : List Value) (c : Array Value) (p i : Nat), (i < p ∨ p + l.length ≤ i) → (setsA c p l)[i]? = c[i]?
  | [], _, _, _, _ => rfl
  | v :: l, c, p, i, h => by
    rw [setsA, setsA_out l _ _ _ (by simp at h; omega), Array.getElem?_setIfInBounds, if_neg (by simp at h; omega)]
theorem setsA_in : ∀ (l : List Value) (c : Array Value) (p r : Nat), p + l.length ≤ c.size → r < l.length → (setsA c p l)[p + r]? = l[r]?
  | [], _, _, _, _, h => absurd h (Nat.not_lt_zero _)
  | v :: l, c, p, 0, h, _ => by
    rw [setsA, setsA_out l _ _ _ (by omega), Nat.add_zero, Array.getElem?_setIfInBounds, if_pos rfl, if_pos (by simp at h; omega)]; rfl
  | v :: l, c, p, r + 1, h, hr => by
    have := setsA_in l (c.setIfInBounds p v) (p + 1) r (by simp at h ⊢; omega) (by simpa using hr)
    rw [setsA, show p + (r + 1) = p + 1 + r by omega, this]; simp
theorem sets_heap {g : Nat} {T : TypeId} : ∀ (l : List Value) (w : World) (p : Nat) (c : Array Value), w.heap[g]? = some (.cells c T (0, 0)) → (sets g w p l).heap[g]? = some (.cells (setsA c p l) T (0, 0))
  | [], _, _, _, h => h
  | v :: l, w, p, c, h => sets_heap l _ _ _ (heap_setCell_same w g p c T v h)
theorem sets_but {g : Nat} {w0 : World} : ∀ (l : List Value) (w : World) (p : Nat), But g w0 w → But g w0 (sets g w p l)
  | [], _, _, h => h
  | v :: l, _, p, h => sets_but l _ (p + 1) (h.set p v)
theorem sets_below {g B : Nat} {w0 : World} (hg : B ≤ g) : ∀ (l : List Value) (w : World) (p : Nat), Below B w0 w → Below B w0 (sets g w p l)
  | [], _, _, h => h
  | v :: l, _, p, h => sets_below hg l _ (p + 1) (h.setCell (p := ⟨g, p, none⟩) hg v)

/-- The first j of the list's elements stand in the new block g. -/
def Built (Is : World → Nat → Array Value → α → Prop) (sz : Nat) (T : TypeId) (wr : World) (g : Nat) (es : List α) (j : Nat) : Prop :=
  ∃ cur, wr.heap[g]? = some (.cells cur T (0, 0)) ∧ cur.size = es.length * sz ∧ ∀ (i : Nat) (h : i < es.length), i < j → ∃ v, v.size = sz ∧ (∀ r, r < sz → cur[i * sz + r]? = v[r]?) ∧ Is wr (g + 1) v es[i]
theorem Built.lt {T : TypeId} {wr : World} {g : Nat} {es : List α} {j : Nat} (h : Built Is sz T wr g es j) : g < wr.heap.size := by
  obtain ⟨cur, h, _⟩ := h; exact (Array.getElem?_eq_some_iff.1 h).1
theorem Built.on (K : Keeps Is) {T : TypeId} {wr w1 : World} {g : Nat} {es : List α} {j : Nat} (h : Built Is sz T wr g es j) (bel : Below wr.heap.size wr w1) : Built Is sz T w1 g es j := by
  have hg := h.lt
  obtain ⟨cur, h1, h2, h3⟩ := h
  exact ⟨cur, (bel.block g hg).trans h1, h2, fun i hi hj => let ⟨v, a, b, c⟩ := h3 i hi hj; ⟨v, a, b, K.stays c bel⟩⟩
/-- The cell and mark facts that a store into block g needs. -/
theorem Built.cells {T : TypeId} {wr : World} {g : Nat} {es : List α} {j : Nat} (h : Built Is sz T wr g es j) :
    (∀ o, o < es.length * sz → ∃ v, wr.cell? ⟨g, o, none⟩ = some v) ∧ ∀ o, wr.frozen? ⟨g, o, none⟩ = false := by
  obtain ⟨cur, h1, h2, _⟩ := h
  exact ⟨fun o ho => ⟨cur[o], by simp [World.cell?, h1, show o < cur.size by omega]⟩, fun o => by simp [World.frozen?, h1]⟩
theorem mul_step (j n sz : Nat) (h : j < n) : j * sz + sz ≤ n * sz := by
  have := Nat.mul_le_mul_right sz (show j + 1 ≤ n from h)
  rw [Nat.succ_mul] at this; exact this
theorem Built.step (K : Keeps Is) {w1 : World} {T : TypeId} {g : Nat} {es : List α} {j : Nat} (hj : j < es.length) (h : Built Is sz T w1 g es j) {l : List Value} (hl : l.length = sz) (hx : Is w1 (g + 1) l.toArray es[j]) :
    Built Is sz T (sets g w1 (j * sz) l) g es (j + 1) := by
  obtain ⟨cur, h1, h2, h3⟩ := h
  have hb : But g w1 (sets g w1 (j * sz) l) := sets_but l _ _ (But.refl g w1)
  have hm := mul_step j es.length sz hj
  refine ⟨_, sets_heap l _ _ _ h1, (setsA_size l _ _).trans h2, fun i hi hij => ?_⟩
  by_cases he : i = j
  · subst he
    exact ⟨_, by simpa using hl, fun r hr => by rw [setsA_in l _ _ _ (by omega) (by omega)]; simp, K.but hx (by omega) hb⟩
  · obtain ⟨v, a, b, c⟩ := h3 i hi (by omega)
    have hm2 := mul_step i j sz (by omega)
    exact ⟨v, a, fun r hr => (setsA_out l _ _ _ (Or.inl (by omega))).trans (b r hr), K.but c (by omega) hb⟩
theorem Built.row {T : TypeId} {wr : World} {g : Nat} {es : List α} (h : Built Is sz T wr g es es.length) :
    ∃ vs, RowAt wr g (some ⟨g, 0, none⟩) es.length sz vs ∧ ∀ (i : Nat) (hi : i < es.length), Is wr (g + 1) (vs i) es[i] := by
  have hg := h.lt
  obtain ⟨cur, h1, h2, h3⟩ := h
  have each : ∀ i, i < es.length → ∃ v : Array Value, (v.size = sz ∧ ∀ r, r < sz → cur[i * sz + r]? = v[r]?) ∧ ∀ hi : i < es.length, Is wr (g + 1) v es[i] := fun i hi => let ⟨v, a, b, c⟩ := h3 i hi hi; ⟨v, ⟨a, b⟩, fun _ => c⟩
  obtain ⟨vs, hvs⟩ := Deep.choose_lt (α := Array Value) each
  refine ⟨vs, Or.inr ⟨g, 0, rfl, Nat.le_refl _, hg, fun _ => ⟨cur, T, h1⟩, fun i hi => ⟨(hvs i hi).1.1, fun r hr => ?_⟩⟩, fun i hi => (hvs i hi).2 hi⟩
  rw [← (hvs i hi).1.2 r hr]
  simp [World.cell?, h1]
theorem Built.is (K : Keeps Is) {T : TypeId} {wr : World} {g B : Nat} {es : List α} (h : Built Is sz T wr g es es.length) (hl : es.length ≤ maxLen) (hB : B ≤ g) : SlIs Is sz wr B (some ⟨g, 0, none⟩) es :=
  let ⟨vs, hr, hx⟩ := h.row
  ⟨hl, vs, hr.mono hB, fun i hi => K.mono (hx i hi) (by omega)⟩
theorem built_start (Is : World → Nat → Array Value → α → Prop) (w : World) (z : Array Value) (sz : Nat) (T : TypeId) (es : List α) : Built Is sz T (w.alloc (.cells (madeCells z (es.length * sz)) T)) w.heap.size es 0 :=
  ⟨_, by show (w.heap.push _)[w.heap.size]? = _; exact Array.getElem?_push_size, size_madeCells _ _, fun _ _ h => absurd h (Nat.not_lt_zero _)⟩
end
end Go.Proofs.Ytjmclmbepnbeoaa

/- An Instr as its cells lie in memory, and slices of these (written by wip/mkshape.py). -/
namespace Go.Proofs.Ytjmclmbepnbeoaa
open Go.ChangeShapes Go.WideShapes Go.ChangeAt Go.RowKit
structure Ins where
  op : Int
  d : Int
  a : Int
  b : Int
  c : Int
  n : Int
  t : ByteArray
instance : Inhabited Ins := ⟨⟨0, 0, 0, 0, 0, 0, ByteArray.empty⟩⟩
/-- Its numbers are of 64 bits. -/
def Ins.wf (x : Ins) : Prop := I64 x.op ∧ I64 x.d ∧ I64 x.a ∧ I64 x.b ∧ I64 x.c ∧ I64 x.n
def InsIs (_w : World) (_B : Nat) (v : Array Value) (x : Ins) : Prop := v = #[.int .i64 x.op, .int .i64 x.d, .int .i64 x.a, .int .i64 x.b, .int .i64 x.c, .int .i64 x.n, .string x.t] ∧ x.wf ∧ x.t.size ≤ maxLen
theorem InsKeeps : Keeps InsIs where
  stays := fun h _ => h
  but := fun h _ _ => h
  mono := fun h _ => h
/-- How great it is, as the law counts it. -/
def Ins.sz (x : Ins) : Nat := x.t.size
/-- Element i of a slice of these: where it lies, its cells, what it is. -/
theorem Ins_get {w : World} {B : Nat} {a' : Option Addr} {xs : List Ins} (h : SlIs InsIs 7 w B a' xs) (i : Nat) (hi : i < xs.length) :
    ∃ b' o' op d a b c n t, a' = some ⟨b', o', none⟩ ∧ B ≤ b' ∧ b' < w.heap.size ∧ xs[i] = ⟨op, d, a, b, c, n, t⟩ ∧ w.cell? ⟨b', o' + i * 7, none⟩ = some (.int .i64 op) ∧ w.cell? ⟨b', o' + i * 7 + 1, none⟩ = some (.int .i64 d) ∧ w.cell? ⟨b', o' + i * 7 + 2, none⟩ = some (.int .i64 a) ∧ w.cell? ⟨b', o' + i * 7 + 3, none⟩ = some (.int .i64 b) ∧ w.cell? ⟨b', o' + i * 7 + 4, none⟩ = some (.int .i64 c) ∧ w.cell? ⟨b', o' + i * 7 + 5, none⟩ = some (.int .i64 n) ∧ w.cell? ⟨b', o' + i * 7 + 6, none⟩ = some (.string t) ∧ InsIs w B #[.int .i64 op, .int .i64 d, .int .i64 a, .int .i64 b, .int .i64 c, .int .i64 n, .string t] ⟨op, d, a, b, c, n, t⟩ := by
  obtain ⟨b', o', v, ha, hB, hb, _, hc, hx⟩ := h.at i hi
  have hx0 := hx
  obtain ⟨e, ok, st⟩ := hx0
  obtain ⟨x, hxe⟩ : ∃ x, xs[i] = x := ⟨_, rfl⟩
  rw [hxe] at hx e
  subst e
  obtain ⟨op, d, a, b, c, n, t⟩ := x
  exact ⟨b', o', op, d, a, b, c, n, t, ha, hB, hb, hxe, hc 0 (by omega), hc 1 (by omega), hc 2 (by omega), hc 3 (by omega), hc 4 (by omega), hc 5 (by omega), hc 6 (by omega), hx⟩
end Go.Proofs.Ytjmclmbepnbeoaa

/- A Block as its cells lie in memory, and slices of these (written by wip/mkshape.py). -/
namespace Go.Proofs.Ytjmclmbepnbeoaa
open Go.ChangeShapes Go.WideShapes Go.ChangeAt Go.RowKit
structure Blk where
  code : List Ins
  jump : Int
  a : Int
  to : Int
  els : Int
instance : Inhabited Blk := ⟨⟨[], 0, 0, 0, 0⟩⟩
/-- Its numbers are of 64 bits. -/
def Blk.wf (x : Blk) : Prop := I64 x.jump ∧ I64 x.a ∧ I64 x.to ∧ I64 x.els
def BlkIs (w : World) (B : Nat) (v : Array Value) (x : Blk) : Prop := ∃ (ucode : Option Addr) (ccode : Nat), v = #[.slice ucode x.code.length ccode, .int .i64 x.jump, .int .i64 x.a, .int .i64 x.to, .int .i64 x.els] ∧ x.wf ∧ SlIs InsIs 7 w B ucode x.code
theorem BlkKeeps : Keeps BlkIs where
  stays := fun ⟨ucode, ccode, e, ok, hcode⟩ bel => ⟨ucode, ccode, e, ok, (hcode.stays InsKeeps bel)⟩
  but := fun ⟨ucode, ccode, e, ok, hcode⟩ hg hb => ⟨ucode, ccode, e, ok, (hcode.but InsKeeps hg hb)⟩
  mono := fun ⟨ucode, ccode, e, ok, hcode⟩ hB => ⟨ucode, ccode, e, ok, (hcode.mono InsKeeps hB)⟩
/-- How great it is, as the law counts it. -/
def Blk.sz (x : Blk) : Nat := (slSz Ins.sz x.code)
/-- Element i of a slice of these: where it lies, its cells, what it is. -/
theorem Blk_get {w : World} {B : Nat} {a' : Option Addr} {xs : List Blk} (h : SlIs BlkIs 5 w B a' xs) (i : Nat) (hi : i < xs.length) :
    ∃ b' o' code jump a to els ucode ccode, a' = some ⟨b', o', none⟩ ∧ B ≤ b' ∧ b' < w.heap.size ∧ xs[i] = ⟨code, jump, a, to, els⟩ ∧ w.cell? ⟨b', o' + i * 5, none⟩ = some (.slice ucode code.length ccode) ∧ w.cell? ⟨b', o' + i * 5 + 1, none⟩ = some (.int .i64 jump) ∧ w.cell? ⟨b', o' + i * 5 + 2, none⟩ = some (.int .i64 a) ∧ w.cell? ⟨b', o' + i * 5 + 3, none⟩ = some (.int .i64 to) ∧ w.cell? ⟨b', o' + i * 5 + 4, none⟩ = some (.int .i64 els) ∧ BlkIs w B #[.slice ucode code.length ccode, .int .i64 jump, .int .i64 a, .int .i64 to, .int .i64 els] ⟨code, jump, a, to, els⟩ := by
  obtain ⟨b', o', v, ha, hB, hb, _, hc, hx⟩ := h.at i hi
  have hx0 := hx
  obtain ⟨ucode, ccode, e, ok, hcode⟩ := hx0
  obtain ⟨x, hxe⟩ : ∃ x, xs[i] = x := ⟨_, rfl⟩
  rw [hxe] at hx e
  subst e
  obtain ⟨code, jump, a, to, els⟩ := x
  exact ⟨b', o', code, jump, a, to, els, ucode, ccode, ha, hB, hb, hxe, hc 0 (by omega), hc 1 (by omega), hc 2 (by omega), hc 3 (by omega), hc 4 (by omega), hx⟩
end Go.Proofs.Ytjmclmbepnbeoaa

/- A Graph as its cells lie in memory, and slices of these (written by wip/mkshape.py). -/
namespace Go.Proofs.Ytjmclmbepnbeoaa
open Go.ChangeShapes Go.WideShapes Go.ChangeAt Go.RowKit
structure Gr where
  sizes : List Int
  params : Int
  vars : Int
  slots : Int
  blocks : List Blk
instance : Inhabited Gr := ⟨⟨[], 0, 0, 0, []⟩⟩
/-- Its numbers are of 64 bits. -/
def Gr.wf (x : Gr) : Prop := I64 x.params ∧ I64 x.vars ∧ I64 x.slots
def GrIs (w : World) (B : Nat) (v : Array Value) (x : Gr) : Prop := ∃ (usizes : Option Addr) (csizes : Nat) (ublocks : Option Addr) (cblocks : Nat), v = #[.slice usizes x.sizes.length csizes, .int .i64 x.params, .int .i64 x.vars, .int .i64 x.slots, .slice ublocks x.blocks.length cblocks] ∧ x.wf ∧ IntsIs w B usizes x.sizes ∧ SlIs BlkIs 5 w B ublocks x.blocks
theorem GrKeeps : Keeps GrIs where
  stays := fun ⟨usizes, csizes, ublocks, cblocks, e, ok, hsizes, hblocks⟩ bel => ⟨usizes, csizes, ublocks, cblocks, e, ok, (hsizes.stays bel), (hblocks.stays BlkKeeps bel)⟩
  but := fun ⟨usizes, csizes, ublocks, cblocks, e, ok, hsizes, hblocks⟩ hg hb => ⟨usizes, csizes, ublocks, cblocks, e, ok, (hsizes.but hg hb), (hblocks.but BlkKeeps hg hb)⟩
  mono := fun ⟨usizes, csizes, ublocks, cblocks, e, ok, hsizes, hblocks⟩ hB => ⟨usizes, csizes, ublocks, cblocks, e, ok, (hsizes.mono hB), (hblocks.mono BlkKeeps hB)⟩
/-- How great it is, as the law counts it. -/
def Gr.sz (x : Gr) : Nat := x.sizes.length + (slSz Blk.sz x.blocks)
/-- Element i of a slice of these: where it lies, its cells, what it is. -/
theorem Gr_get {w : World} {B : Nat} {a' : Option Addr} {xs : List Gr} (h : SlIs GrIs 5 w B a' xs) (i : Nat) (hi : i < xs.length) :
    ∃ b' o' sizes params vars slots blocks usizes csizes ublocks cblocks, a' = some ⟨b', o', none⟩ ∧ B ≤ b' ∧ b' < w.heap.size ∧ xs[i] = ⟨sizes, params, vars, slots, blocks⟩ ∧ w.cell? ⟨b', o' + i * 5, none⟩ = some (.slice usizes sizes.length csizes) ∧ w.cell? ⟨b', o' + i * 5 + 1, none⟩ = some (.int .i64 params) ∧ w.cell? ⟨b', o' + i * 5 + 2, none⟩ = some (.int .i64 vars) ∧ w.cell? ⟨b', o' + i * 5 + 3, none⟩ = some (.int .i64 slots) ∧ w.cell? ⟨b', o' + i * 5 + 4, none⟩ = some (.slice ublocks blocks.length cblocks) ∧ GrIs w B #[.slice usizes sizes.length csizes, .int .i64 params, .int .i64 vars, .int .i64 slots, .slice ublocks blocks.length cblocks] ⟨sizes, params, vars, slots, blocks⟩ := by
  obtain ⟨b', o', v, ha, hB, hb, _, hc, hx⟩ := h.at i hi
  have hx0 := hx
  obtain ⟨usizes, csizes, ublocks, cblocks, e, ok, hsizes, hblocks⟩ := hx0
  obtain ⟨x, hxe⟩ : ∃ x, xs[i] = x := ⟨_, rfl⟩
  rw [hxe] at hx e
  subst e
  obtain ⟨sizes, params, vars, slots, blocks⟩ := x
  exact ⟨b', o', sizes, params, vars, slots, blocks, usizes, csizes, ublocks, cblocks, ha, hB, hb, hxe, hc 0 (by omega), hc 1 (by omega), hc 2 (by omega), hc 3 (by omega), hc 4 (by omega), hx⟩
end Go.Proofs.Ytjmclmbepnbeoaa

/- The first blocks are done. -/
namespace Go.Proofs.Ytjmclmbepnbeoaa
open Go.ChangeShapes Go.WideShapes Go.ChangeAt Go.RowKit
/-- The first j blocks are done. -/
def midH (h : Blk → Blk) (bs : List Blk) : Nat → List Blk
  | 0 => bs
  | j + 1 => (midH h bs j).set j (h (bs[j]!))
section
variable (h : Blk → Blk) (bs : List Blk)
theorem midH_len : ∀ j, (midH h bs j).length = bs.length
  | 0 => rfl
  | j + 1 => by simp [midH, midH_len j]
theorem midH_ge : ∀ j k, j ≤ k → (hk : k < bs.length) → (midH h bs j)[k]'(by rw [midH_len]; exact hk) = bs[k]
  | 0, _, _, _ => rfl
  | j + 1, k, hk, hl => by
    simp only [midH]
    rw [List.getElem_set_ne (by omega)]
    exact midH_ge j k (by omega) hl
theorem midH_lt : ∀ j k, k < j → (hk : k < bs.length) → (midH h bs j)[k]'(by rw [midH_len]; exact hk) = h bs[k]
  | 0, _, hk, _ => absurd hk (Nat.not_lt_zero _)
  | j + 1, k, hk, hl => by
    simp only [midH]
    by_cases e : j = k
    · subst e
      rw [List.getElem_set_self, getElem!_pos bs j hl]
    · rw [List.getElem_set_ne e]
      exact midH_lt j k (by omega) hl
theorem midH_all : midH h bs bs.length = bs.map h := by
  apply List.ext_getElem (by simp [midH_len])
  intro k h1 h2
  rw [midH_lt h bs bs.length k (by rw [midH_len] at h1; exact h1) (by rw [midH_len] at h1; exact h1)]
  simp
end
end Go.Proofs.Ytjmclmbepnbeoaa
