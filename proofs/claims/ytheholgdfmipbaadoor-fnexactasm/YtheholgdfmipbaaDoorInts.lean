/- Lists of numbers: the contracts of szIntS, toIntS, eqIntS and of spec.l02Ints. -/
import Derived.Test.YtheholgdfmipbaaDoorRows
import Derived.Test.YtheholgdfmipbaaDoorPlain
import Derived.Test.YtheholgdfmipbaaDoorTree
import Derived.WalkKit
import Derived.ProofKit
import Derived.OpenShut
import Derived.ShutString
import Derived.WalkSpells
import Derived.WalkLawsBesides
import Derived.Laws.MakeOwn
import Derived.Laws.Rows
import Derived.Deep.Slices
import Derived.Deep.QuietTactic
import Derived.BigQuiet
import Derived.Deep.RegionWith
namespace Go.Proofs.YtheholgdfmipbaaDoor
open Go.ChangeShapes Go.WideShapes Go.ChangeAt Go.RowKit

/-- What is left of L behind s. -/
def szR (s L : Nat) : Int := if s ≤ L then ((L - s : Nat) : Int) else -1
theorem szR_pos {s L : Nat} (h : s ≤ L) : szR s L = ((L - s : Nat) : Int) := if_pos h
theorem szR_neg {s L : Nat} (h : L < s) : szR s L = -1 := if_neg (by omega)
theorem maxLen_lt : maxLen ≤ 9223372036854775807 := by unfold maxLen; decide

theorem infoI : (Tryd.prog.info? 3).map (fun i => (i.zero, i.size, i.bytes)) = some (some (.int .i64 0), 1, 8) := by kernel_rfl
theorem info_out {P : Program} {e : TypeId} {z : Value} {s b : Nat} (h : (P.info? e).map (fun i => (i.zero, i.size, i.bytes)) = some (some z, s, b)) : ∃ i, P.info? e = some i ∧ i.zero = some z ∧ i.size = s ∧ i.bytes = b := by
  obtain ⟨i, hi, he⟩ := Option.map_eq_some_iff.1 h
  simp only [Prod.mk.injEq] at he
  exact ⟨i, hi, he.1, he.2.1, he.2.2⟩
/-- 'make([]T, n)': n elements of nought. -/
theorem make_n {P : Program} {t e : TypeId} {z : Value} {s b : Nat} (ht : P.underlying t = some (.slice e)) (hi : (P.info? e).map (fun i => (i.zero, i.size, i.bytes)) = some (some z, s, b)) (n : Nat) (hn : n ≤ 1048576) (hb : b ≤ 1000) (w : World) :
    (Instr.makeSlice t (.int .i64 (n : Int)) (.int .i64 (n : Int))).run P w = .ok (.slice (some ⟨w.heap.size, 0, none⟩) n n) (w.alloc (.cells (madeCells z.cells (n * s)) e)) := by
  obtain ⟨i, hi, hz, hs, hbb⟩ := info_out hi
  have hbn : b * n ≤ 1000 * 1048576 := Nat.mul_le_mul hb hn
  have hr := run_make (P := P) w t e i z ht hi hz .i64 .i64 n n (by omega) (Int.le_refl _) (by rw [hbb, ← Int.natCast_mul]; omega) (by omega)
  rw [hs] at hr
  simpa using hr
theorem below3 (w : World) (o1 o2 o3 : Obj) : Below w.heap.size w (((w.alloc o1).alloc o2).alloc o3) :=
  (((Below.refl _ _).alloc (Nat.le_refl _) _).alloc (by simp) _).alloc (by simp; omega) _
theorem three {w w1 : World} {o1 o2 o3 : Obj} (bel : Below (((w.alloc o1).alloc o2).alloc o3).heap.size (((w.alloc o1).alloc o2).alloc o3) w1) :
    w1.heap[w.heap.size]? = some o1 ∧ w1.heap[w.heap.size + 1]? = some o2 ∧ w1.heap[w.heap.size + 1 + 1]? = some o3 ∧ w.heap.size + 2 < w1.heap.size ∧ Below w.heap.size w w1 := by
  have e : (((w.alloc o1).alloc o2).alloc o3).heap = ((w.heap.push o1).push o2).push o3 := rfl
  have hz : (((w.alloc o1).alloc o2).alloc o3).heap.size = w.heap.size + 3 := by rw [e]; simp
  have hs := bel.size
  refine ⟨?_, ?_, ?_, by omega, (below3 w o1 o2 o3).trans (bel.mono (by omega))⟩
  · rw [bel.block _ (by omega), e, Array.getElem?_push, Array.getElem?_push, Array.getElem?_push]; simp; intro h; omega
  · rw [bel.block _ (by omega), e, Array.getElem?_push, Array.getElem?_push]; simp
  · rw [bel.block _ (by omega), e, Array.getElem?_push]; simp
theorem cells_of {w : World} {b : Nat} {cs : Array Value} {T : TypeId} (h : w.heap[b]? = some (.cells cs T (0, 0))) : (∀ o, w.cell? ⟨b, o, none⟩ = cs[o]?) ∧ ∀ o, w.frozen? ⟨b, o, none⟩ = false :=
  ⟨fun o => by simp [World.cell?, h], fun o => by simp [World.frozen?, h]⟩
theorem size_set (W : World) (a : Addr) (v : Value) : (W.setCell a v).heap.size = W.heap.size := by simp [World.setCell]

theorem below2 (w : World) (o1 o2 : Obj) : Below w.heap.size w ((w.alloc o1).alloc o2) := ((Below.refl _ _).alloc (Nat.le_refl _) _).alloc (by simp) _
/-- Two new blocks behind a call: what they hold. -/
theorem two {w w1 : World} {o1 o2 : Obj} (bel : Below ((w.alloc o1).alloc o2).heap.size ((w.alloc o1).alloc o2) w1) :
    w1.heap[w.heap.size]? = some o1 ∧ w1.heap[w.heap.size + 1]? = some o2 ∧ w.heap.size + 1 < w1.heap.size ∧ Below w.heap.size w w1 := by
  have e : ((w.alloc o1).alloc o2).heap = (w.heap.push o1).push o2 := rfl
  have hz : ((w.alloc o1).alloc o2).heap.size = w.heap.size + 2 := by rw [e]; simp
  have hs := bel.size
  refine ⟨?_, ?_, by omega, (below2 w o1 o2).trans (bel.mono (by omega))⟩
  · rw [bel.block _ (by omega), e, Array.getElem?_push, Array.getElem?_push]; simp
  · rw [bel.block _ (by omega), e, Array.getElem?_push]; simp
set_option maxHeartbeats 1000000 in
theorem szIntS_any (w : World) (a : Option Addr) (n cap L : Nat) (hn : n ≤ maxLen) (hL : L ≤ 1048576) :
    Calls Tryd.prog 20 #[.slice a n cap, .int .i64 L] w fun en w' => en = .returned (.int .i64 (szR n L)) ∧ w' = w := by
  have hm := maxLen_lt
  by_cases h0 : n ≤ L
  · rw [szR_pos h0]
    go_enter Tryd.func20, Tryd.ntmps20
    go_wp2
    go_ret
    exact ⟨ret_int (by omega), rfl⟩
  · rw [szR_neg (by omega)]
    go_enter Tryd.func20, Tryd.ntmps20
    go_wp2
    go_ret
    exact ⟨rfl, rfl⟩
/-- The first j numbers stand in the new block g. -/
def BuiltI (wr : World) (g : Nat) (zs : List Int) (j : Nat) : Prop :=
  ∃ cur, wr.heap[g]? = some (.cells cur 3 (0, 0)) ∧ cur.size = zs.length ∧ ∀ (i : Nat) (h : i < zs.length), i < j → cur[i]? = some (.int .i64 zs[i])
theorem BuiltI.step {wr : World} {g : Nat} {zs : List Int} {j : Nat} (hj : j < zs.length) (h : BuiltI wr g zs j) : BuiltI (wr.setCell ⟨g, j, none⟩ (.int .i64 zs[j])) g zs (j + 1) := by
  obtain ⟨cur, h1, h2, h3⟩ := h
  refine ⟨_, heap_setCell_same _ g _ _ _ _ h1, by simpa using h2, fun i hi hij => ?_⟩
  rw [Array.getElem?_setIfInBounds]
  by_cases he : j = i
  · subst he; rw [if_pos rfl, if_pos (by omega)]
  · rw [if_neg he]; exact h3 i hi (by omega)
theorem IntsIs.get {w : World} {B : Nat} {a : Option Addr} {zs : List Int} (h : IntsIs w B a zs) (i : Nat) (hi : i < zs.length) : ∃ b o, a = some ⟨b, o, none⟩ ∧ B ≤ b ∧ b < w.heap.size ∧ w.cell? ⟨b, o + i, none⟩ = some (.int .i64 zs[i]) := by
  rcases h.2 with h0 | ⟨b, o, ha, hB, hb, _, hc⟩
  · omega
  · exact ⟨b, o, ha, hB, hb, hc i hi⟩
theorem IntsIs.but {w w' : World} {B g : Nat} {a : Option Addr} {zs : List Int} (h : IntsIs w B a zs) (hg : g < B) (hb : But g w w') : IntsIs w' B a zs := by
  refine ⟨h.1, ?_⟩
  rcases h.2 with h0 | ⟨b, o, ha, hB, hbs, hp, hc⟩
  · exact Or.inl h0
  · exact Or.inr ⟨b, o, ha, hB, Nat.lt_of_lt_of_le hbs hb.size, fun h0 => let ⟨cs, T, h⟩ := hp h0; ⟨cs, T, (hb.block b hbs (by omega)).trans h⟩, fun i hi => (hb.cell hbs (by omega)).trans (hc i hi)⟩
theorem IntsIs.mono {w : World} {B B' : Nat} {a : Option Addr} {zs : List Int} (h : IntsIs w B a zs) (hB : B' ≤ B) : IntsIs w B' a zs := by
  refine ⟨h.1, ?_⟩
  rcases h.2 with h0 | ⟨b, o, ha, hb, hl, hp, hr⟩
  · exact Or.inl h0
  · exact Or.inr ⟨b, o, ha, Nat.le_trans hB hb, hl, fun h0 => hp (by omega), hr⟩
set_option maxHeartbeats 1000000 in
theorem toIntS_any (zs : List Int) (w : World) (B : Nat) (a : Option Addr) (cap : Nat) (h : IntsIs w B a zs) (hl : zs.length ≤ 1048576) :
    Calls Tryd.prog 25 #[.slice a zs.length cap] w fun en w' => ∃ g, en = .returned (.slice (some ⟨g, 0, none⟩) zs.length zs.length) ∧ IntsIs w' w.heap.size (some ⟨g, 0, none⟩) zs ∧ Below w.heap.size w w' := by
  have hl0 := h.1
  have hmk := make_n (P := Tryd.prog) Tryd.underlying25 infoI zs.length hl (by decide)
  have H := hideP h
  clear h
  go_enter Tryd.func25, Tryd.ntmps25
  go_wp2
  clear hmk
  go_loopw [4] (fun i wr => ∃ j : Nat, j ≤ zs.length ∧ i = .int .i64 j ∧ BuiltI wr w.heap.size zs j ∧ Below w.heap.size w wr) (fun i _ => zs.length - (intOf i).toNat)
  case atStart => exact ⟨0, Nat.zero_le _, rfl, ⟨_, by show (w.heap.push _)[w.heap.size]? = _; exact Array.getElem?_push_size, by simp [size_madeCells], fun _ _ h => absurd h (Nat.not_lt_zero _)⟩, (Below.refl _ _).alloc (Nat.le_refl _) _⟩
  case round =>
    obtain ⟨j, hj, rfl, hbt, bel⟩ := hrel
    by_cases hlt : j < zs.length
    · obtain ⟨b, o, rfl, _, hb, c0⟩ := (H.out.stays bel).get j hlt
      obtain ⟨z, hz⟩ : ∃ z, zs[j] = z := ⟨_, rfl⟩
      rw [hz] at c0
      obtain ⟨cur, h1, h2, h3⟩ := hbt
      have hd : ∃ v, wr.cell? ⟨w.heap.size, j, none⟩ = some v := ⟨cur[j], by simp [World.cell?, h1, show j < cur.size by omega]⟩
      obtain ⟨d, hd⟩ := hd
      have hf : wr.frozen? ⟨w.heap.size, j, none⟩ = false := by simp [World.frozen?, h1]
      have HT : Hid (BuiltI wr w.heap.size zs j) := ⟨cur, h1, h2, h3⟩
      have HZ := hideP hz
      have HB := hideP bel
      clear h1 h2 h3 hz bel
      go_wp2
      go_roundw
      case rel => exact ⟨j + 1, by omega, by go_num, by have := HT.out.step hlt; rw [HZ.out] at this; exact this, HB.out.setCell (Nat.le_refl _) _⟩
      case measure => simp [intOf]; omega
    · have hjn : j = zs.length := by omega
      subst hjn
      go_wp2
      go_ret
      obtain ⟨cur, h1, h2, h3⟩ := hbt
      exact ⟨_, rfl, ⟨hl0, Or.inr ⟨_, 0, rfl, Nat.le_refl _, (Array.getElem?_eq_some_iff.1 h1).1, fun _ => ⟨cur, _, h1⟩, fun i hi => by simp only [World.cell?, h1, Nat.zero_add]; exact h3 i hi hi⟩⟩, bel⟩
set_option maxHeartbeats 1000000 in
theorem eqIntS_same (zs : List Int) (w : World) (B1 B2 : Nat) (a1 a2 : Option Addr) (c1 c2 : Nat) (h1 : IntsIs w B1 a1 zs) (h2 : IntsIs w B2 a2 zs) :
    Calls Tryd.prog 32 #[.slice a1 zs.length c1, .slice a2 zs.length c2] w fun en w' => en = .returned (.bool true) ∧ Below w.heap.size w w' := by
  have hm := maxLen_lt
  have hl := h1.1
  have H1 := hideP h1
  have H2 := hideP h2
  clear h1 h2
  go_enter Tryd.func32, Tryd.ntmps32
  go_wp2
  go_loopw [5] (fun i wr => ∃ j : Nat, j ≤ zs.length ∧ i = .int .i64 j ∧ Below w.heap.size w wr) (fun i _ => zs.length - (intOf i).toNat)
  case atStart => exact ⟨0, Nat.zero_le _, rfl, Below.refl _ _⟩
  case round =>
    obtain ⟨j, hj, rfl, bel⟩ := hrel
    by_cases hlt : j < zs.length
    · obtain ⟨b, o, rfl, _, hb, p0⟩ := (H1.out.stays bel).get j hlt
      obtain ⟨b', o', rfl, _, hb', q0⟩ := (H2.out.stays bel).get j hlt
      obtain ⟨z, hz⟩ : ∃ z, zs[j] = z := ⟨_, rfl⟩
      rw [hz] at p0 q0
      have HB := hideP bel
      clear hz bel
      go_wp2
      go_region
      all_goals
        go_wp2
        go_roundw
        case rel => exact ⟨j + 1, by omega, by go_num, by first | exact HB.out | exact HB.out.drew | exact HB.out.drew.drew⟩
        case measure => simp [intOf]; omega
    · go_wp2
      go_ret
      exact ⟨rfl, bel⟩

/-- Two lists, told by their elements one by one. -/
def IntsGet (w : World) (a : Option Addr) (zs : List Int) : Prop := zs.length ≤ maxLen ∧ (zs.length = 0 ∨ ∃ b o, a = some ⟨b, o, none⟩ ∧ ∀ (i : Nat) (h : i < zs.length), w.cell? ⟨b, o + i, none⟩ = some (.int .i64 zs[i]))
theorem IntsIs.sees {w : World} {B : Nat} {a : Option Addr} {zs : List Int} (h : IntsIs w B a zs) : IntsGet w a zs := by
  refine ⟨h.1, ?_⟩
  rcases h.2 with h0 | ⟨b, o, ha, _, _, _, hc⟩
  · exact Or.inl h0
  · exact Or.inr ⟨b, o, ha, hc⟩
theorem IntsGet.take {w : World} {a : Option Addr} {zs : List Int} (h : IntsGet w a zs) (n : Nat) (hn : n ≤ zs.length) : IntsGet w a (zs.take n) := by
  have hl : (zs.take n).length = n := by rw [List.length_take]; omega
  refine ⟨by have := h.1; omega, ?_⟩
  rcases h.2 with h0 | ⟨b, o, ha, hc⟩
  · exact Or.inl (by omega)
  · refine Or.inr ⟨b, o, ha, fun i hi => ?_⟩
    rw [List.getElem_take]; exact hc i (by omega)
theorem IntsGet.cellsame {w w' : World} {a : Option Addr} {zs : List Int} (h : IntsGet w a zs) (hc : ∀ p, w'.cell? p = w.cell? p) : IntsGet w' a zs := by
  refine ⟨h.1, ?_⟩
  rcases h.2 with h0 | ⟨b, o, ha, hg⟩
  · exact Or.inl h0
  · exact Or.inr ⟨b, o, ha, fun i hi => (hc _).trans (hg i hi)⟩
theorem IntsGet.get {w : World} {a : Option Addr} {zs : List Int} (h : IntsGet w a zs) (i : Nat) (hi : i < zs.length) : ∃ b o, a = some ⟨b, o, none⟩ ∧ w.cell? ⟨b, o + i, none⟩ = some (.int .i64 zs[i]) := by
  rcases h.2 with h0 | ⟨b, o, ha, hc⟩
  · omega
  · exact ⟨b, o, ha, hc i hi⟩
theorem beq_at {xs ys : List Int} {j : Nat} (h : j < xs.length) (h' : j < ys.length) (hne : xs[j] ≠ ys[j]) : (xs == ys) = false := by
  rw [beq_eq_false_iff_ne]; rintro rfl; exact hne rfl
theorem beq_len {xs ys : List Int} (h : xs.length ≠ ys.length) : (xs == ys) = false := by
  rw [beq_eq_false_iff_ne]; rintro rfl; exact h rfl
theorem beq_same {xs ys : List Int} (h : xs.length = ys.length) (hs : ∀ i (hi : i < xs.length) (hi' : i < ys.length), xs[i] = ys[i]) : (xs == ys) = true := by
  rw [beq_iff_eq]; exact List.ext_getElem h hs

end Go.Proofs.YtheholgdfmipbaaDoor
