/- Parts (a pointer to a statement, or to an expression) as keys of a map: what a look-up, a store and a delete do, on the entries themselves. -/
import Derived.Test.YtdkdimklacblaahRows
import Derived.Test.YtdkdimklacblaahTree
import Derived.WalkKit
import Derived.ProofKit
import Derived.LaidEql
import Derived.Laws.StructEq
import Derived.Laws.Pointers
import Derived.WideKeyRuns
import Derived.Maps.OwnSet
import Derived.Maps.OwnOps
namespace Go.Proofs.Ytdkdimklacblaah
open Go.RowKit

inductive Pt where
  | st (b o : Nat)
  | ex (b o : Nat)
deriving DecidableEq
def Pt.block : Pt → Nat
  | .st b _ => b
  | .ex b _ => b
def Pt.c0 : Pt → Value
  | .st b o => .pointer (some ⟨b, o, none⟩)
  | .ex _ _ => .pointer none
def Pt.c1 : Pt → Value
  | .st _ _ => .pointer none
  | .ex b o => .pointer (some ⟨b, o, none⟩)
def Pt.val (x : Pt) : Value := .agg #[x.c0, x.c1]
/-- The block that a part lies in is one that nobody froze. -/
def PtPlain (w : World) (x : Pt) : Prop := ∃ cs T, w.heap[x.block]? = some (.cells cs T (0, 0))

theorem eq_ptr {P : Program} (d : Nat) (t e : TypeId) (s : Nat) (ht : P.underlying t = some (.pointer e)) (hs : ∀ w, (Go.sizeOf e).run P w = .ok (s + 1) w) (a b : Addr) (w : World) (ha : ∃ ca ta, w.heap[a.block]? = some (.cells ca ta (0, 0))) (hb : ∃ cb tb, w.heap[b.block]? = some (.cells cb tb (0, 0))) :
    (Op.equalIn (d + 1) t (.pointer (some a)) (.pointer (some b))).run P w = .ok (decide (a = b)) w := by
  obtain ⟨ca, ta, ha⟩ := ha
  obtain ⟨cb, tb, hb⟩ := hb
  by_cases h : a = b
  · subst h
    simp [Op.equalIn, run_underlying ht, hs, run_sameAddr_same]
  · simp [Op.equalIn, run_underlying ht, hs, run_sameAddr_other w h ha hb, h]
theorem eq_nn {P : Program} (d : Nat) (t e : TypeId) (ht : P.underlying t = some (.pointer e)) (b : Option Addr) (w : World) :
    (Op.equalIn (d + 1) t (.pointer none) (.pointer b)).run P w = .ok b.isNone w := by
  simp [Op.equalIn, run_underlying ht]
theorem eq_sn {P : Program} (d : Nat) (t e : TypeId) (ht : P.underlying t = some (.pointer e)) (a : Addr) (w : World) :
    (Op.equalIn (d + 1) t (.pointer (some a)) (.pointer none)).run P w = .ok false w := by
  simp [Op.equalIn, run_underlying ht]
def flds : List Field := [{ name := "stmt", type := 67, offset := 0, embedded := false, tag := "", pkgPath := "loop.example/g00385/impl", byteOffset := 0 }, { name := "exp", type := 68, offset := 1, embedded := false, tag := "", pkgPath := "loop.example/g00385/impl", byteOffset := 8 }]
theorem fields70 : (Try.prog.fieldsOf 70).toList = flds := by unfold Program.fieldsOf; rw [Try.underlying70]; rfl
theorem struct70 : Try.prog.underlying 70 = some (.struct (Try.prog.fieldsOf 70)) := by unfold Program.fieldsOf; rw [Try.underlying70]
theorem stood70 : Try.prog.stoodInHeld 70 = false := by kernel_rfl
theorem part0 (c0 c1 : Value) (w : World) : (part 67 #[c0, c1] 0).run Try.prog w = .ok c0 w := by
  simp [part, Try.isAgg67]
theorem part1 (c0 c1 : Value) (w : World) : (part 68 #[c0, c1] 1).run Try.prog w = .ok c1 w := by
  simp [part, Try.isAgg68]
theorem run_eq (x y : Pt) (w : World) (hx : PtPlain w x) (hy : PtPlain w y) : (Op.equal 70 x.val y.val).run Try.prog w = .ok (decide (x = y)) w := by
  have e := run_equalIn_struct w 9999 70 #[x.c0, x.c1] #[y.c0, y.c1] struct70 stood70
  rw [fields70] at e
  refine Eq.trans e ?_
  clear e
  simp only [flds, Op.eqFields]
  have k : ∀ n : Nat, 9999 = n + 1 → n = 9998 := fun n h => by omega
  cases x with
  | st b o =>
    cases y with
    | st b' o' =>
      have e1 := eq_ptr (P := Try.prog) 9998 67 74 5 Try.underlying67 Try.sizeOf74 ⟨b, o, none⟩ ⟨b', o', none⟩ w hx hy
      have e2 := eq_nn (P := Try.prog) 9998 68 41 Try.underlying68 none w
      by_cases h : b = b' ∧ o = o'
      · obtain ⟨rfl, rfl⟩ := h
        simp [Pt.c0, Pt.c1, part0, part1, e1, e2]
      · have h' : ¬ (b = b' ∧ o = o') := h
        simp [Pt.c0, Pt.c1, part0, part1, e1, h']
    | ex b' o' =>
      have e1 := eq_sn (P := Try.prog) 9998 67 74 Try.underlying67 ⟨b, o, none⟩ w
      simp [Pt.c0, Pt.c1, part0, part1, e1]
  | ex b o =>
    cases y with
    | st b' o' =>
      have e1 := eq_nn (P := Try.prog) 9998 67 74 Try.underlying67 (some ⟨b', o', none⟩) w
      simp [Pt.c0, Pt.c1, part0, part1, e1]
    | ex b' o' =>
      have e1 := eq_nn (P := Try.prog) 9998 67 74 Try.underlying67 none w
      have e2 := eq_ptr (P := Try.prog) 9998 68 41 4 Try.underlying68 Try.sizeOf41 ⟨b, o, none⟩ ⟨b', o', none⟩ w hx hy
      by_cases h : b = b' ∧ o = o'
      · obtain ⟨rfl, rfl⟩ := h
        simp [Pt.c0, Pt.c1, part0, part1, e1, e2]
      · have h' : ¬ (b = b' ∧ o = o') := h
        simp [Pt.c0, Pt.c1, part0, part1, e1, e2, h']

/-! The map's entries -/
def entOf (p : Pt × Nat) : Value × Value := (p.1.val, .int .i64 p.2)
def EntIs (es : List MapEntry) (L : List (Pt × Nat)) : Prop := es.map (fun e => (e.key, e.val)) = L.map entOf
def AllPlain (w : World) (L : List (Pt × Nat)) : Prop := ∀ p ∈ L, PtPlain w p.1
theorem ask_none (x : Pt) (w : World) (hx : PtPlain w x) : ∀ (es : List MapEntry) (L : List (Pt × Nat)) (i : Nat), EntIs es L → AllPlain w L → (∀ p ∈ L, p.1 ≠ x) → (Instr.findAsking 70 x.val es i).run Try.prog w = .ok none w
  | [], _, i, _, _, _ => by simp [Instr.findAsking]
  | e :: es, [], i, h, _, _ => by simp [EntIs] at h
  | e :: es, p :: L, i, h, hp, hn => by
    simp only [EntIs, List.map_cons, List.cons.injEq, entOf, Prod.mk.injEq] at h
    have e1 := run_eq x p.1 w hx (hp p (by simp))
    have hne : ¬ x = p.1 := fun h => hn p (by simp) h.symm
    simp [Instr.findAsking, h.1.1, e1, hne, ask_none x w hx es L (i + 1) h.2 (fun q hq => hp q (by simp [hq])) (fun q hq => hn q (by simp [hq]))]
theorem ask_some (x : Pt) (n : Nat) (w : World) (hx : PtPlain w x) : ∀ (es : List MapEntry) (L : List (Pt × Nat)) (i : Nat), EntIs es (L ++ [(x, n)]) → AllPlain w L → (∀ p ∈ L, p.1 ≠ x) → (Instr.findAsking 70 x.val es i).run Try.prog w = .ok (some (i + L.length, .int .i64 n)) w
  | [], L, i, h, _, _ => by simp [EntIs] at h
  | e :: es, [], i, h, _, _ => by
    simp only [EntIs, List.nil_append, List.map_cons, List.cons.injEq, entOf, Prod.mk.injEq] at h
    have e1 := run_eq x x w hx hx
    simp [Instr.findAsking, h.1.1, h.1.2, e1]
  | e :: es, p :: L, i, h, hp, hn => by
    simp only [EntIs, List.cons_append, List.map_cons, List.cons.injEq, entOf, Prod.mk.injEq] at h
    have e1 := run_eq x p.1 w hx (hp p (by simp))
    have hne : ¬ x = p.1 := fun h => hn p (by simp) h.symm
    have ih := ask_some x n w hx es L (i + 1) h.2 (fun q hq => hp q (by simp [hq])) (fun q hq => hn q (by simp [hq]))
    simp [Instr.findAsking, h.1.1, e1, hne, ih]
    omega
theorem find_eq (x : Pt) (es : List MapEntry) (w : World) : (Instr.findKey 70 x.val es).run Try.prog w = (Instr.findAsking 70 x.val es).run Try.prog w :=
  run_findKey_eq (P := Try.prog) (w := w) (k := 70) (by rw [Try.underlying70]) x.val es
theorem check_ptr {P : Program} (em : Bool) (n : Nat) (t e : TypeId) (ht : P.underlying t = some (.pointer e)) (v : Value) (w : World) : (Instr.checkKey em (n + 1) t v).run P w = .ok () w := by
  unfold Instr.checkKey
  simp only [Sem.run_bind, run_underlying ht, Result.andThen]
  cases v <;> simp
theorem run_check (em : Bool) (x : Pt) (w : World) : (Instr.checkKey em 10000 70 x.val).run Try.prog w = .ok () w := by
  have h1 := fun v => check_ptr (P := Try.prog) em 9998 67 _ Try.underlying67 v w
  have h2 := fun v => check_ptr (P := Try.prog) em 9998 68 _ Try.underlying68 v w
  show (Instr.checkKey em (9999 + 1) _ _).run _ _ = _
  unfold Instr.checkKey
  simp only [Sem.run_bind, run_underlying Try.underlying70, Result.andThen_ok, Pt.val]
  simp [part0, part1, h1, h2]
theorem zero_int (w : World) : (zeroValue 3).run Try.prog w = .ok (.int .i64 0) w := Try.zeroValue3 w
theorem look_none {w : World} {B clock : Nat} {es : Array MapEntry} {L : List (Pt × Nat)} (x : Pt) (hb : w.heap[B]? = some (.map es clock)) (hE : EntIs es.toList L) (hx : PtPlain w x) (hp : AllPlain w L) (hn : ∀ p ∈ L, p.1 ≠ x) :
    (Instr.lookup 81 (.map (some B)) x.val true).run Try.prog w = .ok (.tuple #[.int .i64 0, .bool false]) w := by
  have f := (find_eq x es.toList w).trans (ask_none x w hx es.toList L 0 hE hp hn)
  simp [Instr.lookup, run_underlying Try.underlying81, MapKept.run_getObj_map hb, run_check, f]
theorem look_some {w : World} {B clock n : Nat} {es : Array MapEntry} {L : List (Pt × Nat)} (x : Pt) (hb : w.heap[B]? = some (.map es clock)) (hE : EntIs es.toList (L ++ [(x, n)])) (hx : PtPlain w x) (hp : AllPlain w L) (hn : ∀ p ∈ L, p.1 ≠ x) :
    (Instr.lookup 81 (.map (some B)) x.val true).run Try.prog w = .ok (.tuple #[.int .i64 n, .bool true]) w := by
  have f := (find_eq x es.toList w).trans (ask_some x n w hx es.toList L 0 hE hp hn)
  simp [Instr.lookup, run_underlying Try.underlying81, MapKept.run_getObj_map hb, run_check, f]
theorem upd_new {w : World} {B clock : Nat} {es : Array MapEntry} {L : List (Pt × Nat)} (x : Pt) (n : Nat) (hb : w.heap[B]? = some (.map es clock)) (hE : EntIs es.toList L) (hx : PtPlain w x) (hp : AllPlain w L) (hn : ∀ p ∈ L, p.1 ≠ x) :
    ∃ es' c', (Instr.mapUpdate 81 (.map (some B)) x.val (.int .i64 n)).run Try.prog w = .ok () (ChangeMaps.setBlock w B (.map es' c')) ∧ EntIs es'.toList (L ++ [(x, n)]) := by
  have f := (find_eq x es.toList w).trans (ask_none x w hx es.toList L 0 hE hp hn)
  refine ⟨es.push { key := x.val, val := .int .i64 n, born := clock }, clock + 1, ?_, ?_⟩
  · simp [Instr.mapUpdate, run_underlying Try.underlying81, MapKept.run_getObj_map hb, run_check, f, MapKept.run_setObj_map _ hb, Result.andThen, ChangeMaps.setBlock]
  · unfold EntIs at *
    simp [hE, entOf]
theorem del_last {w : World} {B clock n : Nat} {es : Array MapEntry} {L : List (Pt × Nat)} (x : Pt) (hb : w.heap[B]? = some (.map es clock)) (hE : EntIs es.toList (L ++ [(x, n)])) (hx : PtPlain w x) (hp : AllPlain w L) (hn : ∀ p ∈ L, p.1 ≠ x) :
    ∃ es' c', (∀ ty : TypeId, (Builtin.delete_ #[81, 70] ty #[.map (some B), x.val]).run Try.prog w = .ok (.tuple #[]) (ChangeMaps.setBlock w B (.map es' c'))) ∧ EntIs es'.toList L := by
  have f := (find_eq x es.toList w).trans (ask_some x n w hx es.toList L 0 hE hp hn)
  refine ⟨es.eraseIdxIfInBounds L.length, clock, ?_, ?_⟩
  · intro ty
    simp [Builtin.delete_, run_underlying Try.underlying81, MapKept.run_getObj_map hb, run_check, f, MapKept.run_setObj_map _ hb, Result.andThen, ChangeMaps.setBlock]
  · unfold EntIs at *
    have hl : es.size = L.length + 1 := by have := congrArg List.length hE; simpa using this
    have hsub : (es.eraseIdxIfInBounds L.length).toList = es.toList.eraseIdx L.length := by
      unfold Array.eraseIdxIfInBounds
      rw [dif_pos (by omega)]
      simp
    have hE2 : (L ++ [(x, n)]).eraseIdx L.length = L := by rw [List.eraseIdx_append_of_length_le (Nat.le_refl _)]; simp
    rw [hsub, ChangeMaps.map_eraseIdx, hE, ← ChangeMaps.map_eraseIdx entOf, hE2]
end Go.Proofs.Ytdkdimklacblaah
