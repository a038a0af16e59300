/- Plain lists and bytes, no program: what chapter 1's functions answer, as functions of lists of bytes. -/
import Derived.Laws.Strings
import Derived.Lib.Strings
import Derived.Below
import Derived.WalkKit
import Derived.OpenShut
import Derived.Test.YtpkfbabgcinhhaaDoorRows
import Derived.ProofKit
import Derived.ShutString
import Derived.WalkSpells
import Derived.WalkLawsBesides
import Derived.Laws.MakeOwn
import Derived.Laws.Rows
import Derived.Deep.Slices
import Derived.Deep.QuietTactic
import Derived.BigQuiet
import Derived.Deep.RegionWith
namespace Go.Proofs.YtpkfbabgcinhhaaDoor

def hasB (l : List ByteArray) (s : ByteArray) : Bool := l.any fun x => x.toList == s.toList
theorem hasB_drop_true {l : List ByteArray} {s : ByteArray} {k : Nat} (hk : k < l.length) (h : ((l[k]).toList == s.toList) = true) : hasB (l.drop k) s = true := by
  unfold hasB; rw [List.drop_eq_getElem_cons hk, List.any_cons, h, Bool.true_or]
theorem hasB_drop_false {l : List ByteArray} {s : ByteArray} {k : Nat} (hk : k < l.length) (h : ((l[k]).toList == s.toList) = false) : hasB (l.drop k) s = hasB (l.drop (k+1)) s := by
  unfold hasB; rw [List.drop_eq_getElem_cons hk, List.any_cons, h, Bool.false_or]
theorem ret_bool {a b : Bool} (h : a = b) : Ending.returned (.bool a) = .returned (.bool b) := by rw [h]
theorem ret_int {k : IntKind} {a b : Int} (h : a = b) : Ending.returned (.int k a) = .returned (.int k b) := by rw [h]
theorem ret_str {a b : ByteArray} (h : a = b) : Ending.returned (.string a) = .returned (.string b) := by rw [h]

def wd (l : List UInt8) : ByteArray := ⟨l.toArray⟩
theorem wd_toList (l : List UInt8) : (wd l).toList = l := ByteArray.toList_mk l
def theWords : List ByteArray := [wd [109, 101, 109], wd [102, 110], wd [108, 101, 116], wd [112, 116, 114], wd [105, 110], wd [105, 102], wd [101, 108, 115, 101], wd [119, 104, 105, 108, 101], wd [112, 117, 116], wd [103, 101, 116], wd [114, 101, 116, 117, 114, 110]]
/-- Whether a list of bytes is one of the words. -/
def isWordL (l : List UInt8) : Bool := l == [109, 101, 109] || l == [102, 110] || l == [108, 101, 116] || l == [112, 116, 114] || l == [105, 110] || l == [105, 102] || l == [101, 108, 115, 101] || l == [119, 104, 105, 108, 101] || l == [112, 117, 116] || l == [103, 101, 116] || l == [114, 101, 116, 117, 114, 110]
theorem beq_comm8 (a b : List UInt8) : (a == b) = (b == a) := by rw [Bool.eq_iff_iff, beq_iff_eq, beq_iff_eq]; exact eq_comm
theorem hasB_cons (x : List UInt8) (l : List ByteArray) (s : ByteArray) : hasB (wd x :: l) s = (s.toList == x || hasB l s) := by
  simp only [hasB, List.any_cons, wd_toList]; rw [beq_comm8]
theorem hasB_nil (s : ByteArray) : hasB [] s = false := rfl
theorem hasB_theWords (s : ByteArray) : hasB theWords s = isWordL s.toList := by
  unfold theWords isWordL
  simp only [hasB_cons, hasB_nil, Bool.or_false, Bool.or_assoc]
theorem hasB_theWords' (s : ByteArray) : hasB theWords s = isWordL s.data.toList := by rw [hasB_theWords, Lib.toList_data]

/-! Letters, digits, names -/
def inB (x a b : Int) : Bool := decide (a ≤ x ∧ x ≤ b)
def letB (n : Int) : Bool := inB n 97 122
def digB (n : Int) : Bool := inB n 48 57
def an (c : UInt8) : Bool := letB c.toNat || digB c.toNat
/-- How many letters and digits a text begins with. -/
def nlen (l : List UInt8) : Nat := (l.takeWhile an).length
theorem nlen_cons (c : UInt8) (l : List UInt8) : nlen (c :: l) = if an c = true then nlen l + 1 else 0 := by
  unfold nlen; rw [List.takeWhile_cons]; split <;> simp
theorem nlen_le (l : List UInt8) : nlen l ≤ l.length := by
  induction l with
  | nil => simp [nlen]
  | cons c l ih => rw [nlen_cons]; split <;> simp; omega
theorem drop_cons (s : ByteArray) (k : Nat) (h : k < s.size) : s.data.toList.drop k = s[k] :: s.data.toList.drop (k + 1) := by
  rw [List.drop_eq_getElem_cons (by simpa using h)]; rfl
theorem dlen (s : ByteArray) : s.data.toList.length = s.size := by simp
theorem nlen_step (s : ByteArray) (k : Nat) (h : k < s.size) (ha : an s[k] = true) : nlen (s.data.toList.drop k) = nlen (s.data.toList.drop (k + 1)) + 1 := by
  rw [drop_cons s k h, nlen_cons, if_pos ha]
theorem nlen_stop (s : ByteArray) (k : Nat) (h : k < s.size) (ha : an s[k] = false) : nlen (s.data.toList.drop k) = 0 := by
  rw [drop_cons s k h, nlen_cons, if_neg (by simp [ha])]
theorem nlen_end (s : ByteArray) (k : Nat) (h : s.size ≤ k) : nlen (s.data.toList.drop k) = 0 := by
  rw [List.drop_of_length_le (by rw [dlen]; exact h)]; rfl
theorem nlen_all (l : List UInt8) : (nlen l = l.length) ↔ l.all an = true := by
  induction l with
  | nil => simp [nlen]
  | cons c l ih =>
    rw [nlen_cons]
    by_cases h : an c = true
    · simp only [h, if_true, List.length_cons, List.all_cons, Bool.true_and]; rw [← ih]; omega
    · simp [h]
/-- Whether a list of bytes is a name. -/
def nameL (l : List UInt8) : Bool := decide (1 ≤ l.length) && decide (l.length ≤ 8) && letB (l.headD 0).toNat && decide (nlen l = l.length) && !isWordL l
theorem head_data (s : ByteArray) (h : 0 < s.size) : s.data.toList.headD 0 = s[0] := by
  have := drop_cons s 0 h; rw [List.drop_zero] at this; rw [this]; rfl
theorem nameL_short (s : ByteArray) (h : s.size < 1) : nameL s.data.toList = false := by
  unfold nameL; rw [dlen, decide_eq_false (by omega : ¬ 1 ≤ s.size)]; rfl
theorem nameL_long (s : ByteArray) (h : 8 < s.size) : nameL s.data.toList = false := by
  unfold nameL; rw [dlen, decide_eq_false (by omega : ¬ s.size ≤ 8)]; simp
theorem nameL_head (s : ByteArray) (h : 0 < s.size) (hL : letB s[0].toNat = false) : nameL s.data.toList = false := by
  unfold nameL; rw [head_data s h, hL]; simp
theorem nameL_nlen (s : ByteArray) (hn : nlen s.data.toList ≠ s.size) : nameL s.data.toList = false := by
  unfold nameL; rw [dlen, decide_eq_false hn]; simp
theorem nameL_word (s : ByteArray) (hn : isWordL s.data.toList = true) : nameL s.data.toList = false := by
  unfold nameL; rw [hn]; simp
theorem nameL_yes (s : ByteArray) (h1 : 1 ≤ s.size) (h8 : s.size ≤ 8) (hL : letB s[0].toNat = true) (hn : nlen s.data.toList = s.size) (hw : isWordL s.data.toList = false) : nameL s.data.toList = true := by
  unfold nameL; rw [head_data s h1, hL, dlen, hn, hw]; simp [h1, h8]
end Go.Proofs.YtpkfbabgcinhhaaDoor

/- Worlds that have grown: what lay below stays. -/
namespace Go.Proofs.YtpkfbabgcinhhaaDoor
open Go.RowKit
theorem hideP {p : Prop} (h : p) : Hid p := h
theorem var_below {P : Program} {w w' : World} {name : String} {v : Array Value} (h : w.var? P name = some v) (hb : Below w.heap.size w w') : w'.var? P name = some v := by
  unfold World.var? at *
  cases hg : P.globalNamed name with
  | none => simp [hg] at h
  | some g =>
    simp only [hg, Option.bind_some] at h ⊢
    have hlt : g < w.heap.size := by
      rcases Nat.lt_or_ge g w.heap.size with h' | h'
      · exact h'
      · rw [Array.getElem?_eq_none h'] at h; simp at h
    rw [hb.block g hlt]
    exact h
/-- Behind a call that keeps what was there: each old cell reads as it did, each old mark too. -/
theorem bcell {W w1 : World} (hb : Below W.heap.size W w1) : (∀ b o, b < W.heap.size → w1.cell? ⟨b, o, none⟩ = W.cell? ⟨b, o, none⟩) ∧ (∀ b o, b < W.heap.size → w1.frozen? ⟨b, o, none⟩ = W.frozen? ⟨b, o, none⟩) :=
  ⟨fun b o h => hb.cell (p := ⟨b, o, none⟩) h, fun b o h => hb.frozen (p := ⟨b, o, none⟩) h⟩
theorem hlt_of {w w1 : World} {o : Obj} (h : Below (w.alloc o).heap.size (w.alloc o) w1) : w.heap.size < w1.heap.size := by have := h.size; simp at this; omega
theorem below_alloc {w w1 : World} {o : Obj} (h : Below (w.alloc o).heap.size (w.alloc o) w1) : Hid (Below (w.alloc o).heap.size (w.alloc o) w1) := h
theorem below_cat {a w1 w2 : World} (h : Hid (Below a.heap.size a w1)) (k : Below w1.heap.size w1 w2) : Below a.heap.size a w2 := h.out.trans (k.mono h.out.size)
theorem below_new {w w1 : World} {o : Obj} (h : Below (w.alloc o).heap.size (w.alloc o) w1) : Below w.heap.size w w1 :=
  ((Below.refl w.heap.size w).alloc (Nat.le_refl _) o).trans (h.mono (by simp))
theorem below_set4 {w w1 : World} (h : Below w.heap.size w w1) (v0 v1 v2 v3 : Value) : Below w.heap.size w ((((w1.setCell ⟨w.heap.size, 0, none⟩ v0).setCell ⟨w.heap.size, 1, none⟩ v1).setCell ⟨w.heap.size, 2, none⟩ v2).setCell ⟨w.heap.size, 3, none⟩ v3) :=
  (((h.setCell (p := ⟨w.heap.size, 0, none⟩) (Nat.le_refl _) v0).setCell (p := ⟨w.heap.size, 1, none⟩) (Nat.le_refl _) v1).setCell (p := ⟨w.heap.size, 2, none⟩) (Nat.le_refl _) v2).setCell (p := ⟨w.heap.size, 3, none⟩) (Nat.le_refl _) v3
/-- One step behind another. -/
theorem below_trans {a b c : World} (h : Below a.heap.size a b) (k : Below b.heap.size b c) : Below a.heap.size a c := h.trans (k.mono h.size)
end Go.Proofs.YtpkfbabgcinhhaaDoor

/- Lists of texts in memory; worlds that differ in one block. -/
namespace Go.Proofs.YtpkfbabgcinhhaaDoor
open Go.RowKit
/-- The slice begins at the head of block b and holds the texts ss. -/
def StrsAt (w : World) (b : Nat) (ss : List ByteArray) : Prop := ∀ (i : Nat) (h : i < ss.length), w.cell? ⟨b, i, none⟩ = some (.string ss[i])
theorem StrsAt.below {w w' : World} {b : Nat} {ss : List ByteArray} (h : StrsAt w b ss) (hb : b < w.heap.size) (bel : Below w.heap.size w w') : StrsAt w' b ss :=
  fun i hi => (bel.cell (p := ⟨b, i, none⟩) hb).trans (h i hi)

/-- w' is w but for block b and for blocks that are new. -/
structure But (b : Nat) (w w' : World) : Prop where
  os : w'.os = w.os
  tape : w'.tape = w.tape
  output : w'.output = w.output
  size : w.heap.size ≤ w'.heap.size
  block : ∀ k, k < w.heap.size → k ≠ b → w'.heap[k]? = w.heap[k]?
theorem But.refl (b : Nat) (w : World) : But b w w := ⟨rfl, rfl, rfl, Nat.le_refl _, fun _ _ _ => rfl⟩
theorem But.on {b : Nat} {w w1 w2 : World} (h : But b w w1) (k : Below w1.heap.size w1 w2) : But b w w2 :=
  ⟨k.os.trans h.os, k.tape.trans h.tape, k.output.trans h.output, Nat.le_trans h.size k.size, fun i hi hne => (k.block i (Nat.lt_of_lt_of_le hi h.size)).trans (h.block i hi hne)⟩
theorem But.set {b : Nat} {w w1 : World} (h : But b w w1) (i : Nat) (v : Value) : But b w (w1.setCell ⟨b, i, none⟩ v) :=
  ⟨h.os, h.tape, h.output, by simp [World.setCell]; exact h.size, fun k hk hne => (Below.heap_setCell w1 ⟨b, i, none⟩ v k hne).trans (h.block k hk hne)⟩
theorem But.cell {b : Nat} {w w' : World} (h : But b w w') {c i : Nat} (hc : c < w.heap.size) (hne : c ≠ b) : w'.cell? ⟨c, i, none⟩ = w.cell? ⟨c, i, none⟩ := World.cell?_of_block (w := w) (a := ⟨c, i, none⟩) (h.block c hc hne)
/-- Block b lies below B only where B is beyond it: what the calls make stands from B on. -/
theorem But.below {b B : Nat} {w w' : World} (h : But b w w') (hB : B ≤ b) (hw : B ≤ w.heap.size) : Below B w w' :=
  ⟨h.os, h.tape, h.output, h.size, fun k hk => h.block k (by omega) (by omega)⟩
end Go.Proofs.YtpkfbabgcinhhaaDoor

/- Expressions, statements and programs as they lie in memory: a struct's cells, its lists behind slices. -/
namespace Go.Proofs.YtpkfbabgcinhhaaDoor
open Go.RowKit Go.ChangeShapes Go.WideShapes

inductive Ex where
  | mk (k n b : Int) (t : ByteArray) (kids : List Ex)
inductive St where
  | mk (k n b : Int) (exps : List Ex) (xs ys : List St)

instance : Inhabited Ex := ⟨.mk 0 0 0 ByteArray.empty []⟩
instance : Inhabited St := ⟨.mk 0 0 0 [] [] []⟩
theorem Ex.ind {P : Ex → Prop} (h : ∀ k n b t kids, (∀ e ∈ kids, P e) → P (.mk k n b t kids)) (e : Ex) : P e :=
  Ex.rec (motive_1 := P) (motive_2 := fun l => ∀ e ∈ l, P e) (fun k n b t kids ih => h k n b t kids ih) (fun _ hm => nomatch hm)
    (fun _ _ hx hl e he => by rcases List.mem_cons.1 he with rfl | he; exact hx; exact hl e he) e
theorem St.ind {P : St → Prop} (h : ∀ k n b exps xs ys, (∀ e ∈ xs, P e) → (∀ e ∈ ys, P e) → P (.mk k n b exps xs ys)) (e : St) : P e :=
  St.rec (motive_1 := P) (motive_2 := fun l => ∀ e ∈ l, P e) (fun k n b exps xs ys ihx ihy => h k n b exps xs ys ihx ihy) (fun _ hm => nomatch hm)
    (fun _ _ hx hl e he => by rcases List.mem_cons.1 he with rfl | he; exact hx; exact hl e he) e

/-- Element i of a slice of n elements of sz cells has the cells vs i; where B is not 0 the block is one that nobody froze. -/
def RowAt (w : World) (B : Nat) (a : Option Addr) (n sz : Nat) (vs : Nat → Array Value) : Prop :=
  n = 0 ∨ ∃ b o, a = some ⟨b, o, none⟩ ∧ B ≤ b ∧ b < w.heap.size ∧ (0 < B → ∃ cs T, w.heap[b]? = some (.cells cs T (0, 0))) ∧ ∀ i, i < n → (vs i).size = sz ∧ ∀ j, j < sz → w.cell? ⟨b, o + i * sz + j, none⟩ = (vs i)[j]?
theorem RowAt.below {w w' : World} {B : Nat} {a : Option Addr} {n sz : Nat} {vs : Nat → Array Value} (h : RowAt w B a n sz vs) (bel : Below w.heap.size w w') : RowAt w' B a n sz vs := by
  rcases h with h | ⟨b, o, ha, hB, hb, hp, hc⟩
  · exact Or.inl h
  · exact Or.inr ⟨b, o, ha, hB, Nat.lt_of_lt_of_le hb bel.size, fun h0 => let ⟨cs, T, h⟩ := hp h0; ⟨cs, T, (bel.block b hb).trans h⟩, fun i hi => ⟨(hc i hi).1, fun j hj => (bel.cell (p := ⟨b, o + i * sz + j, none⟩) hb).trans ((hc i hi).2 j hj)⟩⟩
theorem RowAt.but {w w' : World} {B g : Nat} {a : Option Addr} {n sz : Nat} {vs : Nat → Array Value} (h : RowAt w B a n sz vs) (hg : g < B) (hbut : But g w w') : RowAt w' B a n sz vs := by
  rcases h with h | ⟨b, o, ha, hB, hb, hp, hc⟩
  · exact Or.inl h
  · exact Or.inr ⟨b, o, ha, hB, Nat.lt_of_lt_of_le hb hbut.size, fun h0 => let ⟨cs, T, h⟩ := hp h0; ⟨cs, T, (hbut.block b hb (by omega)).trans h⟩, fun i hi => ⟨(hc i hi).1, fun j hj => (hbut.cell hb (by omega)).trans ((hc i hi).2 j hj)⟩⟩
theorem RowAt.mono {w : World} {B B' : Nat} {a : Option Addr} {n sz : Nat} {vs : Nat → Array Value} (h : RowAt w B a n sz vs) (hB' : B' ≤ B) : RowAt w B' a n sz vs := by
  rcases h with h | ⟨b, o, ha, hB, hb, hp, hc⟩
  · exact Or.inl h
  · exact Or.inr ⟨b, o, ha, Nat.le_trans hB' hB, hb, fun h0 => hp (by omega), hc⟩

/-- These five cells are the expression. -/
inductive ExIs (w : World) (B : Nat) : Array Value → Ex → Prop
  | mk (k n b : Int) (t : ByteArray) (kids : List Ex) (a : Option Addr) (cap : Nat) (vs : Nat → Array Value) (hl : kids.length ≤ maxLen) (ht : t.size ≤ maxLen)
      (hrow : RowAt w B a kids.length 5 vs) (hx : ∀ (i : Nat) (h : i < kids.length), ExIs w B (vs i) kids[i]) :
      ExIs w B #[.int .i64 k, .int .i64 n, .int .i64 b, .string t, .slice a kids.length cap] (.mk k n b t kids)
/-- The slice holds these expressions. -/
def ExsIs (w : World) (B : Nat) (a : Option Addr) (es : List Ex) : Prop := es.length ≤ maxLen ∧ ∃ vs, RowAt w B a es.length 5 vs ∧ ∀ (i : Nat) (h : i < es.length), ExIs w B (vs i) es[i]
theorem ExIs.stays {w w' : World} {B : Nat} {v : Array Value} {e : Ex} (h : ExIs w B v e) (bel : Below w.heap.size w w') : ExIs w' B v e := by
  induction h with
  | mk k n b t kids a cap vs hl ht hrow _ ih => exact .mk k n b t kids a cap vs hl ht (hrow.below bel) ih
theorem ExsIs.stays {w w' : World} {B : Nat} {a : Option Addr} {es : List Ex} (h : ExsIs w B a es) (bel : Below w.heap.size w w') : ExsIs w' B a es :=
  let ⟨hl, vs, hr, hx⟩ := h
  ⟨hl, vs, hr.below bel, fun i hi => (hx i hi).stays bel⟩
theorem ExIs.but {w w' : World} {B g : Nat} {v : Array Value} {e : Ex} (h : ExIs w B v e) (hg : g < B) (hb : But g w w') : ExIs w' B v e := by
  induction h with
  | mk k n b t kids a cap vs hl ht hrow _ ih => exact .mk k n b t kids a cap vs hl ht (hrow.but hg hb) ih
theorem ExsIs.but {w w' : World} {B g : Nat} {a : Option Addr} {es : List Ex} (h : ExsIs w B a es) (hg : g < B) (hb : But g w w') : ExsIs w' B a es :=
  let ⟨hl, vs, hr, hx⟩ := h
  ⟨hl, vs, hr.but hg hb, fun i hi => (hx i hi).but hg hb⟩
theorem ExIs.mono {w : World} {B B' : Nat} {v : Array Value} {e : Ex} (h : ExIs w B v e) (hB : B' ≤ B) : ExIs w B' v e := by
  induction h with
  | mk k n b t kids a cap vs hl ht hrow _ ih => exact .mk k n b t kids a cap vs hl ht (hrow.mono hB) ih
theorem ExsIs.mono {w : World} {B B' : Nat} {a : Option Addr} {es : List Ex} (h : ExsIs w B a es) (hB : B' ≤ B) : ExsIs w B' a es :=
  let ⟨hl, vs, hr, hx⟩ := h
  ⟨hl, vs, hr.mono hB, fun i hi => (hx i hi).mono hB⟩
theorem ExIs.out {w : World} {B : Nat} {v : Array Value} {k n b : Int} {t : ByteArray} {kids : List Ex} (h : ExIs w B v (.mk k n b t kids)) :
    ∃ a cap, v = #[.int .i64 k, .int .i64 n, .int .i64 b, .string t, .slice a kids.length cap] ∧ t.size ≤ maxLen ∧ ExsIs w B a kids := by
  cases h with
  | mk _ _ _ _ _ a cap vs hl ht hrow hx => exact ⟨a, cap, rfl, ht, hl, vs, hrow, hx⟩
theorem ExIs.of {w : World} {B : Nat} {k n b : Int} {t : ByteArray} {kids : List Ex} {a : Option Addr} {cap : Nat} (ht : t.size ≤ maxLen) (h : ExsIs w B a kids) :
    ExIs w B #[.int .i64 k, .int .i64 n, .int .i64 b, .string t, .slice a kids.length cap] (.mk k n b t kids) :=
  let ⟨hl, vs, hr, hx⟩ := h
  .mk k n b t kids a cap vs hl ht hr hx
/-- Element i of such a slice: where it lies, its five cells, its kids. -/
theorem ExsIs.get {w : World} {B : Nat} {a : Option Addr} {es : List Ex} (h : ExsIs w B a es) (i : Nat) (hi : i < es.length) :
    ∃ b o k n bs t kids ka kc, a = some ⟨b, o, none⟩ ∧ B ≤ b ∧ b < w.heap.size ∧ es[i] = .mk k n bs t kids ∧
      w.cell? ⟨b, o + i * 5, none⟩ = some (.int .i64 k) ∧ w.cell? ⟨b, o + i * 5 + 1, none⟩ = some (.int .i64 n) ∧ w.cell? ⟨b, o + i * 5 + 2, none⟩ = some (.int .i64 bs) ∧
      w.cell? ⟨b, o + i * 5 + 3, none⟩ = some (.string t) ∧ w.cell? ⟨b, o + i * 5 + 4, none⟩ = some (.slice ka kids.length kc) ∧
      ExIs w B #[.int .i64 k, .int .i64 n, .int .i64 bs, .string t, .slice ka kids.length kc] (.mk k n bs t kids) := by
  obtain ⟨hl, vs, hr, hx⟩ := h
  rcases hr with h0 | ⟨b, o, ha, hB, hb, _, hc⟩
  · omega
  · obtain ⟨k, n, bs, t, kids, he⟩ : ∃ k n bs t kids, es[i] = Ex.mk k n bs t kids := by cases he : es[i] with | mk k n bs t kids => exact ⟨k, n, bs, t, kids, rfl⟩
    have h1 := hx i hi
    rw [he] at h1
    obtain ⟨ka, kc, hv, ht, hk⟩ := h1.out
    have h2 := (hc i hi).2
    rw [hv] at h2 h1
    exact ⟨b, o, k, n, bs, t, kids, ka, kc, ha, hB, hb, he, h2 0 (by omega), h2 1 (by omega), h2 2 (by omega), h2 3 (by omega), h2 4 (by omega), h1⟩

/-- These six cells are the statement. -/
inductive StIs (w : World) (B : Nat) : Array Value → St → Prop
  | mk (k n b : Int) (exps : List Ex) (xs ys : List St) (a : Option Addr) (cap : Nat) (ax : Option Addr) (cx : Nat) (ay : Option Addr) (cy : Nat) (vx vy : Nat → Array Value)
      (he : ExsIs w B a exps) (hlx : xs.length ≤ maxLen) (hly : ys.length ≤ maxLen)
      (hrx : RowAt w B ax xs.length 6 vx) (hry : RowAt w B ay ys.length 6 vy) (hx : ∀ (i : Nat) (h : i < xs.length), StIs w B (vx i) xs[i]) (hy : ∀ (i : Nat) (h : i < ys.length), StIs w B (vy i) ys[i]) :
      StIs w B #[.int .i64 k, .int .i64 n, .int .i64 b, .slice a exps.length cap, .slice ax xs.length cx, .slice ay ys.length cy] (.mk k n b exps xs ys)
def StsIs (w : World) (B : Nat) (a : Option Addr) (es : List St) : Prop := es.length ≤ maxLen ∧ ∃ vs, RowAt w B a es.length 6 vs ∧ ∀ (i : Nat) (h : i < es.length), StIs w B (vs i) es[i]
theorem StIs.stays {w w' : World} {B : Nat} {v : Array Value} {e : St} (h : StIs w B v e) (bel : Below w.heap.size w w') : StIs w' B v e := by
  induction h with
  | mk k n b exps xs ys a cap ax cx ay cy vx vy he hlx hly hrx hry _ _ ihx ihy => exact .mk k n b exps xs ys a cap ax cx ay cy vx vy (he.stays bel) hlx hly (hrx.below bel) (hry.below bel) ihx ihy
theorem StsIs.stays {w w' : World} {B : Nat} {a : Option Addr} {es : List St} (h : StsIs w B a es) (bel : Below w.heap.size w w') : StsIs w' B a es :=
  let ⟨hl, vs, hr, hx⟩ := h
  ⟨hl, vs, hr.below bel, fun i hi => (hx i hi).stays bel⟩
theorem StIs.but {w w' : World} {B g : Nat} {v : Array Value} {e : St} (h : StIs w B v e) (hg : g < B) (hb : But g w w') : StIs w' B v e := by
  induction h with
  | mk k n b exps xs ys a cap ax cx ay cy vx vy he hlx hly hrx hry _ _ ihx ihy => exact .mk k n b exps xs ys a cap ax cx ay cy vx vy (he.but hg hb) hlx hly (hrx.but hg hb) (hry.but hg hb) ihx ihy
theorem StsIs.but {w w' : World} {B g : Nat} {a : Option Addr} {es : List St} (h : StsIs w B a es) (hg : g < B) (hb : But g w w') : StsIs w' B a es :=
  let ⟨hl, vs, hr, hx⟩ := h
  ⟨hl, vs, hr.but hg hb, fun i hi => (hx i hi).but hg hb⟩
theorem StIs.mono {w : World} {B B' : Nat} {v : Array Value} {e : St} (h : StIs w B v e) (hB : B' ≤ B) : StIs w B' v e := by
  induction h with
  | mk k n b exps xs ys a cap ax cx ay cy vx vy he hlx hly hrx hry _ _ ihx ihy => exact .mk k n b exps xs ys a cap ax cx ay cy vx vy (he.mono hB) hlx hly (hrx.mono hB) (hry.mono hB) ihx ihy
theorem StsIs.mono {w : World} {B B' : Nat} {a : Option Addr} {es : List St} (h : StsIs w B a es) (hB : B' ≤ B) : StsIs w B' a es :=
  let ⟨hl, vs, hr, hx⟩ := h
  ⟨hl, vs, hr.mono hB, fun i hi => (hx i hi).mono hB⟩
theorem StIs.out {w : World} {B : Nat} {v : Array Value} {k n b : Int} {exps : List Ex} {xs ys : List St} (h : StIs w B v (.mk k n b exps xs ys)) :
    ∃ a cap ax cx ay cy, v = #[.int .i64 k, .int .i64 n, .int .i64 b, .slice a exps.length cap, .slice ax xs.length cx, .slice ay ys.length cy] ∧ ExsIs w B a exps ∧ StsIs w B ax xs ∧ StsIs w B ay ys := by
  cases h with
  | mk _ _ _ _ _ _ a cap ax cx ay cy vx vy he hlx hly hrx hry hx hy => exact ⟨a, cap, ax, cx, ay, cy, rfl, he, ⟨hlx, vx, hrx, hx⟩, ⟨hly, vy, hry, hy⟩⟩
theorem StIs.of {w : World} {B : Nat} {k n b : Int} {exps : List Ex} {xs ys : List St} {a ax ay : Option Addr} {cap cx cy : Nat} (he : ExsIs w B a exps) (hx : StsIs w B ax xs) (hy : StsIs w B ay ys) :
    StIs w B #[.int .i64 k, .int .i64 n, .int .i64 b, .slice a exps.length cap, .slice ax xs.length cx, .slice ay ys.length cy] (.mk k n b exps xs ys) :=
  let ⟨hlx, vx, hrx, hx⟩ := hx
  let ⟨hly, vy, hry, hy⟩ := hy
  .mk k n b exps xs ys a cap ax cx ay cy vx vy he hlx hly hrx hry hx hy
theorem StsIs.get {w : World} {B : Nat} {a : Option Addr} {es : List St} (h : StsIs w B a es) (i : Nat) (hi : i < es.length) :
    ∃ b o k n bs exps xs ys ea ec xa xc ya yc, a = some ⟨b, o, none⟩ ∧ B ≤ b ∧ b < w.heap.size ∧ es[i] = .mk k n bs exps xs ys ∧
      w.cell? ⟨b, o + i * 6, none⟩ = some (.int .i64 k) ∧ w.cell? ⟨b, o + i * 6 + 1, none⟩ = some (.int .i64 n) ∧ w.cell? ⟨b, o + i * 6 + 2, none⟩ = some (.int .i64 bs) ∧
      w.cell? ⟨b, o + i * 6 + 3, none⟩ = some (.slice ea exps.length ec) ∧ w.cell? ⟨b, o + i * 6 + 4, none⟩ = some (.slice xa xs.length xc) ∧ w.cell? ⟨b, o + i * 6 + 5, none⟩ = some (.slice ya ys.length yc) ∧
      StIs w B #[.int .i64 k, .int .i64 n, .int .i64 bs, .slice ea exps.length ec, .slice xa xs.length xc, .slice ya ys.length yc] (.mk k n bs exps xs ys) := by
  obtain ⟨hl, vs, hr, hx⟩ := h
  rcases hr with h0 | ⟨b, o, ha, hB, hb, _, hc⟩
  · omega
  · obtain ⟨k, n, bs, exps, xs, ys, he⟩ : ∃ k n bs exps xs ys, es[i] = St.mk k n bs exps xs ys := by cases he : es[i] with | mk k n bs exps xs ys => exact ⟨k, n, bs, exps, xs, ys, rfl⟩
    have h1 := hx i hi
    rw [he] at h1
    obtain ⟨ea, ec, xa, xc, ya, yc, hv, _⟩ := h1.out
    have h2 := (hc i hi).2
    rw [hv] at h2 h1
    exact ⟨b, o, k, n, bs, exps, xs, ys, ea, ec, xa, xc, ya, yc, ha, hB, hb, he, h2 0 (by omega), h2 1 (by omega), h2 2 (by omega), h2 3 (by omega), h2 4 (by omega), h2 5 (by omega), h1⟩

/-- The slice holds these numbers. -/
def IntsIs (w : World) (B : Nat) (a : Option Addr) (zs : List Int) : Prop := zs.length ≤ maxLen ∧ (zs.length = 0 ∨ ∃ b o, a = some ⟨b, o, none⟩ ∧ B ≤ b ∧ b < w.heap.size ∧ (0 < B → ∃ cs T, w.heap[b]? = some (.cells cs T (0, 0))) ∧ ∀ (i : Nat) (h : i < zs.length), w.cell? ⟨b, o + i, none⟩ = some (.int .i64 zs[i]))
theorem IntsIs.stays {w w' : World} {B : Nat} {a : Option Addr} {zs : List Int} (h : IntsIs w B a zs) (bel : Below w.heap.size w w') : IntsIs w' B a zs := by
  obtain ⟨hl, h⟩ := h
  refine ⟨hl, ?_⟩
  rcases h with h | ⟨b, o, ha, hB, hb, hp, hc⟩
  · exact Or.inl h
  · exact Or.inr ⟨b, o, ha, hB, Nat.lt_of_lt_of_le hb bel.size, fun h0 => let ⟨cs, T, h⟩ := hp h0; ⟨cs, T, (bel.block b hb).trans h⟩, fun i hi => (bel.cell (p := ⟨b, o + i, none⟩) hb).trans (hc i hi)⟩
/-- A program, and its four cells. -/
structure Pr where
  sizes : List Int
  params : Int
  vars : Int
  body : List St
def PrIs (w : World) (B : Nat) (v : Array Value) (p : Pr) : Prop := ∃ a cap ab cb, v = #[.slice a p.sizes.length cap, .int .i64 p.params, .int .i64 p.vars, .slice ab p.body.length cb] ∧ IntsIs w B a p.sizes ∧ StsIs w B ab p.body
theorem PrIs.stays {w w' : World} {B : Nat} {v : Array Value} {p : Pr} (h : PrIs w B v p) (bel : Below w.heap.size w w') : PrIs w' B v p :=
  let ⟨a, cap, ab, cb, e, h1, h2⟩ := h
  ⟨a, cap, ab, cb, e, h1.stays bel, h2.stays bel⟩

/-! How great a thing is, as the law counts it. -/
mutual
def Ex.sz : Ex → Nat
  | .mk _ _ _ t kids => t.size + (kids.length + exsSum kids)
def exsSum : List Ex → Nat
  | [] => 0
  | e :: l => e.sz + exsSum l
end
def exsSz (l : List Ex) : Nat := l.length + exsSum l
mutual
def St.sz : St → Nat
  | .mk _ _ _ exps xs ys => exsSz exps + (xs.length + stsSum xs) + (ys.length + stsSum ys)
def stsSum : List St → Nat
  | [] => 0
  | e :: l => e.sz + stsSum l
end
def stsSz (l : List St) : Nat := l.length + stsSum l
def Pr.sz (p : Pr) : Nat := p.sizes.length + stsSz p.body
theorem Ex.sz_mk (k n b : Int) (t : ByteArray) (kids : List Ex) : (Ex.mk k n b t kids).sz = t.size + exsSz kids := by simp [Ex.sz, exsSz]
theorem St.sz_mk (k n b : Int) (exps : List Ex) (xs ys : List St) : (St.mk k n b exps xs ys).sz = exsSz exps + stsSz xs + stsSz ys := by simp [St.sz, stsSz]
theorem exsSum_append : ∀ (l m : List Ex), exsSum (l ++ m) = exsSum l + exsSum m
  | [], m => by simp [exsSum]
  | e :: l, m => by simp [exsSum, exsSum_append l m]; omega
theorem stsSum_append : ∀ (l m : List St), stsSum (l ++ m) = stsSum l + stsSum m
  | [], m => by simp [stsSum]
  | e :: l, m => by simp [stsSum, stsSum_append l m]; omega
theorem exsSum_take (l : List Ex) (i : Nat) (h : i < l.length) : exsSum (l.take (i + 1)) = exsSum (l.take i) + l[i].sz := by
  rw [List.take_succ_eq_append_getElem h, exsSum_append]; simp [exsSum]
theorem stsSum_take (l : List St) (i : Nat) (h : i < l.length) : stsSum (l.take (i + 1)) = stsSum (l.take i) + l[i].sz := by
  rw [List.take_succ_eq_append_getElem h, stsSum_append]; simp [stsSum]
theorem exsSum_le (l : List Ex) (i : Nat) : exsSum (l.take i) ≤ exsSum l := by
  conv => rhs; rw [← List.take_append_drop i l, exsSum_append]
  omega
theorem stsSum_le (l : List St) (i : Nat) : stsSum (l.take i) ≤ stsSum l := by
  conv => rhs; rw [← List.take_append_drop i l, stsSum_append]
  omega
theorem exsSum_mem {l : List Ex} {e : Ex} (h : e ∈ l) : e.sz ≤ exsSum l := by
  obtain ⟨a, b, rfl⟩ := List.append_of_mem h
  rw [exsSum_append]; simp [exsSum]; omega
theorem stsSum_mem {l : List St} {e : St} (h : e ∈ l) : e.sz ≤ stsSum l := by
  obtain ⟨a, b, rfl⟩ := List.append_of_mem h
  rw [stsSum_append]; simp [stsSum]; omega
end Go.Proofs.YtpkfbabgcinhhaaDoor

/- Lists of numbers: the contracts of szIntS, toIntS, eqIntS and of spec.l02Ints. -/
namespace Go.Proofs.YtpkfbabgcinhhaaDoor
open Go.ChangeShapes Go.WideShapes Go.ChangeAt Go.RowKit

/-- What is left of L behind s. -/
def szR (s L : Nat) : Int := if s ≤ L then ((L - s : Nat) : Int) else -1
theorem szR_pos {s L : Nat} (h : s ≤ L) : szR s L = ((L - s : Nat) : Int) := if_pos h
theorem szR_neg {s L : Nat} (h : L < s) : szR s L = -1 := if_neg (by omega)
theorem maxLen_lt : maxLen ≤ 9223372036854775807 := by unfold maxLen; decide

theorem infoI : (Tryd.prog.info? 3).map (fun i => (i.zero, i.size, i.bytes)) = some (some (.int .i64 0), 1, 8) := by kernel_rfl
theorem info_out {P : Program} {e : TypeId} {z : Value} {s b : Nat} (h : (P.info? e).map (fun i => (i.zero, i.size, i.bytes)) = some (some z, s, b)) : ∃ i, P.info? e = some i ∧ i.zero = some z ∧ i.size = s ∧ i.bytes = b := by
  obtain ⟨i, hi, he⟩ := Option.map_eq_some_iff.1 h
  simp only [Prod.mk.injEq] at he
  exact ⟨i, hi, he.1, he.2.1, he.2.2⟩
/-- 'make([]T, n)': n elements of nought. -/
theorem make_n {P : Program} {t e : TypeId} {z : Value} {s b : Nat} (ht : P.underlying t = some (.slice e)) (hi : (P.info? e).map (fun i => (i.zero, i.size, i.bytes)) = some (some z, s, b)) (n : Nat) (hn : n ≤ 1048576) (hb : b ≤ 1000) (w : World) :
    (Instr.makeSlice t (.int .i64 (n : Int)) (.int .i64 (n : Int))).run P w = .ok (.slice (some ⟨w.heap.size, 0, none⟩) n n) (w.alloc (.cells (madeCells z.cells (n * s)) e)) := by
  obtain ⟨i, hi, hz, hs, hbb⟩ := info_out hi
  have hbn : b * n ≤ 1000 * 1048576 := Nat.mul_le_mul hb hn
  have hr := run_make (P := P) w t e i z ht hi hz .i64 .i64 n n (by omega) (Int.le_refl _) (by rw [hbb, ← Int.natCast_mul]; omega) (by omega)
  rw [hs] at hr
  simpa using hr
theorem below3 (w : World) (o1 o2 o3 : Obj) : Below w.heap.size w (((w.alloc o1).alloc o2).alloc o3) :=
  (((Below.refl _ _).alloc (Nat.le_refl _) _).alloc (by simp) _).alloc (by simp; omega) _
theorem three {w w1 : World} {o1 o2 o3 : Obj} (bel : Below (((w.alloc o1).alloc o2).alloc o3).heap.size (((w.alloc o1).alloc o2).alloc o3) w1) :
    w1.heap[w.heap.size]? = some o1 ∧ w1.heap[w.heap.size + 1]? = some o2 ∧ w1.heap[w.heap.size + 1 + 1]? = some o3 ∧ w.heap.size + 2 < w1.heap.size ∧ Below w.heap.size w w1 := by
  have e : (((w.alloc o1).alloc o2).alloc o3).heap = ((w.heap.push o1).push o2).push o3 := rfl
  have hz : (((w.alloc o1).alloc o2).alloc o3).heap.size = w.heap.size + 3 := by rw [e]; simp
  have hs := bel.size
  refine ⟨?_, ?_, ?_, by omega, (below3 w o1 o2 o3).trans (bel.mono (by omega))⟩
  · rw [bel.block _ (by omega), e, Array.getElem?_push, Array.getElem?_push, Array.getElem?_push]; simp; intro h; omega
  · rw [bel.block _ (by omega), e, Array.getElem?_push, Array.getElem?_push]; simp
  · rw [bel.block _ (by omega), e, Array.getElem?_push]; simp
theorem cells_of {w : World} {b : Nat} {cs : Array Value} {T : TypeId} (h : w.heap[b]? = some (.cells cs T (0, 0))) : (∀ o, w.cell? ⟨b, o, none⟩ = cs[o]?) ∧ ∀ o, w.frozen? ⟨b, o, none⟩ = false :=
  ⟨fun o => by simp [World.cell?, h], fun o => by simp [World.frozen?, h]⟩
theorem size_set (W : World) (a : Addr) (v : Value) : (W.setCell a v).heap.size = W.heap.size := by simp [World.setCell]

theorem below2 (w : World) (o1 o2 : Obj) : Below w.heap.size w ((w.alloc o1).alloc o2) := ((Below.refl _ _).alloc (Nat.le_refl _) _).alloc (by simp) _
/-- Two new blocks behind a call: what they hold. -/
theorem two {w w1 : World} {o1 o2 : Obj} (bel : Below ((w.alloc o1).alloc o2).heap.size ((w.alloc o1).alloc o2) w1) :
    w1.heap[w.heap.size]? = some o1 ∧ w1.heap[w.heap.size + 1]? = some o2 ∧ w.heap.size + 1 < w1.heap.size ∧ Below w.heap.size w w1 := by
  have e : ((w.alloc o1).alloc o2).heap = (w.heap.push o1).push o2 := rfl
  have hz : ((w.alloc o1).alloc o2).heap.size = w.heap.size + 2 := by rw [e]; simp
  have hs := bel.size
  refine ⟨?_, ?_, by omega, (below2 w o1 o2).trans (bel.mono (by omega))⟩
  · rw [bel.block _ (by omega), e, Array.getElem?_push, Array.getElem?_push]; simp
  · rw [bel.block _ (by omega), e, Array.getElem?_push]; simp
set_option maxHeartbeats 1000000 in
theorem szIntS_any (w : World) (a : Option Addr) (n cap L : Nat) (hn : n ≤ maxLen) (hL : L ≤ 1048576) :
    Calls Tryd.prog 19 #[.slice a n cap, .int .i64 L] w fun en w' => en = .returned (.int .i64 (szR n L)) ∧ w' = w := by
  have hm := maxLen_lt
  by_cases h0 : n ≤ L
  · rw [szR_pos h0]
    go_enter Tryd.func19, Tryd.ntmps19
    go_wp2
    go_ret
    exact ⟨ret_int (by omega), rfl⟩
  · rw [szR_neg (by omega)]
    go_enter Tryd.func19, Tryd.ntmps19
    go_wp2
    go_ret
    exact ⟨rfl, rfl⟩
/-- The first j numbers stand in the new block g. -/
def BuiltI (wr : World) (g : Nat) (zs : List Int) (j : Nat) : Prop :=
  ∃ cur, wr.heap[g]? = some (.cells cur 3 (0, 0)) ∧ cur.size = zs.length ∧ ∀ (i : Nat) (h : i < zs.length), i < j → cur[i]? = some (.int .i64 zs[i])
theorem BuiltI.step {wr : World} {g : Nat} {zs : List Int} {j : Nat} (hj : j < zs.length) (h : BuiltI wr g zs j) : BuiltI (wr.setCell ⟨g, j, none⟩ (.int .i64 zs[j])) g zs (j + 1) := by
  obtain ⟨cur, h1, h2, h3⟩ := h
  refine ⟨_, heap_setCell_same _ g _ _ _ _ h1, by simpa using h2, fun i hi hij => ?_⟩
  rw [Array.getElem?_setIfInBounds]
  by_cases he : j = i
  · subst he; rw [if_pos rfl, if_pos (by omega)]
  · rw [if_neg he]; exact h3 i hi (by omega)
theorem IntsIs.get {w : World} {B : Nat} {a : Option Addr} {zs : List Int} (h : IntsIs w B a zs) (i : Nat) (hi : i < zs.length) : ∃ b o, a = some ⟨b, o, none⟩ ∧ B ≤ b ∧ b < w.heap.size ∧ w.cell? ⟨b, o + i, none⟩ = some (.int .i64 zs[i]) := by
  rcases h.2 with h0 | ⟨b, o, ha, hB, hb, _, hc⟩
  · omega
  · exact ⟨b, o, ha, hB, hb, hc i hi⟩
theorem IntsIs.but {w w' : World} {B g : Nat} {a : Option Addr} {zs : List Int} (h : IntsIs w B a zs) (hg : g < B) (hb : But g w w') : IntsIs w' B a zs := by
  refine ⟨h.1, ?_⟩
  rcases h.2 with h0 | ⟨b, o, ha, hB, hbs, hp, hc⟩
  · exact Or.inl h0
  · exact Or.inr ⟨b, o, ha, hB, Nat.lt_of_lt_of_le hbs hb.size, fun h0 => let ⟨cs, T, h⟩ := hp h0; ⟨cs, T, (hb.block b hbs (by omega)).trans h⟩, fun i hi => (hb.cell hbs (by omega)).trans (hc i hi)⟩
theorem IntsIs.mono {w : World} {B B' : Nat} {a : Option Addr} {zs : List Int} (h : IntsIs w B a zs) (hB : B' ≤ B) : IntsIs w B' a zs := by
  refine ⟨h.1, ?_⟩
  rcases h.2 with h0 | ⟨b, o, ha, hb, hl, hp, hr⟩
  · exact Or.inl h0
  · exact Or.inr ⟨b, o, ha, Nat.le_trans hB hb, hl, fun h0 => hp (by omega), hr⟩
set_option maxHeartbeats 1000000 in
theorem toIntS_any (zs : List Int) (w : World) (B : Nat) (a : Option Addr) (cap : Nat) (h : IntsIs w B a zs) (hl : zs.length ≤ 1048576) :
    Calls Tryd.prog 8 #[.slice a zs.length cap] w fun en w' => ∃ g, en = .returned (.slice (some ⟨g, 0, none⟩) zs.length zs.length) ∧ IntsIs w' w.heap.size (some ⟨g, 0, none⟩) zs ∧ Below w.heap.size w w' := by
  have hl0 := h.1
  have hmk := make_n (P := Tryd.prog) Tryd.underlying22 infoI zs.length hl (by decide)
  have H := hideP h
  clear h
  go_enter Tryd.func8, Tryd.ntmps8
  go_wp2
  clear hmk
  go_loopw [4] (fun i wr => ∃ j : Nat, j ≤ zs.length ∧ i = .int .i64 j ∧ BuiltI wr w.heap.size zs j ∧ Below w.heap.size w wr) (fun i _ => zs.length - (intOf i).toNat)
  case atStart => exact ⟨0, Nat.zero_le _, rfl, ⟨_, by show (w.heap.push _)[w.heap.size]? = _; exact Array.getElem?_push_size, by simp [size_madeCells], fun _ _ h => absurd h (Nat.not_lt_zero _)⟩, (Below.refl _ _).alloc (Nat.le_refl _) _⟩
  case round =>
    obtain ⟨j, hj, rfl, hbt, bel⟩ := hrel
    by_cases hlt : j < zs.length
    · obtain ⟨b, o, rfl, _, hb, c0⟩ := (H.out.stays bel).get j hlt
      obtain ⟨z, hz⟩ : ∃ z, zs[j] = z := ⟨_, rfl⟩
      rw [hz] at c0
      obtain ⟨cur, h1, h2, h3⟩ := hbt
      have hd : ∃ v, wr.cell? ⟨w.heap.size, j, none⟩ = some v := ⟨cur[j], by simp [World.cell?, h1, show j < cur.size by omega]⟩
      obtain ⟨d, hd⟩ := hd
      have hf : wr.frozen? ⟨w.heap.size, j, none⟩ = false := by simp [World.frozen?, h1]
      have HT : Hid (BuiltI wr w.heap.size zs j) := ⟨cur, h1, h2, h3⟩
      have HZ := hideP hz
      have HB := hideP bel
      clear h1 h2 h3 hz bel
      go_wp2
      go_roundw
      case rel => exact ⟨j + 1, by omega, by go_num, by have := HT.out.step hlt; rw [HZ.out] at this; exact this, HB.out.setCell (Nat.le_refl _) _⟩
      case measure => simp [intOf]; omega
    · have hjn : j = zs.length := by omega
      subst hjn
      go_wp2
      go_ret
      obtain ⟨cur, h1, h2, h3⟩ := hbt
      exact ⟨_, rfl, ⟨hl0, Or.inr ⟨_, 0, rfl, Nat.le_refl _, (Array.getElem?_eq_some_iff.1 h1).1, fun _ => ⟨cur, _, h1⟩, fun i hi => by simp only [World.cell?, h1, Nat.zero_add]; exact h3 i hi hi⟩⟩, bel⟩
set_option maxHeartbeats 1000000 in
theorem eqIntS_same (zs : List Int) (w : World) (B1 B2 : Nat) (a1 a2 : Option Addr) (c1 c2 : Nat) (h1 : IntsIs w B1 a1 zs) (h2 : IntsIs w B2 a2 zs) :
    Calls Tryd.prog 12 #[.slice a1 zs.length c1, .slice a2 zs.length c2] w fun en w' => en = .returned (.bool true) ∧ Below w.heap.size w w' := by
  have hm := maxLen_lt
  have hl := h1.1
  have H1 := hideP h1
  have H2 := hideP h2
  clear h1 h2
  go_enter Tryd.func12, Tryd.ntmps12
  go_wp2
  go_loopw [5] (fun i wr => ∃ j : Nat, j ≤ zs.length ∧ i = .int .i64 j ∧ Below w.heap.size w wr) (fun i _ => zs.length - (intOf i).toNat)
  case atStart => exact ⟨0, Nat.zero_le _, rfl, Below.refl _ _⟩
  case round =>
    obtain ⟨j, hj, rfl, bel⟩ := hrel
    by_cases hlt : j < zs.length
    · obtain ⟨b, o, rfl, _, hb, p0⟩ := (H1.out.stays bel).get j hlt
      obtain ⟨b', o', rfl, _, hb', q0⟩ := (H2.out.stays bel).get j hlt
      obtain ⟨z, hz⟩ : ∃ z, zs[j] = z := ⟨_, rfl⟩
      rw [hz] at p0 q0
      have HB := hideP bel
      clear hz bel
      go_wp2
      go_region
      all_goals
        go_wp2
        go_roundw
        case rel => exact ⟨j + 1, by omega, by go_num, by first | exact HB.out | exact HB.out.drew | exact HB.out.drew.drew⟩
        case measure => simp [intOf]; omega
    · go_wp2
      go_ret
      exact ⟨rfl, bel⟩

/-- Two lists, told by their elements one by one. -/
def IntsGet (w : World) (a : Option Addr) (zs : List Int) : Prop := zs.length ≤ maxLen ∧ (zs.length = 0 ∨ ∃ b o, a = some ⟨b, o, none⟩ ∧ ∀ (i : Nat) (h : i < zs.length), w.cell? ⟨b, o + i, none⟩ = some (.int .i64 zs[i]))
theorem IntsIs.sees {w : World} {B : Nat} {a : Option Addr} {zs : List Int} (h : IntsIs w B a zs) : IntsGet w a zs := by
  refine ⟨h.1, ?_⟩
  rcases h.2 with h0 | ⟨b, o, ha, _, _, _, hc⟩
  · exact Or.inl h0
  · exact Or.inr ⟨b, o, ha, hc⟩
theorem IntsGet.take {w : World} {a : Option Addr} {zs : List Int} (h : IntsGet w a zs) (n : Nat) (hn : n ≤ zs.length) : IntsGet w a (zs.take n) := by
  have hl : (zs.take n).length = n := by rw [List.length_take]; omega
  refine ⟨by have := h.1; omega, ?_⟩
  rcases h.2 with h0 | ⟨b, o, ha, hc⟩
  · exact Or.inl (by omega)
  · refine Or.inr ⟨b, o, ha, fun i hi => ?_⟩
    rw [List.getElem_take]; exact hc i (by omega)
theorem IntsGet.cellsame {w w' : World} {a : Option Addr} {zs : List Int} (h : IntsGet w a zs) (hc : ∀ p, w'.cell? p = w.cell? p) : IntsGet w' a zs := by
  refine ⟨h.1, ?_⟩
  rcases h.2 with h0 | ⟨b, o, ha, hg⟩
  · exact Or.inl h0
  · exact Or.inr ⟨b, o, ha, fun i hi => (hc _).trans (hg i hi)⟩
theorem IntsGet.get {w : World} {a : Option Addr} {zs : List Int} (h : IntsGet w a zs) (i : Nat) (hi : i < zs.length) : ∃ b o, a = some ⟨b, o, none⟩ ∧ w.cell? ⟨b, o + i, none⟩ = some (.int .i64 zs[i]) := by
  rcases h.2 with h0 | ⟨b, o, ha, hc⟩
  · omega
  · exact ⟨b, o, ha, hc i hi⟩
theorem beq_at {xs ys : List Int} {j : Nat} (h : j < xs.length) (h' : j < ys.length) (hne : xs[j] ≠ ys[j]) : (xs == ys) = false := by
  rw [beq_eq_false_iff_ne]; rintro rfl; exact hne rfl
theorem beq_len {xs ys : List Int} (h : xs.length ≠ ys.length) : (xs == ys) = false := by
  rw [beq_eq_false_iff_ne]; rintro rfl; exact h rfl
theorem beq_same {xs ys : List Int} (h : xs.length = ys.length) (hs : ∀ i (hi : i < xs.length) (hi' : i < ys.length), xs[i] = ys[i]) : (xs == ys) = true := by
  rw [beq_iff_eq]; exact List.ext_getElem h hs

end Go.Proofs.YtpkfbabgcinhhaaDoor

/- Slices of structs in general: each element is so many cells; how such a slice stays, is read, is copied into a new block. -/
namespace Go.Proofs.YtpkfbabgcinhhaaDoor
open Go.ChangeShapes Go.WideShapes Go.ChangeAt Go.RowKit

def I64 (n : Int) : Prop := -9223372036854775808 ≤ n ∧ n ≤ 9223372036854775807
theorem i64_of {n : Int} (h : (Lit.int .i64 n).wf = true) : I64 n := by
  have e1 : IntKind.i64.min = -9223372036854775808 := rfl
  have e2 : IntKind.i64.max = 9223372036854775807 := rfl
  simp only [Lit.wf, e1, e2] at h
  simpa [I64] using h
/-- The slice holds these things, each of sz cells. -/
def SlIs {α : Type} (Is : World → Nat → Array Value → α → Prop) (sz : Nat) (w : World) (B : Nat) (a : Option Addr) (xs : List α) : Prop :=
  xs.length ≤ maxLen ∧ ∃ vs, RowAt w B a xs.length sz vs ∧ ∀ (i : Nat) (h : i < xs.length), Is w B (vs i) xs[i]
/-- What is said of a thing's cells stays when memory grows, when a block below is written, and at a lower bound. -/
structure Keeps {α : Type} (Is : World → Nat → Array Value → α → Prop) : Prop where
  stays : ∀ {w w' : World} {B : Nat} {v : Array Value} {x : α}, Is w B v x → Below w.heap.size w w' → Is w' B v x
  but : ∀ {w w' : World} {B g : Nat} {v : Array Value} {x : α}, Is w B v x → g < B → But g w w' → Is w' B v x
  mono : ∀ {w : World} {B B' : Nat} {v : Array Value} {x : α}, Is w B v x → B' ≤ B → Is w B' v x
section
variable {α : Type} {Is : World → Nat → Array Value → α → Prop} {sz : Nat}
theorem SlIs.stays (K : Keeps Is) {w w' : World} {B : Nat} {a : Option Addr} {xs : List α} (h : SlIs Is sz w B a xs) (bel : Below w.heap.size w w') : SlIs Is sz w' B a xs :=
  let ⟨hl, vs, hr, hx⟩ := h
  ⟨hl, vs, hr.below bel, fun i hi => K.stays (hx i hi) bel⟩
theorem SlIs.but (K : Keeps Is) {w w' : World} {B g : Nat} {a : Option Addr} {xs : List α} (h : SlIs Is sz w B a xs) (hg : g < B) (hb : But g w w') : SlIs Is sz w' B a xs :=
  let ⟨hl, vs, hr, hx⟩ := h
  ⟨hl, vs, hr.but hg hb, fun i hi => K.but (hx i hi) hg hb⟩
theorem SlIs.mono (K : Keeps Is) {w : World} {B B' : Nat} {a : Option Addr} {xs : List α} (h : SlIs Is sz w B a xs) (hB : B' ≤ B) : SlIs Is sz w B' a xs :=
  let ⟨hl, vs, hr, hx⟩ := h
  ⟨hl, vs, hr.mono hB, fun i hi => K.mono (hx i hi) hB⟩
/-- Element i: where it lies, its cells, and that they are it. -/
theorem SlIs.at {w : World} {B : Nat} {a : Option Addr} {xs : List α} (h : SlIs Is sz w B a xs) (i : Nat) (hi : i < xs.length) :
    ∃ b o v, a = some ⟨b, o, none⟩ ∧ B ≤ b ∧ b < w.heap.size ∧ v.size = sz ∧ (∀ j, j < sz → w.cell? ⟨b, o + i * sz + j, none⟩ = v[j]?) ∧ Is w B v xs[i] := by
  obtain ⟨_, vs, hr, hx⟩ := h
  rcases hr with h0 | ⟨b, o, ha, hB, hb, _, hc⟩
  · omega
  · exact ⟨b, o, vs i, ha, hB, hb, (hc i hi).1, (hc i hi).2, hx i hi⟩

/-- How great a list is, as the law counts it. -/
def slSum (f : α → Nat) : List α → Nat
  | [] => 0
  | e :: l => f e + slSum f l
def slSz (f : α → Nat) (l : List α) : Nat := l.length + slSum f l
theorem slSum_append (f : α → Nat) : ∀ (l m : List α), slSum f (l ++ m) = slSum f l + slSum f m
  | [], m => by simp [slSum]
  | e :: l, m => by simp [slSum, slSum_append f l m]; omega
theorem slSum_take (f : α → Nat) (l : List α) (i : Nat) (h : i < l.length) : slSum f (l.take (i + 1)) = slSum f (l.take i) + f l[i] := by
  rw [List.take_succ_eq_append_getElem h, slSum_append]; simp [slSum]
theorem slSum_le (f : α → Nat) (l : List α) (i : Nat) : slSum f (l.take i) ≤ slSum f l := by
  conv => rhs; rw [← List.take_append_drop i l, slSum_append]
  omega
theorem slSum_mem (f : α → Nat) {l : List α} {e : α} (h : e ∈ l) : f e ≤ slSum f l := by
  obtain ⟨a, b, rfl⟩ := List.append_of_mem h
  rw [slSum_append]; simp [slSum]; omega

/-- Values stored one behind another into block g from p on. -/
def sets (g : Nat) : World → Nat → List Value → World
  | w, _, [] => w
  | w, p, v :: l => sets g (w.setCell ⟨g, p, none⟩ v) (p + 1) l
def setsA : Array Value → Nat → List Value → Array Value
  | c, _, [] => c
  | c, p, v :: l => setsA (c.setIfInBounds p v) (p + 1) l
theorem setsA_size : ∀ (l : List Value) (c : Array Value) (p : Nat), (setsA c p l).size = c.size
  | [], _, _ => rfl
  | v :: l, c, p => by rw [setsA, setsA_size l]; simp
theorem setsA_out : ∀ (l : List Value) (c : Array Value) (p i : Nat), (i < p ∨ p + l.length ≤ i) → (setsA c p l)[i]? = c[i]?
  | [], _, _, _, _ => rfl
  | v :: l, c, p, i, h => by
    rw [setsA, setsA_out l _ _ _ (by simp at h; omega), Array.getElem?_setIfInBounds, if_neg (by simp at h; omega)]
theorem setsA_in : ∀ (l : List Value) (c : Array Value) (p r : Nat), p + l.length ≤ c.size → r < l.length → (setsA c p l)[p + r]? = l[r]?
  | [], _, _, _, _, h => absurd h (Nat.not_lt_zero _)
  | v :: l, c, p, 0, h, _ => by
    rw [setsA, setsA_out l _ _ _ (by omega), Nat.add_zero, Array.getElem?_setIfInBounds, if_pos rfl, if_pos (by simp at h; omega)]; rfl
  | v :: l, c, p, r + 1, h, hr => by
    have := setsA_in l (c.setIfInBounds p v) (p + 1) r (by simp at h ⊢; omega) (by simpa using hr)
    rw [setsA, show p + (r + 1) = p + 1 + r by omega, this]; simp
theorem sets_heap {g : Nat} {T : TypeId} : ∀ (l : List Value) (w : World) (p : Nat) (c : Array Value), w.heap[g]? = some (.cells c T (0, 0)) → (sets g w p l).heap[g]? = some (.cells (setsA c p l) T (0, 0))
  | [], _, _, _, h => h
  | v :: l, w, p, c, h => sets_heap l _ _ _ (heap_setCell_same w g p c T v h)
theorem sets_but {g : Nat} {w0 : World} : ∀ (l : List Value) (w : World) (p : Nat), But g w0 w → But g w0 (sets g w p l)
  | [], _, _, h => h
  | v :: l, _, p, h => sets_but l _ (p + 1) (h.set p v)
theorem sets_below {g B : Nat} {w0 : World} (hg : B ≤ g) : ∀ (l : List Value) (w : World) (p : Nat), Below B w0 w → Below B w0 (sets g w p l)
  | [], _, _, h => h
  | v :: l, _, p, h => sets_below hg l _ (p + 1) (h.setCell (p := ⟨g, p, none⟩) hg v)

/-- The first j of the list's elements stand in the new block g. -/
def Built (Is : World → Nat → Array Value → α → Prop) (sz : Nat) (T : TypeId) (wr : World) (g : Nat) (es : List α) (j : Nat) : Prop :=
  ∃ cur, wr.heap[g]? = some (.cells cur T (0, 0)) ∧ cur.size = es.length * sz ∧ ∀ (i : Nat) (h : i < es.length), i < j → ∃ v, v.size = sz ∧ (∀ r, r < sz → cur[i * sz + r]? = v[r]?) ∧ Is wr (g + 1) v es[i]
theorem Built.lt {T : TypeId} {wr : World} {g : Nat} {es : List α} {j : Nat} (h : Built Is sz T wr g es j) : g < wr.heap.size := by
  obtain ⟨cur, h, _⟩ := h; exact (Array.getElem?_eq_some_iff.1 h).1
theorem Built.on (K : Keeps Is) {T : TypeId} {wr w1 : World} {g : Nat} {es : List α} {j : Nat} (h : Built Is sz T wr g es j) (bel : Below wr.heap.size wr w1) : Built Is sz T w1 g es j := by
  have hg := h.lt
  obtain ⟨cur, h1, h2, h3⟩ := h
  exact ⟨cur, (bel.block g hg).trans h1, h2, fun i hi hj => let ⟨v, a, b, c⟩ := h3 i hi hj; ⟨v, a, b, K.stays c bel⟩⟩
/-- The cell and mark facts that a store into block g needs. -/
theorem Built.cells {T : TypeId} {wr : World} {g : Nat} {es : List α} {j : Nat} (h : Built Is sz T wr g es j) :
    (∀ o, o < es.length * sz → ∃ v, wr.cell? ⟨g, o, none⟩ = some v) ∧ ∀ o, wr.frozen? ⟨g, o, none⟩ = false := by
  obtain ⟨cur, h1, h2, _⟩ := h
  exact ⟨fun o ho => ⟨cur[o], by simp [World.cell?, h1, show o < cur.size by omega]⟩, fun o => by simp [World.frozen?, h1]⟩
theorem mul_step (j n sz : Nat) (h : j < n) : j * sz + sz ≤ n * sz := by
  have := Nat.mul_le_mul_right sz (show j + 1 ≤ n from h)
  rw [Nat.succ_mul] at this; exact this
theorem Built.step (K : Keeps Is) {w1 : World} {T : TypeId} {g : Nat} {es : List α} {j : Nat} (hj : j < es.length) (h : Built Is sz T w1 g es j) {l : List Value} (hl : l.length = sz) (hx : Is w1 (g + 1) l.toArray es[j]) :
    Built Is sz T (sets g w1 (j * sz) l) g es (j + 1) := by
  obtain ⟨cur, h1, h2, h3⟩ := h
  have hb : But g w1 (sets g w1 (j * sz) l) := sets_but l _ _ (But.refl g w1)
  have hm := mul_step j es.length sz hj
  refine ⟨_, sets_heap l _ _ _ h1, (setsA_size l _ _).trans h2, fun i hi hij => ?_⟩
  by_cases he : i = j
  · subst he
    exact ⟨_, by simpa using hl, fun r hr => by rw [setsA_in l _ _ _ (by omega) (by omega)]; simp, K.but hx (by omega) hb⟩
  · obtain ⟨v, a, b, c⟩ := h3 i hi (by omega)
    have hm2 := mul_step i j sz (by omega)
    exact ⟨v, a, fun r hr => (setsA_out l _ _ _ (Or.inl (by omega))).trans (b r hr), K.but c (by omega) hb⟩
theorem Built.row {T : TypeId} {wr : World} {g : Nat} {es : List α} (h : Built Is sz T wr g es es.length) :
    ∃ vs, RowAt wr g (some ⟨g, 0, none⟩) es.length sz vs ∧ ∀ (i : Nat) (hi : i < es.length), Is wr (g + 1) (vs i) es[i] := by
  have hg := h.lt
  obtain ⟨cur, h1, h2, h3⟩ := h
  have each : ∀ i, i < es.length → ∃ v : Array Value, (v.size = sz ∧ ∀ r, r < sz → cur[i * sz + r]? = v[r]?) ∧ ∀ hi : i < es.length, Is wr (g + 1) v es[i] := fun i hi => let ⟨v, a, b, c⟩ := h3 i hi hi; ⟨v, ⟨a, b⟩, fun _ => c⟩
  obtain ⟨vs, hvs⟩ := Deep.choose_lt (α := Array Value) each
  refine ⟨vs, Or.inr ⟨g, 0, rfl, Nat.le_refl _, hg, fun _ => ⟨cur, T, h1⟩, fun i hi => ⟨(hvs i hi).1.1, fun r hr => ?_⟩⟩, fun i hi => (hvs i hi).2 hi⟩
  rw [← (hvs i hi).1.2 r hr]
  simp [World.cell?, h1]
theorem Built.is (K : Keeps Is) {T : TypeId} {wr : World} {g B : Nat} {es : List α} (h : Built Is sz T wr g es es.length) (hl : es.length ≤ maxLen) (hB : B ≤ g) : SlIs Is sz wr B (some ⟨g, 0, none⟩) es :=
  let ⟨vs, hr, hx⟩ := h.row
  ⟨hl, vs, hr.mono hB, fun i hi => K.mono (hx i hi) (by omega)⟩
theorem built_start (Is : World → Nat → Array Value → α → Prop) (w : World) (z : Array Value) (sz : Nat) (T : TypeId) (es : List α) : Built Is sz T (w.alloc (.cells (madeCells z (es.length * sz)) T)) w.heap.size es 0 :=
  ⟨_, by show (w.heap.push _)[w.heap.size]? = _; exact Array.getElem?_push_size, size_madeCells _ _, fun _ _ h => absurd h (Nat.not_lt_zero _)⟩
end
end Go.Proofs.YtpkfbabgcinhhaaDoor
