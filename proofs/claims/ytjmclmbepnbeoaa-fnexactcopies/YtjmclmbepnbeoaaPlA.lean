/- Plain lists and bytes, no program: what chapter 1's functions answer, as functions of lists of bytes. -/
import Derived.Laws.Strings
import Derived.Lib.Strings
import Derived.Below
import Derived.WalkKit
import Derived.OpenShut
import Derived.Test.YtjmclmbepnbeoaaRows
import Derived.ProofKit
import Derived.ShutString
import Derived.WalkSpells
import Derived.WalkLawsBesides
namespace Go.Proofs.Ytjmclmbepnbeoaa

def hasB (l : List ByteArray) (s : ByteArray) : Bool := l.any fun x => x.toList == s.toList
theorem hasB_drop_true {l : List ByteArray} {s : ByteArray} {k : Nat} (hk : k < l.length) (h : ((l[k]).toList == s.toList) = true) : hasB (l.drop k) s = true := by
  unfold hasB; rw [List.drop_eq_getElem_cons hk, List.any_cons, h, Bool.true_or]
theorem hasB_drop_false {l : List ByteArray} {s : ByteArray} {k : Nat} (hk : k < l.length) (h : ((l[k]).toList == s.toList) = false) : hasB (l.drop k) s = hasB (l.drop (k+1)) s := by
  unfold hasB; rw [List.drop_eq_getElem_cons hk, List.any_cons, h, Bool.false_or]
theorem ret_bool {a b : Bool} (h : a = b) : Ending.returned (.bool a) = .returned (.bool b) := by rw [h]
theorem ret_int {k : IntKind} {a b : Int} (h : a = b) : Ending.returned (.int k a) = .returned (.int k b) := by rw [h]
theorem ret_str {a b : ByteArray} (h : a = b) : Ending.returned (.string a) = .returned (.string b) := by rw [h]

def wd (l : List UInt8) : ByteArray := ⟨l.toArray⟩
theorem wd_toList (l : List UInt8) : (wd l).toList = l := ByteArray.toList_mk l
def theWords : List ByteArray := [wd [109, 101, 109], wd [102, 110], wd [108, 101, 116], wd [112, 116, 114], wd [105, 110], wd [105, 102], wd [101, 108, 115, 101], wd [119, 104, 105, 108, 101], wd [112, 117, 116], wd [103, 101, 116], wd [114, 101, 116, 117, 114, 110]]
/-- Whether a list of bytes is one of the words. -/
def isWordL (l : List UInt8) : Bool := l == [109, 101, 109] || l == [102, 110] || l == [108, 101, 116] || l == [112, 116, 114] || l == [105, 110] || l == [105, 102] || l == [101, 108, 115, 101] || l == [119, 104, 105, 108, 101] || l == [112, 117, 116] || l == [103, 101, 116] || l == [114, 101, 116, 117, 114, 110]
theorem beq_comm8 (a b : List UInt8) : (a == b) = (b == a) := by rw [Bool.eq_iff_iff, beq_iff_eq, beq_iff_eq]; exact eq_comm
theorem hasB_cons (x : List UInt8) (l : List ByteArray) (s : ByteArray) : hasB (wd x :: l) s = (s.toList == x || hasB l s) := by
  simp only [hasB, List.any_cons, wd_toList]; rw [beq_comm8]
theorem hasB_nil (s : ByteArray) : hasB [] s = false := rfl
theorem hasB_theWords (s : ByteArray) : hasB theWords s = isWordL s.toList := by
  unfold theWords isWordL
  simp only [hasB_cons, hasB_nil, Bool.or_false, Bool.or_assoc]
theorem hasB_theWords' (s : ByteArray) : hasB theWords s = isWordL s.data.toList := by rw [hasB_theWords, Lib.toList_data]

/-! Letters, digits, names -/
def inB (x a b : Int) : Bool := decide (a ≤ x ∧ x ≤ b)
def letB (n : Int) : Bool := inB n 97 122
def digB (n : Int) : Bool := inB n 48 57
def an (c : UInt8) : Bool := letB c.toNat || digB c.toNat
/-- How many letters and digits a text begins with. -/
def nlen (l : List UInt8) : Nat := (l.takeWhile an).length
theorem nlen_cons (c : UInt8) (l : List UInt8) : nlen (c :: l) = if an c = true then nlen l + 1 else 0 := by
  unfold nlen; rw [List.takeWhile_cons]; split <;> simp
theorem nlen_le (l : List UInt8) : nlen l ≤ l.length := by
  induction l with
  | nil => simp [nlen]
  | cons c l ih => rw [nlen_cons]; split <;> simp; omega
theorem drop_cons (s : ByteArray) (k : Nat) (h : k < s.size) : s.data.toList.drop k = s[k] :: s.data.toList.drop (k + 1) := by
  rw [List.drop_eq_getElem_cons (by simpa using h)]; rfl
theorem dlen (s : ByteArray) : s.data.toList.length = s.size := by simp
theorem nlen_step (s : ByteArray) (k : Nat) (h : k < s.size) (ha : an s[k] = true) : nlen (s.data.toList.drop k) = nlen (s.data.toList.drop (k + 1)) + 1 := by
  rw [drop_cons s k h, nlen_cons, if_pos ha]
theorem nlen_stop (s : ByteArray) (k : Nat) (h : k < s.size) (ha : an s[k] = false) : nlen (s.data.toList.drop k) = 0 := by
  rw [drop_cons s k h, nlen_cons, if_neg (by simp [ha])]
theorem nlen_end (s : ByteArray) (k : Nat) (h : s.size ≤ k) : nlen (s.data.toList.drop k) = 0 := by
  rw [List.drop_of_length_le (by rw [dlen]; exact h)]; rfl
theorem nlen_all (l : List UInt8) : (nlen l = l.length) ↔ l.all an = true := by
  induction l with
  | nil => simp [nlen]
  | cons c l ih =>
    rw [nlen_cons]
    by_cases h : an c = true
    · simp only [h, if_true, List.length_cons, List.all_cons, Bool.true_and]; rw [← ih]; omega
    · simp [h]
/-- Whether a list of bytes is a name. -/
def nameL (l : List UInt8) : Bool := decide (1 ≤ l.length) && decide (l.length ≤ 8) && letB (l.headD 0).toNat && decide (nlen l = l.length) && !isWordL l
theorem head_data (s : ByteArray) (h : 0 < s.size) : s.data.toList.headD 0 = s[0] := by
  have := drop_cons s 0 h; rw [List.drop_zero] at this; rw [this]; rfl
theorem nameL_short (s : ByteArray) (h : s.size < 1) : nameL s.data.toList = false := by
  unfold nameL; rw [dlen, decide_eq_false (by omega : ¬ 1 ≤ s.size)]; rfl
theorem nameL_long (s : ByteArray) (h : 8 < s.size) : nameL s.data.toList = false := by
  unfold nameL; rw [dlen, decide_eq_false (by omega : ¬ s.size ≤ 8)]; simp
theorem nameL_head (s : ByteArray) (h : 0 < s.size) (hL : letB s[0].toNat = false) : nameL s.data.toList = false := by
  unfold nameL; rw [head_data s h, hL]; simp
theorem nameL_nlen (s : ByteArray) (hn : nlen s.data.toList ≠ s.size) : nameL s.data.toList = false := by
  unfold nameL; rw [dlen, decide_eq_false hn]; simp
theorem nameL_word (s : ByteArray) (hn : isWordL s.data.toList = true) : nameL s.data.toList = false := by
  unfold nameL; rw [hn]; simp
theorem nameL_yes (s : ByteArray) (h1 : 1 ≤ s.size) (h8 : s.size ≤ 8) (hL : letB s[0].toNat = true) (hn : nlen s.data.toList = s.size) (hw : isWordL s.data.toList = false) : nameL s.data.toList = true := by
  unfold nameL; rw [head_data s h1, hL, dlen, hn, hw]; simp [h1, h8]
end Go.Proofs.Ytjmclmbepnbeoaa

/- Worlds that have grown: what lay below stays. -/
namespace Go.Proofs.Ytjmclmbepnbeoaa
open Go.RowKit
theorem hideP {p : Prop} (h : p) : Hid p := h
theorem var_below {P : Program} {w w' : World} {name : String} {v : Array Value} (h : w.var? P name = some v) (hb : Below w.heap.size w w') : w'.var? P name = some v := by
  unfold World.var? at *
  cases hg : P.globalNamed name with
  | none => simp [hg] at h
  | some g =>
    simp only [hg, Option.bind_some] at h ⊢
    have hlt : g < w.heap.size := by
      rcases Nat.lt_or_ge g w.heap.size with h' | h'
      · exact h'
      · rw [Array.getElem?_eq_none h'] at h; simp at h
    rw [hb.block g hlt]
    exact h
/-- Behind a call that keeps what was there: each old cell reads as it did, each old mark too. -/
theorem bcell {W w1 : World} (hb : Below W.heap.size W w1) : (∀ b o, b < W.heap.size → w1.cell? ⟨b, o, none⟩ = W.cell? ⟨b, o, none⟩) ∧ (∀ b o, b < W.heap.size → w1.frozen? ⟨b, o, none⟩ = W.frozen? ⟨b, o, none⟩) :=
  ⟨fun b o h => hb.cell (p := ⟨b, o, none⟩) h, fun b o h => hb.frozen (p := ⟨b, o, none⟩) h⟩
theorem hlt_of {w w1 : World} {o : Obj} (h : Below (w.alloc o).heap.size (w.alloc o) w1) : w.heap.size < w1.heap.size := by have := h.size; simp at this; omega
theorem below_alloc {w w1 : World} {o : Obj} (h : Below (w.alloc o).heap.size (w.alloc o) w1) : Hid (Below (w.alloc o).heap.size (w.alloc o) w1) := h
theorem below_cat {a w1 w2 : World} (h : Hid (Below a.heap.size a w1)) (k : Below w1.heap.size w1 w2) : Below a.heap.size a w2 := h.out.trans (k.mono h.out.size)
theorem below_new {w w1 : World} {o : Obj} (h : Below (w.alloc o).heap.size (w.alloc o) w1) : Below w.heap.size w w1 :=
  ((Below.refl w.heap.size w).alloc (Nat.le_refl _) o).trans (h.mono (by simp))
theorem below_set4 {w w1 : World} (h : Below w.heap.size w w1) (v0 v1 v2 v3 : Value) : Below w.heap.size w ((((w1.setCell ⟨w.heap.size, 0, none⟩ v0).setCell ⟨w.heap.size, 1, none⟩ v1).setCell ⟨w.heap.size, 2, none⟩ v2).setCell ⟨w.heap.size, 3, none⟩ v3) :=
  (((h.setCell (p := ⟨w.heap.size, 0, none⟩) (Nat.le_refl _) v0).setCell (p := ⟨w.heap.size, 1, none⟩) (Nat.le_refl _) v1).setCell (p := ⟨w.heap.size, 2, none⟩) (Nat.le_refl _) v2).setCell (p := ⟨w.heap.size, 3, none⟩) (Nat.le_refl _) v3
/-- One step behind another. -/
theorem below_trans {a b c : World} (h : Below a.heap.size a b) (k : Below b.heap.size b c) : Below a.heap.size a c := h.trans (k.mono h.size)
end Go.Proofs.Ytjmclmbepnbeoaa

/- Lists of texts in memory; worlds that differ in one block. -/
namespace Go.Proofs.Ytjmclmbepnbeoaa
open Go.RowKit
/-- The slice begins at the head of block b and holds the texts ss. -/
def StrsAt (w : World) (b : Nat) (ss : List ByteArray) : Prop := ∀ (i : Nat) (h : i < ss.length), w.cell? ⟨b, i, none⟩ = some (.string ss[i])
theorem StrsAt.below {w w' : World} {b : Nat} {ss : List ByteArray} (h : StrsAt w b ss) (hb : b < w.heap.size) (bel : Below w.heap.size w w') : StrsAt w' b ss :=
  fun i hi => (bel.cell (p := ⟨b, i, none⟩) hb).trans (h i hi)

/-- w' is w but for block b and for blocks that are new. -/
structure But (b : Nat) (w w' : World) : Prop where
  os : w'.os = w.os
  tape : w'.tape = w.tape
  output : w'.output = w.output
  size : w.heap.size ≤ w'.heap.size
  block : ∀ k, k < w.heap.size → k ≠ b → w'.heap[k]? = w.heap[k]?
theorem But.refl (b : Nat) (w : World) : But b w w := ⟨rfl, rfl, rfl, Nat.le_refl _, fun _ _ _ => rfl⟩
theorem But.on {b : Nat} {w w1 w2 : World} (h : But b w w1) (k : Below w1.heap.size w1 w2) : But b w w2 :=
  ⟨k.os.trans h.os, k.tape.trans h.tape, k.output.trans h.output, Nat.le_trans h.size k.size, fun i hi hne => (k.block i (Nat.lt_of_lt_of_le hi h.size)).trans (h.block i hi hne)⟩
theorem But.set {b : Nat} {w w1 : World} (h : But b w w1) (i : Nat) (v : Value) : But b w (w1.setCell ⟨b, i, none⟩ v) :=
  ⟨h.os, h.tape, h.output, by simp [World.setCell]; exact h.size, fun k hk hne => (Below.heap_setCell w1 ⟨b, i, none⟩ v k hne).trans (h.block k hk hne)⟩
theorem But.cell {b : Nat} {w w' : World} (h : But b w w') {c i : Nat} (hc : c < w.heap.size) (hne : c ≠ b) : w'.cell? ⟨c, i, none⟩ = w.cell? ⟨c, i, none⟩ := World.cell?_of_block (w := w) (a := ⟨c, i, none⟩) (h.block c hc hne)
/-- Block b lies below B only where B is beyond it: what the calls make stands from B on. -/
theorem But.below {b B : Nat} {w w' : World} (h : But b w w') (hB : B ≤ b) (hw : B ≤ w.heap.size) : Below B w w' :=
  ⟨h.os, h.tape, h.output, h.size, fun k hk => h.block k (by omega) (by omega)⟩
end Go.Proofs.Ytjmclmbepnbeoaa

/- Expressions, statements and programs as they lie in memory: a struct's cells, its lists behind slices. -/
namespace Go.Proofs.Ytjmclmbepnbeoaa
open Go.RowKit Go.ChangeShapes Go.WideShapes

inductive Ex where
  | mk (k n b : Int) (t : ByteArray) (kids : List Ex)
inductive St where
  | mk (k n b : Int) (exps : List Ex) (xs ys : List St)

instance : Inhabited Ex := ⟨.mk 0 0 0 ByteArray.empty []⟩
instance : Inhabited St := ⟨.mk 0 0 0 [] [] []⟩
theorem Ex.ind {P : Ex → Prop} (h : ∀ k n b t kids, (∀ e ∈ kids, P e) → P (.mk k n b t kids)) (e : Ex) : P e :=
  Ex.rec (motive_1 := P) (motive_2 := fun l => ∀ e ∈ l, P e) (fun k n b t kids ih => h k n b t kids ih) (fun _ hm => nomatch hm)
    (fun _ _ hx hl e he => by rcases List.mem_cons.1 he with rfl | he; exact hx; exact hl e he) e
theorem St.ind {P : St → Prop} (h : ∀ k n b exps xs ys, (∀ e ∈ xs, P e) → (∀ e ∈ ys, P e) → P (.mk k n b exps xs ys)) (e : St) : P e :=
  St.rec (motive_1 := P) (motive_2 := fun l => ∀ e ∈ l, P e) (fun k n b exps xs ys ihx ihy => h k n b exps xs ys ihx ihy) (fun _ hm => nomatch hm)
    (fun _ _ hx hl e he => by rcases List.mem_cons.1 he with rfl | he; exact hx; exact hl e he) e

/-- Element i of a slice of n elements of sz cells has the cells vs i; where B is not 0 the block is one that nobody froze. -/
def RowAt (w : World) (B : Nat) (a : Option Addr) (n sz : Nat) (vs : Nat → Array Value) : Prop :=
  n = 0 ∨ ∃ b o, a = some ⟨b, o, none⟩ ∧ B ≤ b ∧ b < w.heap.size ∧ (0 < B → ∃ cs T, w.heap[b]? = some (.cells cs T (0, 0))) ∧ ∀ i, i < n → (vs i).size = sz ∧ ∀ j, j < sz → w.cell? ⟨b, o + i * sz + j, none⟩ = (vs i)[j]?
theorem RowAt.below {w w' : World} {B : Nat} {a : Option Addr} {n sz : Nat} {vs : Nat → Array Value} (h : RowAt w B a n sz vs) (bel : Below w.heap.size w w') : RowAt w' B a n sz vs := by
  rcases h with h | ⟨b, o, ha, hB, hb, hp, hc⟩
  · exact Or.inl h
  · exact Or.inr ⟨b, o, ha, hB, Nat.lt_of_lt_of_le hb bel.size, fun h0 => let ⟨cs, T, h⟩ := hp h0; ⟨cs, T, (bel.block b hb).trans h⟩, fun i hi => ⟨(hc i hi).1, fun j hj => (bel.cell (p := ⟨b, o + i * sz + j, none⟩) hb).trans ((hc i hi).2 j hj)⟩⟩
theorem RowAt.but {w w' : World} {B g : Nat} {a : Option Addr} {n sz : Nat} {vs : Nat → Array Value} (h : RowAt w B a n sz vs) (hg : g < B) (hbut : But g w w') : RowAt w' B a n sz vs := by
  rcases h with h | ⟨b, o, ha, hB, hb, hp, hc⟩
  · exact Or.inl h
  · exact Or.inr ⟨b, o, ha, hB, Nat.lt_of_lt_of_le hb hbut.size, fun h0 => let ⟨cs, T, h⟩ := hp h0; ⟨cs, T, (hbut.block b hb (by omega)).trans h⟩, fun i hi => ⟨(hc i hi).1, fun j hj => (hbut.cell hb (by omega)).trans ((hc i hi).2 j hj)⟩⟩
theorem RowAt.mono {w : World} {B B' : Nat} {a : Option Addr} {n sz : Nat} {vs : Nat → Array Value} (h : RowAt w B a n sz vs) (hB' : B' ≤ B) : RowAt w B' a n sz vs := by
  rcases h with h | ⟨b, o, ha, hB, hb, hp, hc⟩
  · exact Or.inl h
  · exact Or.inr ⟨b, o, ha, Nat.le_trans hB' hB, hb, fun h0 => hp (by omega), hc⟩

/-- These five cells are the expression. -/
inductive ExIs (w : World) (B : Nat) : Array Value → Ex → Prop
  | mk (k n b : Int) (t : ByteArray) (kids : List Ex) (a : Option Addr) (cap : Nat) (vs : Nat → Array Value) (hl : kids.length ≤ maxLen) (ht : t.size ≤ maxLen)
      (hrow : RowAt w B a kids.length 5 vs) (hx : ∀ (i : Nat) (h : i < kids.length), ExIs w B (vs i) kids[i]) :
      ExIs w B #[.int .i64 k, .int .i64 n, .int .i64 b, .string t, .slice a kids.length cap] (.mk k n b t kids)
/-- The slice holds these expressions. -/
def ExsIs (w : World) (B : Nat) (a : Option Addr) (es : List Ex) : Prop := es.length ≤ maxLen ∧ ∃ vs, RowAt w B a es.length 5 vs ∧ ∀ (i : Nat) (h : i < es.length), ExIs w B (vs i) es[i]
theorem ExIs.stays {w w' : World} {B : Nat} {v : Array Value} {e : Ex} (h : ExIs w B v e) (bel : Below w.heap.size w w') : ExIs w' B v e := by
  induction h with
  | mk k n b t kids a cap vs hl ht hrow _ ih => exact .mk k n b t kids a cap vs hl ht (hrow.below bel) ih
theorem ExsIs.stays {w w' : World} {B : Nat} {a : Option Addr} {es : List Ex} (h : ExsIs w B a es) (bel : Below w.heap.size w w') : ExsIs w' B a es :=
  let ⟨hl, vs, hr, hx⟩ := h
  ⟨hl, vs, hr.below bel, fun i hi => (hx i hi).stays bel⟩
theorem ExIs.but {w w' : World} {B g : Nat} {v : Array Value} {e : Ex} (h : ExIs w B v e) (hg : g < B) (hb : But g w w') : ExIs w' B v e := by
  induction h with
  | mk k n b t kids a cap vs hl ht hrow _ ih => exact .mk k n b t kids a cap vs hl ht (hrow.but hg hb) ih
theorem ExsIs.but {w w' : World} {B g : Nat} {a : Option Addr} {es : List Ex} (h : ExsIs w B a es) (hg : g < B) (hb : But g w w') : ExsIs w' B a es :=
  let ⟨hl, vs, hr, hx⟩ := h
  ⟨hl, vs, hr.but hg hb, fun i hi => (hx i hi).but hg hb⟩
theorem ExIs.mono {w : World} {B B' : Nat} {v : Array Value} {e : Ex} (h : ExIs w B v e) (hB : B' ≤ B) : ExIs w B' v e := by
  induction h with
  | mk k n b t kids a cap vs hl ht hrow _ ih => exact .mk k n b t kids a cap vs hl ht (hrow.mono hB) ih
theorem ExsIs.mono {w : World} {B B' : Nat} {a : Option Addr} {es : List Ex} (h : ExsIs w B a es) (hB : B' ≤ B) : ExsIs w B' a es :=
  let ⟨hl, vs, hr, hx⟩ := h
  ⟨hl, vs, hr.mono hB, fun i hi => (hx i hi).mono hB⟩
theorem ExIs.out {w : World} {B : Nat} {v : Array Value} {k n b : Int} {t : ByteArray} {kids : List Ex} (h : ExIs w B v (.mk k n b t kids)) :
    ∃ a cap, v = #[.int .i64 k, .int .i64 n, .int .i64 b, .string t, .slice a kids.length cap] ∧ t.size ≤ maxLen ∧ ExsIs w B a kids := by
  cases h with
  | mk _ _ _ _ _ a cap vs hl ht hrow hx => exact ⟨a, cap, rfl, ht, hl, vs, hrow, hx⟩
theorem ExIs.of {w : World} {B : Nat} {k n b : Int} {t : ByteArray} {kids : List Ex} {a : Option Addr} {cap : Nat} (ht : t.size ≤ maxLen) (h : ExsIs w B a kids) :
    ExIs w B #[.int .i64 k, .int .i64 n, .int .i64 b, .string t, .slice a kids.length cap] (.mk k n b t kids) :=
  let ⟨hl, vs, hr, hx⟩ := h
  .mk k n b t kids a cap vs hl ht hr hx
/-- Element i of such a slice: where it lies, its five cells, its kids. -/
theorem ExsIs.get {w : World} {B : Nat} {a : Option Addr} {es : List Ex} (h : ExsIs w B a es) (i : Nat) (hi : i < es.length) :
    ∃ b o k n bs t kids ka kc, a = some ⟨b, o, none⟩ ∧ B ≤ b ∧ b < w.heap.size ∧ es[i] = .mk k n bs t kids ∧
      w.cell? ⟨b, o + i * 5, none⟩ = some (.int .i64 k) ∧ w.cell? ⟨b, o + i * 5 + 1, none⟩ = some (.int .i64 n) ∧ w.cell? ⟨b, o + i * 5 + 2, none⟩ = some (.int .i64 bs) ∧
      w.cell? ⟨b, o + i * 5 + 3, none⟩ = some (.string t) ∧ w.cell? ⟨b, o + i * 5 + 4, none⟩ = some (.slice ka kids.length kc) ∧
      ExIs w B #[.int .i64 k, .int .i64 n, .int .i64 bs, .string t, .slice ka kids.length kc] (.mk k n bs t kids) := by
  obtain ⟨hl, vs, hr, hx⟩ := h
  rcases hr with h0 | ⟨b, o, ha, hB, hb, _, hc⟩
  · omega
  · obtain ⟨k, n, bs, t, kids, he⟩ : ∃ k n bs t kids, es[i] = Ex.mk k n bs t kids := by cases he : es[i] with | mk k n bs t kids => exact ⟨k, n, bs, t, kids, rfl⟩
    have h1 := hx i hi
    rw [he] at h1
    obtain ⟨ka, kc, hv, ht, hk⟩ := h1.out
    have h2 := (hc i hi).2
    rw [hv] at h2 h1
    exact ⟨b, o, k, n, bs, t, kids, ka, kc, ha, hB, hb, he, h2 0 (by omega), h2 1 (by omega), h2 2 (by omega), h2 3 (by omega), h2 4 (by omega), h1⟩

/-- These six cells are the statement. -/
inductive StIs (w : World) (B : Nat) : Array Value → St → Prop
  | mk (k n b : Int) (exps : List Ex) (xs ys : List St) (a : Option Addr) (cap : Nat) (ax : Option Addr) (cx : Nat) (ay : Option Addr) (cy : Nat) (vx vy : Nat → Array Value)
      (he : ExsIs w B a exps) (hlx : xs.length ≤ maxLen) (hly : ys.length ≤ maxLen)
      (hrx : RowAt w B ax xs.length 6 vx) (hry : RowAt w B ay ys.length 6 vy) (hx : ∀ (i : Nat) (h : i < xs.length), StIs w B (vx i) xs[i]) (hy : ∀ (i : Nat) (h : i < ys.length), StIs w B (vy i) ys[i]) :
      StIs w B #[.int .i64 k, .int .i64 n, .int .i64 b, .slice a exps.length cap, .slice ax xs.length cx, .slice ay ys.length cy] (.mk k n b exps xs ys)
def StsIs (w : World) (B : Nat) (a : Option Addr) (es : List St) : Prop := es.length ≤ maxLen ∧ ∃ vs, RowAt w B a es.length 6 vs ∧ ∀ (i : Nat) (h : i < es.length), StIs w B (vs i) es[i]
theorem StIs.stays {w w' : World} {B : Nat} {v : Array Value} {e : St} (h : StIs w B v e) (bel : Below w.heap.size w w') : StIs w' B v e := by
  induction h with
  | mk k n b exps xs ys a cap ax cx ay cy vx vy he hlx hly hrx hry _ _ ihx ihy => exact .mk k n b exps xs ys a cap ax cx ay cy vx vy (he.stays bel) hlx hly (hrx.below bel) (hry.below bel) ihx ihy
theorem StsIs.stays {w w' : World} {B : Nat} {a : Option Addr} {es : List St} (h : StsIs w B a es) (bel : Below w.heap.size w w') : StsIs w' B a es :=
  let ⟨hl, vs, hr, hx⟩ := h
  ⟨hl, vs, hr.below bel, fun i hi => (hx i hi).stays bel⟩
theorem StIs.but {w w' : World} {B g : Nat} {v : Array Value} {e : St} (h : StIs w B v e) (hg : g < B) (hb : But g w w') : StIs w' B v e := by
  induction h with
  | mk k n b exps xs ys a cap ax cx ay cy vx vy he hlx hly hrx hry _ _ ihx ihy => exact .mk k n b exps xs ys a cap ax cx ay cy vx vy (he.but hg hb) hlx hly (hrx.but hg hb) (hry.but hg hb) ihx ihy
theorem StsIs.but {w w' : World} {B g : Nat} {a : Option Addr} {es : List St} (h : StsIs w B a es) (hg : g < B) (hb : But g w w') : StsIs w' B a es :=
  let ⟨hl, vs, hr, hx⟩ := h
  ⟨hl, vs, hr.but hg hb, fun i hi => (hx i hi).but hg hb⟩
theorem StIs.mono {w : World} {B B' : Nat} {v : Array Value} {e : St} (h : StIs w B v e) (hB : B' ≤ B) : StIs w B' v e := by
  induction h with
  | mk k n b exps xs ys a cap ax cx ay cy vx vy he hlx hly hrx hry _ _ ihx ihy => exact .mk k n b exps xs ys a cap ax cx ay cy vx vy (he.mono hB) hlx hly (hrx.mono hB) (hry.mono hB) ihx ihy
theorem StsIs.mono {w : World} {B B' : Nat} {a : Option Addr} {es : List St} (h : StsIs w B a es) (hB : B' ≤ B) : StsIs w B' a es :=
  let ⟨hl, vs, hr, hx⟩ := h
  ⟨hl, vs, hr.mono hB, fun i hi => (hx i hi).mono hB⟩
theorem StIs.out {w : World} {B : Nat} {v : Array Value} {k n b : Int} {exps : List Ex} {xs ys : List St} (h : StIs w B v (.mk k n b exps xs ys)) :
    ∃ a cap ax cx ay cy, v = #[.int .i64 k, .int .i64 n, .int .i64 b, .slice a exps.length cap, .slice ax xs.length cx, .slice ay ys.length cy] ∧ ExsIs w B a exps ∧ StsIs w B ax xs ∧ StsIs w B ay ys := by
  cases h with
  | mk _ _ _ _ _ _ a cap ax cx ay cy vx vy he hlx hly hrx hry hx hy => exact ⟨a, cap, ax, cx, ay, cy, rfl, he, ⟨hlx, vx, hrx, hx⟩, ⟨hly, vy, hry, hy⟩⟩
theorem StIs.of {w : World} {B : Nat} {k n b : Int} {exps : List Ex} {xs ys : List St} {a ax ay : Option Addr} {cap cx cy : Nat} (he : ExsIs w B a exps) (hx : StsIs w B ax xs) (hy : StsIs w B ay ys) :
    StIs w B #[.int .i64 k, .int .i64 n, .int .i64 b, .slice a exps.length cap, .slice ax xs.length cx, .slice ay ys.length cy] (.mk k n b exps xs ys) :=
  let ⟨hlx, vx, hrx, hx⟩ := hx
  let ⟨hly, vy, hry, hy⟩ := hy
  .mk k n b exps xs ys a cap ax cx ay cy vx vy he hlx hly hrx hry hx hy
theorem StsIs.get {w : World} {B : Nat} {a : Option Addr} {es : List St} (h : StsIs w B a es) (i : Nat) (hi : i < es.length) :
    ∃ b o k n bs exps xs ys ea ec xa xc ya yc, a = some ⟨b, o, none⟩ ∧ B ≤ b ∧ b < w.heap.size ∧ es[i] = .mk k n bs exps xs ys ∧
      w.cell? ⟨b, o + i * 6, none⟩ = some (.int .i64 k) ∧ w.cell? ⟨b, o + i * 6 + 1, none⟩ = some (.int .i64 n) ∧ w.cell? ⟨b, o + i * 6 + 2, none⟩ = some (.int .i64 bs) ∧
      w.cell? ⟨b, o + i * 6 + 3, none⟩ = some (.slice ea exps.length ec) ∧ w.cell? ⟨b, o + i * 6 + 4, none⟩ = some (.slice xa xs.length xc) ∧ w.cell? ⟨b, o + i * 6 + 5, none⟩ = some (.slice ya ys.length yc) ∧
      StIs w B #[.int .i64 k, .int .i64 n, .int .i64 bs, .slice ea exps.length ec, .slice xa xs.length xc, .slice ya ys.length yc] (.mk k n bs exps xs ys) := by
  obtain ⟨hl, vs, hr, hx⟩ := h
  rcases hr with h0 | ⟨b, o, ha, hB, hb, _, hc⟩
  · omega
  · obtain ⟨k, n, bs, exps, xs, ys, he⟩ : ∃ k n bs exps xs ys, es[i] = St.mk k n bs exps xs ys := by cases he : es[i] with | mk k n bs exps xs ys => exact ⟨k, n, bs, exps, xs, ys, rfl⟩
    have h1 := hx i hi
    rw [he] at h1
    obtain ⟨ea, ec, xa, xc, ya, yc, hv, _⟩ := h1.out
    have h2 := (hc i hi).2
    rw [hv] at h2 h1
    exact ⟨b, o, k, n, bs, exps, xs, ys, ea, ec, xa, xc, ya, yc, ha, hB, hb, he, h2 0 (by omega), h2 1 (by omega), h2 2 (by omega), h2 3 (by omega), h2 4 (by omega), h2 5 (by omega), h1⟩

/-- The slice holds these numbers. -/
def IntsIs (w : World) (B : Nat) (a : Option Addr) (zs : List Int) : Prop := zs.length ≤ maxLen ∧ (zs.length = 0 ∨ ∃ b o, a = some ⟨b, o, none⟩ ∧ B ≤ b ∧ b < w.heap.size ∧ (0 < B → ∃ cs T, w.heap[b]? = some (.cells cs T (0, 0))) ∧ ∀ (i : Nat) (h : i < zs.length), w.cell? ⟨b, o + i, none⟩ = some (.int .i64 zs[i]))
theorem IntsIs.stays {w w' : World} {B : Nat} {a : Option Addr} {zs : List Int} (h : IntsIs w B a zs) (bel : Below w.heap.size w w') : IntsIs w' B a zs := by
  obtain ⟨hl, h⟩ := h
  refine ⟨hl, ?_⟩
  rcases h with h | ⟨b, o, ha, hB, hb, hp, hc⟩
  · exact Or.inl h
  · exact Or.inr ⟨b, o, ha, hB, Nat.lt_of_lt_of_le hb bel.size, fun h0 => let ⟨cs, T, h⟩ := hp h0; ⟨cs, T, (bel.block b hb).trans h⟩, fun i hi => (bel.cell (p := ⟨b, o + i, none⟩) hb).trans (hc i hi)⟩
/-- A program, and its four cells. -/
structure Pr where
  sizes : List Int
  params : Int
  vars : Int
  body : List St
def PrIs (w : World) (B : Nat) (v : Array Value) (p : Pr) : Prop := ∃ a cap ab cb, v = #[.slice a p.sizes.length cap, .int .i64 p.params, .int .i64 p.vars, .slice ab p.body.length cb] ∧ IntsIs w B a p.sizes ∧ StsIs w B ab p.body
theorem PrIs.stays {w w' : World} {B : Nat} {v : Array Value} {p : Pr} (h : PrIs w B v p) (bel : Below w.heap.size w w') : PrIs w' B v p :=
  let ⟨a, cap, ab, cb, e, h1, h2⟩ := h
  ⟨a, cap, ab, cb, e, h1.stays bel, h2.stays bel⟩

/-! How great a thing is, as the law counts it. -/
mutual
def Ex.sz : Ex → Nat
  | .mk _ _ _ t kids => t.size + (kids.length + exsSum kids)
def exsSum : List Ex → Nat
  | [] => 0
  | e :: l => e.sz + exsSum l
end
def exsSz (l : List Ex) : Nat := l.length + exsSum l
mutual
def St.sz : St → Nat
  | .mk _ _ _ exps xs ys => exsSz exps + (xs.length + stsSum xs) + (ys.length + stsSum ys)
def stsSum : List St → Nat
  | [] => 0
  | e :: l => e.sz + stsSum l
end
def stsSz (l : List St) : Nat := l.length + stsSum l
def Pr.sz (p : Pr) : Nat := p.sizes.length + stsSz p.body
theorem Ex.sz_mk (k n b : Int) (t : ByteArray) (kids : List Ex) : (Ex.mk k n b t kids).sz = t.size + exsSz kids := by simp [Ex.sz, exsSz]
theorem St.sz_mk (k n b : Int) (exps : List Ex) (xs ys : List St) : (St.mk k n b exps xs ys).sz = exsSz exps + stsSz xs + stsSz ys := by simp [St.sz, stsSz]
theorem exsSum_append : ∀ (l m : List Ex), exsSum (l ++ m) = exsSum l + exsSum m
  | [], m => by simp [exsSum]
  | e :: l, m => by simp [exsSum, exsSum_append l m]; omega
theorem stsSum_append : ∀ (l m : List St), stsSum (l ++ m) = stsSum l + stsSum m
  | [], m => by simp [stsSum]
  | e :: l, m => by simp [stsSum, stsSum_append l m]; omega
theorem exsSum_take (l : List Ex) (i : Nat) (h : i < l.length) : exsSum (l.take (i + 1)) = exsSum (l.take i) + l[i].sz := by
  rw [List.take_succ_eq_append_getElem h, exsSum_append]; simp [exsSum]
theorem stsSum_take (l : List St) (i : Nat) (h : i < l.length) : stsSum (l.take (i + 1)) = stsSum (l.take i) + l[i].sz := by
  rw [List.take_succ_eq_append_getElem h, stsSum_append]; simp [stsSum]
theorem exsSum_le (l : List Ex) (i : Nat) : exsSum (l.take i) ≤ exsSum l := by
  conv => rhs; rw [← List.take_append_drop i l, exsSum_append]
  omega
theorem stsSum_le (l : List St) (i : Nat) : stsSum (l.take i) ≤ stsSum l := by
  conv => rhs; rw [← List.take_append_drop i l, stsSum_append]
  omega
theorem exsSum_mem {l : List Ex} {e : Ex} (h : e ∈ l) : e.sz ≤ exsSum l := by
  obtain ⟨a, b, rfl⟩ := List.append_of_mem h
  rw [exsSum_append]; simp [exsSum]; omega
theorem stsSum_mem {l : List St} {e : St} (h : e ∈ l) : e.sz ≤ stsSum l := by
  obtain ⟨a, b, rfl⟩ := List.append_of_mem h
  rw [stsSum_append]; simp [stsSum]; omega
end Go.Proofs.Ytjmclmbepnbeoaa

/- The contracts of l01Has and l01In: whether a text is one of some, whether a number lies between two. -/
namespace Go.Proofs.Ytjmclmbepnbeoaa
open Go.ChangeShapes Go.WideShapes Go.ChangeAt Go.RowKit

set_option maxHeartbeats 400000 in
theorem has_any (ss : List ByteArray) (s : ByteArray) (b cap : Nat) (w : World) (hl : ss.length ≤ 1000)
    (hcell : ∀ (i : Nat) (h : i < ss.length), w.cell? ⟨b, i, none⟩ = some (.string ss[i])) :
    Calls Try.prog 123 #[.slice (some ⟨b, 0, none⟩) ss.length cap, .string s] w fun e w' => e = .returned (.bool (hasB ss s)) ∧ w' = w := by
  go_enter Try.func123, Try.ntmps123
  go_wp2
  go_loop [5] (fun i => ∃ k : Nat, k ≤ ss.length ∧ i = .int .i64 k ∧ Hid (hasB ss s = hasB (ss.drop k) s)) (fun i => ss.length - (intOf i).toNat)
  case atStart => exact ⟨0, Nat.zero_le _, rfl, rfl⟩
  case round =>
    obtain ⟨k, hk, rfl, hd⟩ := hrel
    by_cases hlt : k < ss.length
    · have hc := hcell k hlt
      go_wp2
      · go_ret
        exact ⟨ret_bool (by rw [hd.out]; exact (hasB_drop_true hlt ‹_›).symm), rfl⟩
      · go_round
        case rel => exact ⟨k + 1, by omega, by go_num, hd.out.trans (hasB_drop_false hlt ‹_›)⟩
        case measure => simp [intOf]; omega
    · go_wp2
      go_ret
      exact ⟨ret_bool (by rw [hd.out, List.drop_of_length_le (by omega)]; rfl), rfl⟩

theorem lit_cells (w : World) (ss : List ByteArray) (cs : Array Value) (t : TypeId) (hcs : cs = (ss.map Value.string).toArray) (i : Nat) (h : i < ss.length) : (w.alloc (.cells cs t)).cell? ⟨w.heap.size, i, none⟩ = some (.string ss[i]) := by
  subst hcs
  rw [World.cell?_alloc_new]
  simp [h]

theorem lit_cells2 (w : World) (ss : List ByteArray) (cs : Array Value) (t : TypeId) (n : Nat) (hn : n = w.heap.size) (hcs : cs = (ss.map Value.string).toArray) (i : Nat) (h : i < ss.length) : (w.alloc (.cells cs t)).cell? ⟨n, i, none⟩ = some (.string ss[i]) := by
  subst hn; exact lit_cells w ss cs t hcs i h

theorem l01In_any (x a b : Int) (w : World) :
    Calls Try.prog 55 #[.int .i64 x, .int .i64 a, .int .i64 b] w fun e w' => e = .returned (.bool (inB x a b)) ∧ w' = w := by
  go_enter Try.func55, Try.ntmps55
  go_wp2
  all_goals go_ret
  all_goals exact ⟨ret_bool (by simp [inB]; omega), rfl⟩
end Go.Proofs.Ytjmclmbepnbeoaa
