/- Which places are one, as functions: what the slots hold within a block, where its steps load and store. -/
import Derived.Test.YtpkfbabgcinhhaaDoorGrOkP
import Derived.Test.YtpkfbabgcinhhaaDoorCkB
namespace Go.Proofs.YtpkfbabgcinhhaaDoor
open Go.ChangeShapes Go.WideShapes Go.ChangeAt Go.RowKit
theorem wrap64_i64 (n : Int) : I64 (wrap64 n) := by unfold I64 wrap64; omega
theorem i64_le {a b n : Int} (h : a ≤ n ∧ n ≤ b) (ha : -9223372036854775808 ≤ a) (hb : b ≤ 9223372036854775807) : I64 n := by unfold I64; omega
theorem wrapK_i64 (n : Int) : I64 (IntKind.i64.wrap n) := by rw [IntKind.wrap_i64]; unfold I64; omega
theorem bits_i64 (o : BinOp) (a b : Int) : I64 (bits o .i64 a b) := by
  unfold bits
  split
  all_goals first | exact wrapK_i64 _ | (unfold I64; omega)
/-- What Bin tells of a sign and two numbers. -/
def binL (t : List UInt8) (a b : Int) : Int :=
  if (t == [43]) = true then wrap64 (a + b) else if (t == [45]) = true then wrap64 (a - b) else if (t == [42]) = true then wrap64 (a * b) else if (t == [38]) = true then bits .and .i64 a b
  else if (t == [61, 61]) = true then (if (a == b) = true then 1 else 0) else if (t == [60]) = true then (if a < b then 1 else 0) else 0
theorem binL_i64 (t : List UInt8) (a b : Int) : I64 (binL t a b) := by
  unfold binL
  repeat' split
  all_goals first | exact wrap64_i64 _ | exact bits_i64 _ _ _ | (unfold I64; omega)
/-- What a slot holds: a base and an offset. -/
structure Sym where
  base : Int
  off : Int
instance : Inhabited Sym := ⟨⟨0, 0⟩⟩
def symBin (t : List UInt8) (a b : Sym) : Option Sym :=
  if a.base = -1 ∧ b.base = -1 then some ⟨-1, binL t a.off b.off⟩
  else if (t == [43]) = true ∧ a.base = -1 then some ⟨b.base, wrap64 (a.off + b.off)⟩
  else if (t == [43]) = true ∧ b.base = -1 then some ⟨a.base, wrap64 (a.off + b.off)⟩
  else if (t == [45]) = true ∧ b.base = -1 then some ⟨a.base, wrap64 (a.off - b.off)⟩
  else if (t == [45]) = true ∧ a.base = b.base then some ⟨-1, wrap64 (a.off - b.off)⟩
  else none
/-- What all slots hold, and how many new bases there are. -/
structure Led where
  slots : List Sym
  fresh : Nat
def Led.get (l : Led) (n : Int) : Sym := l.slots[n.toNat]!
def Led.put (l : Led) (n : Int) (s : Sym) : Led := ⟨l.slots.set n.toNat s, l.fresh⟩
def Led.new (l : Led) (n : Int) : Led := ⟨l.slots.set n.toNat ⟨(l.slots.length : Int) + l.fresh, 0⟩, l.fresh + 1⟩
def Led.putO (l : Led) (n : Int) : Option Sym → Led
  | some s => l.put n s
  | none => l.new n
def stepP (l : Led) (x : Ins) : Led :=
  if x.op = 0 then l.put x.d ⟨-1, x.n⟩
  else if x.op = 1 then l.put x.d (l.get x.a)
  else if x.op = 2 then l.putO x.d (symBin x.t.toList (l.get x.a) (l.get x.b))
  else if x.op = 3 ∨ x.op = 5 then l.new x.d
  else l
def ledStart (V : Nat) : Led := ⟨(List.range V).map (fun (i : Nat) => (⟨(i : Int), 0⟩ : Sym)), 0⟩
def ledP (V : Nat) (code : List Ins) : Led := code.foldl stepP (ledStart V)
/-- A slot's value is told: its base is -1 or one that is there, its offset a number of 64 bits. -/
def SymOk (n : Nat) (s : Sym) : Prop := (s.base = -1 ∨ 0 ≤ s.base ∧ s.base < n) ∧ I64 s.off
def LedOk (V : Nat) (l : Led) : Prop := l.slots.length = V ∧ ∀ s ∈ l.slots, SymOk (V + l.fresh) s
theorem SymOk.mono {n m : Nat} {s : Sym} (h : SymOk n s) (hm : n ≤ m) : SymOk m s := ⟨by have := h.1; omega, h.2⟩
theorem SymOk.i64 {n : Nat} {s : Sym} (h : SymOk n s) (hn : n ≤ 1000000) : I64 s.base := by have := h.1; unfold I64; omega
theorem zero_i64 : I64 0 := by unfold I64; omega
theorem ledStart_ok (V : Nat) : LedOk V (ledStart V) := by
  refine ⟨by simp [ledStart], fun s hs => ?_⟩
  obtain ⟨i, hi, rfl⟩ := List.mem_map.1 hs
  have := List.mem_range.1 hi
  exact ⟨Or.inr ⟨by simp, by simp only [ledStart]; omega⟩, zero_i64⟩
theorem LedOk.get {V : Nat} {l : Led} (h : LedOk V l) {n : Int} (hn : vOk V n = true) : SymOk (V + l.fresh) (l.get n) := by
  have hn' : 0 ≤ n ∧ n < V := by simpa [vOk] using hn
  unfold Led.get
  rw [getElem!_pos l.slots n.toNat (by rw [h.1]; omega)]
  exact h.2 _ (List.getElem_mem _)
theorem LedOk.put {V : Nat} {l : Led} (h : LedOk V l) (n : Int) {s : Sym} (hs : SymOk (V + l.fresh) s) : LedOk V (l.put n s) := by
  refine ⟨by simp [Led.put, h.1], fun t ht => ?_⟩
  rcases List.mem_or_eq_of_mem_set ht with h1 | rfl
  · exact h.2 t h1
  · exact hs
theorem LedOk.new {V : Nat} {l : Led} (h : LedOk V l) (n : Int) : LedOk V (l.new n) := by
  refine ⟨by simp [Led.new, h.1], fun t ht => ?_⟩
  rcases List.mem_or_eq_of_mem_set ht with h1 | rfl
  · exact (h.2 t h1).mono (by simp only [Led.new]; omega)
  · exact ⟨Or.inr ⟨by simp only; omega, by simp only [Led.new, h.1]; omega⟩, zero_i64⟩
theorem symBin_ok {t : List UInt8} {n : Nat} {a b s : Sym} (ha : SymOk n a) (hb : SymOk n b) (h : symBin t a b = some s) : SymOk n s := by
  unfold symBin at h
  repeat' split at h
  all_goals first | (cases h; done) | skip
  all_goals cases h
  · exact ⟨Or.inl rfl, binL_i64 _ _ _⟩
  · exact ⟨hb.1, wrap64_i64 _⟩
  · exact ⟨ha.1, wrap64_i64 _⟩
  · exact ⟨ha.1, wrap64_i64 _⟩
  · exact ⟨Or.inl rfl, wrap64_i64 _⟩
theorem LedOk.putO {V : Nat} {l : Led} (h : LedOk V l) (n : Int) {o : Option Sym} (hs : ∀ s, o = some s → SymOk (V + l.fresh) s) : LedOk V (l.putO n o) := by
  cases o with
  | none => exact h.new n
  | some s => exact h.put n (hs s rfl)
theorem insOk_slots {R V : Int} {x : Ins} (h : insOk R V x = true) :
    (x.op = 0 ∧ vOk V x.d = true) ∨ (x.op = 1 ∧ vOk V x.d = true ∧ vOk V x.a = true) ∨ (x.op = 2 ∧ vOk V x.d = true ∧ vOk V x.a = true ∧ vOk V x.b = true) ∨
    (x.op = 3 ∧ vOk V x.d = true ∧ vOk V x.b = true ∧ (x.a = -1 ∨ vOk V x.a = true) ∧ 0 ≤ x.n ∧ x.n < R) ∨ (x.op = 4 ∧ vOk V x.b = true ∧ (x.a = -1 ∨ vOk V x.a = true) ∧ 0 ≤ x.n ∧ x.n < R) ∨ (x.op = 5 ∧ vOk V x.d = true) ∨ x.op = 6 := by
  unfold insOk plOk at h
  repeat' split at h
  all_goals first | (cases h; done) | skip
  all_goals simp only [Bool.and_eq_true, Bool.or_eq_true, decide_eq_true_eq] at h
  · exact Or.inl ⟨by assumption, h.2⟩
  · exact Or.inr (Or.inl ⟨by assumption, h.1.2, h.2⟩)
  · exact Or.inr (Or.inr (Or.inl ⟨by assumption, h.1.1.1.2, h.1.1.2, h.1.2⟩))
  · exact Or.inr (Or.inr (Or.inr (Or.inl ⟨by assumption, h.1.1.2, h.1.2, h.2.2, h.2.1.1, h.2.1.2⟩)))
  · exact Or.inr (Or.inr (Or.inr (Or.inr (Or.inl ⟨by assumption, h.1.1.2, h.2.2, h.2.1.1, h.2.1.2⟩))))
  · exact Or.inr (Or.inr (Or.inr (Or.inr (Or.inr (Or.inl ⟨by assumption, h.2⟩)))))
  · exact Or.inr (Or.inr (Or.inr (Or.inr (Or.inr (Or.inr (by assumption))))))
theorem stepP_ok {R : Int} {V : Nat} {l : Led} {x : Ins} (h : LedOk V l) (hx : insOk R V x = true) (hw : I64 x.n) : LedOk V (stepP l x) := by
  rcases insOk_slots hx with ⟨e, _⟩ | ⟨e, _, ha⟩ | ⟨e, _, ha, hb⟩ | ⟨e, _⟩ | ⟨e, _⟩ | ⟨e, _⟩ | e
  · simp only [stepP, e, if_true]; exact h.put _ ⟨Or.inl rfl, hw⟩
  · simp only [stepP, e]; exact h.put _ (h.get ha)
  · simp only [stepP, e]; exact h.putO _ (fun s hs => symBin_ok (h.get ha) (h.get hb) hs)
  · simp only [stepP, e]; exact h.new _
  · simp only [stepP, e]; exact h
  · simp only [stepP, e]; exact h.new _
  · simp only [stepP, e]; exact h
theorem stepP_fresh (l : Led) (x : Ins) : (stepP l x).fresh ≤ l.fresh + 1 := by
  unfold stepP
  repeat' split
  · simp [Led.put]
  · simp [Led.put]
  · cases symBin x.t.toList (l.get x.a) (l.get x.b) <;> simp [Led.putO, Led.put, Led.new]
  · simp [Led.new]
  · omega
theorem ledP_snoc (V : Nat) (code : List Ins) (x : Ins) : ledP V (code ++ [x]) = stepP (ledP V code) x := by simp [ledP, List.foldl_append]
theorem ledP_take (V : Nat) (code : List Ins) (j : Nat) (h : j < code.length) : ledP V (code.take (j + 1)) = stepP (ledP V (code.take j)) code[j] := by
  rw [List.take_succ_eq_append_getElem h, ledP_snoc]
theorem ledP_ok {R : Int} {V : Nat} {code : List Ins} (h : ∀ x ∈ code, insOk R V x = true ∧ I64 x.n) (j : Nat) (hj : j ≤ code.length) : LedOk V (ledP V (code.take j)) ∧ (ledP V (code.take j)).fresh ≤ j := by
  induction j with
  | zero => exact ⟨by simpa [ledP] using ledStart_ok V, by simp [ledP, ledStart]⟩
  | succ j ih =>
    have := ih (by omega)
    rw [ledP_take V code j (by omega)]
    have hx := h _ (List.getElem_mem (show j < code.length by omega))
    exact ⟨stepP_ok this.1 hx.1 hx.2, Nat.le_trans (stepP_fresh _ _) (by omega)⟩
/-- Where a step loads or stores. -/
structure Pla where
  r : Int
  i : Int
  j : Int
  off : Int
def Led.oget (l : Led) (n : Int) : Sym := if n = -1 then ⟨-1, 0⟩ else l.get n
def placeP (l : Led) (x : Ins) : Pla :=
  if x.op = 3 ∨ x.op = 4 then
    ⟨x.n, min (l.oget x.a).base (l.get x.b).base, max (l.oget x.a).base (l.get x.b).base, wrap64 ((l.oget x.a).off + (l.get x.b).off)⟩
  else ⟨-1, 0, 0, 0⟩
def placesUp (V : Nat) (code : List Ins) : Nat → List Pla
  | 0 => []
  | j + 1 => placesUp V code j ++ match code[j]? with | some x => [placeP (ledP V (code.take j)) x] | none => []
theorem placesUp_at (V : Nat) {code : List Ins} {j : Nat} (h : j < code.length) : placesUp V code (j + 1) = placesUp V code j ++ [placeP (ledP V (code.take j)) code[j]] := by
  show placesUp V code j ++ _ = _
  rw [List.getElem?_eq_getElem h]
theorem placesUp_len (V : Nat) (code : List Ins) (j : Nat) (h : j ≤ code.length) : (placesUp V code j).length = j := by
  induction j with
  | zero => rfl
  | succ j ih => rw [placesUp_at V (by omega), List.length_append, ih (by omega)]; rfl
/-- The slots of base -1 among the first j. -/
def knownUp (ss : List Sym) : Nat → List Int
  | 0 => []
  | j + 1 => if (ss[j]?.map (·.base)) = some (-1) then knownUp ss j ++ [(j : Int)] else knownUp ss j
theorem knownUp_yes {ss : List Sym} {j : Nat} (h : j < ss.length) (hb : ss[j].base = -1) : knownUp ss (j + 1) = knownUp ss j ++ [(j : Int)] := if_pos (by simp [h, hb])
theorem knownUp_no {ss : List Sym} {j : Nat} (h : j < ss.length) (hb : ss[j].base ≠ -1) : knownUp ss (j + 1) = knownUp ss j := if_neg (by simp [h, hb])
theorem knownUp_len (ss : List Sym) (j : Nat) : (knownUp ss j).length ≤ j := by
  induction j with
  | zero => simp [knownUp]
  | succ j ih =>
    unfold knownUp
    split
    · simp; omega
    · omega
/-- The block is there, and the graph is right. -/
def hasB6 (g : Gr) (n : Int) : Prop := grOk g = true ∧ 0 ≤ n ∧ n < (g.blocks.length : Nat)
instance (g : Gr) (n : Int) : Decidable (hasB6 g n) := by unfold hasB6; infer_instance
def codeAt (g : Gr) (n : Int) : List Ins := (g.blocks[n.toNat]!).code
def ledOf (g : Gr) (n : Int) : Led := ledP g.slots.toNat (codeAt g n)
def freshP (g : Gr) (n : Int) : Int := if hasB6 g n then ((ledOf g n).fresh : Int) else -1
def knownP (g : Gr) (n : Int) : List Int := if hasB6 g n then knownUp (ledOf g n).slots (ledOf g n).slots.length else []
def placesP (g : Gr) (n : Int) : List Pla := if hasB6 g n then placesUp g.slots.toNat (codeAt g n) (codeAt g n).length else []
end Go.Proofs.YtpkfbabgcinhhaaDoor

/- What words do, as functions: a machine, a word of it, a run with some fuel. -/
namespace Go.Proofs.YtpkfbabgcinhhaaDoor
open Go.ChangeShapes Go.WideShapes Go.ChangeAt Go.RowKit
structure Mch where
  mem : List (List Int)
  vars : List Int
  input : List Int
  fuel : Int
  code : Int
  over : Bool
  val : Int
  out : List Int
/-- The sign of a number. -/
def aluS : Nat → List UInt8
  | 0 => [43]
  | 1 => [45]
  | 2 => [42]
  | 3 => [38]
  | 4 => [61, 61]
  | 5 => [60]
  | _ => []
def regG (g : List Int) (r : Int) : Int := g.getD r.toNat 0
/-- A place of a region: the number there. -/
def memG (m : List (List Int)) (k i : Int) : Int := (m.getD k.toNat []).getD i.toNat 0
def memS (m : List (List Int)) (k i z : Int) : List (List Int) := m.set k.toNat ((m.getD k.toNat []).set i.toNat z)
def memIn (m : List (List Int)) (k i : Int) : Bool := decide (0 ≤ i ∧ i < ((m.getD k.toNat []).length : Nat))
def getV (l : List Int) : Int := match l with | [] => -1 | x :: _ => x
/-- What a word makes of a machine, of its registers, and which word is next. -/
def wordM (x : Wrd) (k : Int) (m : Mch) (g : List Int) : Mch × List Int × Int :=
  if x.op = 0 then (m, g.set x.r.toNat x.n, k + 1)
  else if x.op = 1 then (m, g.set x.r.toNat (regG m.vars x.n), k + 1)
  else if x.op = 2 then ({ m with vars := m.vars.set x.n.toNat (regG g x.r) }, g, k + 1)
  else if x.op = 3 then (m, g.set x.r.toNat (binL (aluS x.n.toNat) (regG g x.a) (regG g x.b)), k + 1)
  else if x.op = 4 then (if memIn m.mem x.n (regG g x.a) = true then (m, g.set x.r.toNat (memG m.mem x.n (regG g x.a)), k + 1) else ({ m with code := 1 }, g, k))
  else if x.op = 5 then (if memIn m.mem x.n (regG g x.a) = true then ({ m with mem := memS m.mem x.n (regG g x.a) (regG g x.r) }, g, k + 1) else ({ m with code := 1 }, g, k))
  else if x.op = 6 then ({ m with input := m.input.tail }, g.set x.r.toNat (getV m.input), k + 1)
  else if x.op = 7 then ({ m with out := m.out ++ [regG g x.r] }, g, k + 1)
  else if x.op = 8 then (m, g, x.n)
  else if x.op = 9 then (m, g, if regG g x.r = 0 then x.n else k + 1)
  else if x.op = 11 then (m, g.set x.r.toNat (regG g x.a), k + 1)
  else ({ m with over := true, val := regG g x.r }, g, k + 1)
end Go.Proofs.YtpkfbabgcinhhaaDoor
