/- Which places are one, as functions: what the slots hold within a block, where its steps load and store. -/
import Derived.Test.YtooaoankloocmaaNxPA
import Derived.Test.YtooaoankloocmaaAheadP
namespace Go.Proofs.Ytooaoankloocmaa
open Go.ChangeShapes Go.WideShapes Go.ChangeAt Go.RowKit
theorem wrap64_i64 (n : Int) : I64 (wrap64 n) := by unfold I64 wrap64; omega
theorem i64_le {a b n : Int} (h : a ≤ n ∧ n ≤ b) (ha : -9223372036854775808 ≤ a) (hb : b ≤ 9223372036854775807) : I64 n := by unfold I64; omega
theorem wrapK_i64 (n : Int) : I64 (IntKind.i64.wrap n) := by rw [IntKind.wrap_i64]; unfold I64; omega
theorem bits_i64 (o : BinOp) (a b : Int) : I64 (bits o .i64 a b) := by
  unfold bits
  split
  all_goals first | exact wrapK_i64 _ | (unfold I64; omega)
/-- What Bin tells of a sign and two numbers. -/
def binL (t : List UInt8) (a b : Int) : Int :=
  if (t == [43]) = true then wrap64 (a + b) else if (t == [45]) = true then wrap64 (a - b) else if (t == [42]) = true then wrap64 (a * b) else if (t == [38]) = true then bits .and .i64 a b
  else if (t == [61, 61]) = true then (if (a == b) = true then 1 else 0) else if (t == [60]) = true then (if a < b then 1 else 0) else 0
theorem binL_i64 (t : List UInt8) (a b : Int) : I64 (binL t a b) := by
  unfold binL
  repeat' split
  all_goals first | exact wrap64_i64 _ | exact bits_i64 _ _ _ | (unfold I64; omega)
/-- What a slot holds: a base and an offset. -/
structure Sym where
  base : Int
  off : Int
instance : Inhabited Sym := ⟨⟨0, 0⟩⟩
def symBin (t : List UInt8) (a b : Sym) : Option Sym :=
  if a.base = -1 ∧ b.base = -1 then some ⟨-1, binL t a.off b.off⟩
  else if (t == [43]) = true ∧ a.base = -1 then some ⟨b.base, wrap64 (a.off + b.off)⟩
  else if (t == [43]) = true ∧ b.base = -1 then some ⟨a.base, wrap64 (a.off + b.off)⟩
  else if (t == [45]) = true ∧ b.base = -1 then some ⟨a.base, wrap64 (a.off - b.off)⟩
  else if (t == [45]) = true ∧ a.base = b.base then some ⟨-1, wrap64 (a.off - b.off)⟩
  else none
/-- What all slots hold, and how many new bases there are. -/
structure Led where
  slots : List Sym
  fresh : Nat
def Led.get (l : Led) (n : Int) : Sym := l.slots[n.toNat]!
def Led.put (l : Led) (n : Int) (s : Sym) : Led := ⟨l.slots.set n.toNat s, l.fresh⟩
def Led.new (l : Led) (n : Int) : Led := ⟨l.slots.set n.toNat ⟨(l.slots.length : Int) + l.fresh, 0⟩, l.fresh + 1⟩
def Led.putO (l : Led) (n : Int) : Option Sym → Led
  | some s => l.put n s
  | none => l.new n
def stepP (l : Led) (x : Ins) : Led :=
  if x.op = 0 then l.put x.d ⟨-1, x.n⟩
  else if x.op = 1 then l.put x.d (l.get x.a)
  else if x.op = 2 then l.putO x.d (symBin x.t.toList (l.get x.a) (l.get x.b))
  else if x.op = 3 ∨ x.op = 5 then l.new x.d
  else l
def ledStart (V : Nat) : Led := ⟨(List.range V).map (fun (i : Nat) => (⟨(i : Int), 0⟩ : Sym)), 0⟩
def ledP (V : Nat) (code : List Ins) : Led := code.foldl stepP (ledStart V)
/-- A slot's value is told: its base is -1 or one that is there, its offset a number of 64 bits. -/
def SymOk (n : Nat) (s : Sym) : Prop := (s.base = -1 ∨ 0 ≤ s.base ∧ s.base < n) ∧ I64 s.off
def LedOk (V : Nat) (l : Led) : Prop := l.slots.length = V ∧ ∀ s ∈ l.slots, SymOk (V + l.fresh) s
theorem SymOk.mono {n m : Nat} {s : Sym} (h : SymOk n s) (hm : n ≤ m) : SymOk m s := ⟨by have := h.1; omega, h.2⟩
theorem SymOk.i64 {n : Nat} {s : Sym} (h : SymOk n s) (hn : n ≤ 1000000) : I64 s.base := by have := h.1; unfold I64; omega
theorem zero_i64 : I64 0 := by unfold I64; omega
theorem ledStart_ok (V : Nat) : LedOk V (ledStart V) := by
  refine ⟨by simp [ledStart], fun s hs => ?_⟩
  obtain ⟨i, hi, rfl⟩ := List.mem_map.1 hs
  have := List.mem_range.1 hi
  exact ⟨Or.inr ⟨by simp, by simp only [ledStart]; omega⟩, zero_i64⟩
theorem LedOk.get {V : Nat} {l : Led} (h : LedOk V l) {n : Int} (hn : vOk V n = true) : SymOk (V + l.fresh) (l.get n) := by
  have hn' : 0 ≤ n ∧ n < V := by simpa [vOk] using hn
  unfold Led.get
  rw [getElem!_pos l.slots n.toNat (by rw [h.1]; omega)]
  exact h.2 _ (List.getElem_mem _)
theorem LedOk.put {V : Nat} {l : Led} (h : LedOk V l) (n : Int) {s : Sym} (hs : SymOk (V + l.fresh) s) : LedOk V (l.put n s) := by
  refine ⟨by simp [Led.put, h.1], fun t ht => ?_⟩
  rcases List.mem_or_eq_of_mem_set ht with h1 | rfl
  · exact h.2 t h1
  · exact hs
theorem LedOk.new {V : Nat} {l : Led} (h : LedOk V l) (n : Int) : LedOk V (l.new n) := by
  refine ⟨by simp [Led.new, h.1], fun t ht => ?_⟩
  rcases List.mem_or_eq_of_mem_set ht with h1 | rfl
  · exact (h.2 t h1).mono (by simp only [Led.new]; omega)
  · exact ⟨Or.inr ⟨by simp only; omega, by simp only [Led.new, h.1]; omega⟩, zero_i64⟩
theorem symBin_ok {t : List UInt8} {n : Nat} {a b s : Sym} (ha : SymOk n a) (hb : SymOk n b) (h : symBin t a b = some s) : SymOk n s := by
  unfold symBin at h
  repeat' split at h
  all_goals first | (cases h; done) | skip
  all_goals cases h
  · exact ⟨Or.inl rfl, binL_i64 _ _ _⟩
  · exact ⟨hb.1, wrap64_i64 _⟩
  · exact ⟨ha.1, wrap64_i64 _⟩
  · exact ⟨ha.1, wrap64_i64 _⟩
  · exact ⟨Or.inl rfl, wrap64_i64 _⟩
theorem LedOk.putO {V : Nat} {l : Led} (h : LedOk V l) (n : Int) {o : Option Sym} (hs : ∀ s, o = some s → SymOk (V + l.fresh) s) : LedOk V (l.putO n o) := by
  cases o with
  | none => exact h.new n
  | some s => exact h.put n (hs s rfl)
theorem insOk_slots {R V : Int} {x : Ins} (h : insOk R V x = true) :
    (x.op = 0 ∧ vOk V x.d = true) ∨ (x.op = 1 ∧ vOk V x.d = true ∧ vOk V x.a = true) ∨ (x.op = 2 ∧ vOk V x.d = true ∧ vOk V x.a = true ∧ vOk V x.b = true) ∨
    (x.op = 3 ∧ vOk V x.d = true ∧ vOk V x.b = true ∧ (x.a = -1 ∨ vOk V x.a = true) ∧ 0 ≤ x.n ∧ x.n < R) ∨ (x.op = 4 ∧ vOk V x.b = true ∧ (x.a = -1 ∨ vOk V x.a = true) ∧ 0 ≤ x.n ∧ x.n < R) ∨ (x.op = 5 ∧ vOk V x.d = true) ∨ x.op = 6 := by
  unfold insOk plOk at h
  repeat' split at h
  all_goals first | (cases h; done) | skip
  all_goals simp only [Bool.and_eq_true, Bool.or_eq_true, decide_eq_true_eq] at h
  · exact Or.inl ⟨by assumption, h.2⟩
  · exact Or.inr (Or.inl ⟨by assumption, h.1.2, h.2⟩)
  · exact Or.inr (Or.inr (Or.inl ⟨by assumption, h.1.1.1.2, h.1.1.2, h.1.2⟩))
  · exact Or.inr (Or.inr (Or.inr (Or.inl ⟨by assumption, h.1.1.2, h.1.2, h.2.2, h.2.1.1, h.2.1.2⟩)))
  · exact Or.inr (Or.inr (Or.inr (Or.inr (Or.inl ⟨by assumption, h.1.1.2, h.2.2, h.2.1.1, h.2.1.2⟩))))
  · exact Or.inr (Or.inr (Or.inr (Or.inr (Or.inr (Or.inl ⟨by assumption, h.2⟩)))))
  · exact Or.inr (Or.inr (Or.inr (Or.inr (Or.inr (Or.inr (by assumption))))))
theorem stepP_ok {R : Int} {V : Nat} {l : Led} {x : Ins} (h : LedOk V l) (hx : insOk R V x = true) (hw : I64 x.n) : LedOk V (stepP l x) := by
  rcases insOk_slots hx with ⟨e, _⟩ | ⟨e, _, ha⟩ | ⟨e, _, ha, hb⟩ | ⟨e, _⟩ | ⟨e, _⟩ | ⟨e, _⟩ | e
  · simp only [stepP, e, if_true]; exact h.put _ ⟨Or.inl rfl, hw⟩
  · simp only [stepP, e]; exact h.put _ (h.get ha)
  · simp only [stepP, e]; exact h.putO _ (fun s hs => symBin_ok (h.get ha) (h.get hb) hs)
  · simp only [stepP, e]; exact h.new _
  · simp only [stepP, e]; exact h
  · simp only [stepP, e]; exact h.new _
  · simp only [stepP, e]; exact h
theorem stepP_fresh (l : Led) (x : Ins) : (stepP l x).fresh ≤ l.fresh + 1 := by
  unfold stepP
  repeat' split
  · simp [Led.put]
  · simp [Led.put]
  · cases symBin x.t.toList (l.get x.a) (l.get x.b) <;> simp [Led.putO, Led.put, Led.new]
  · simp [Led.new]
  · omega
theorem ledP_snoc (V : Nat) (code : List Ins) (x : Ins) : ledP V (code ++ [x]) = stepP (ledP V code) x := by simp [ledP, List.foldl_append]
theorem ledP_take (V : Nat) (code : List Ins) (j : Nat) (h : j < code.length) : ledP V (code.take (j + 1)) = stepP (ledP V (code.take j)) code[j] := by
  rw [List.take_succ_eq_append_getElem h, ledP_snoc]
theorem ledP_ok {R : Int} {V : Nat} {code : List Ins} (h : ∀ x ∈ code, insOk R V x = true ∧ I64 x.n) (j : Nat) (hj : j ≤ code.length) : LedOk V (ledP V (code.take j)) ∧ (ledP V (code.take j)).fresh ≤ j := by
  induction j with
  | zero => exact ⟨by simpa [ledP] using ledStart_ok V, by simp [ledP, ledStart]⟩
  | succ j ih =>
    have := ih (by omega)
    rw [ledP_take V code j (by omega)]
    have hx := h _ (List.getElem_mem (show j < code.length by omega))
    exact ⟨stepP_ok this.1 hx.1 hx.2, Nat.le_trans (stepP_fresh _ _) (by omega)⟩
/-- Where a step loads or stores. -/
structure Pla where
  r : Int
  i : Int
  j : Int
  off : Int
def Led.oget (l : Led) (n : Int) : Sym := if n = -1 then ⟨-1, 0⟩ else l.get n
def placeP (l : Led) (x : Ins) : Pla :=
  if x.op = 3 ∨ x.op = 4 then
    ⟨x.n, min (l.oget x.a).base (l.get x.b).base, max (l.oget x.a).base (l.get x.b).base, wrap64 ((l.oget x.a).off + (l.get x.b).off)⟩
  else ⟨-1, 0, 0, 0⟩
def placesUp (V : Nat) (code : List Ins) : Nat → List Pla
  | 0 => []
  | j + 1 => placesUp V code j ++ match code[j]? with | some x => [placeP (ledP V (code.take j)) x] | none => []
theorem placesUp_at (V : Nat) {code : List Ins} {j : Nat} (h : j < code.length) : placesUp V code (j + 1) = placesUp V code j ++ [placeP (ledP V (code.take j)) code[j]] := by
  show placesUp V code j ++ _ = _
  rw [List.getElem?_eq_getElem h]
theorem placesUp_len (V : Nat) (code : List Ins) (j : Nat) (h : j ≤ code.length) : (placesUp V code j).length = j := by
  induction j with
  | zero => rfl
  | succ j ih => rw [placesUp_at V (by omega), List.length_append, ih (by omega)]; rfl
/-- The slots of base -1 among the first j. -/
def knownUp (ss : List Sym) : Nat → List Int
  | 0 => []
  | j + 1 => if (ss[j]?.map (·.base)) = some (-1) then knownUp ss j ++ [(j : Int)] else knownUp ss j
theorem knownUp_yes {ss : List Sym} {j : Nat} (h : j < ss.length) (hb : ss[j].base = -1) : knownUp ss (j + 1) = knownUp ss j ++ [(j : Int)] := if_pos (by simp [h, hb])
theorem knownUp_no {ss : List Sym} {j : Nat} (h : j < ss.length) (hb : ss[j].base ≠ -1) : knownUp ss (j + 1) = knownUp ss j := if_neg (by simp [h, hb])
theorem knownUp_len (ss : List Sym) (j : Nat) : (knownUp ss j).length ≤ j := by
  induction j with
  | zero => simp [knownUp]
  | succ j ih =>
    unfold knownUp
    split
    · simp; omega
    · omega
/-- The block is there, and the graph is right. -/
def hasB6 (g : Gr) (n : Int) : Prop := grOk g = true ∧ 0 ≤ n ∧ n < (g.blocks.length : Nat)
instance (g : Gr) (n : Int) : Decidable (hasB6 g n) := by unfold hasB6; infer_instance
def codeAt (g : Gr) (n : Int) : List Ins := (g.blocks[n.toNat]!).code
def ledOf (g : Gr) (n : Int) : Led := ledP g.slots.toNat (codeAt g n)
def freshP (g : Gr) (n : Int) : Int := if hasB6 g n then ((ledOf g n).fresh : Int) else -1
def knownP (g : Gr) (n : Int) : List Int := if hasB6 g n then knownUp (ledOf g n).slots (ledOf g n).slots.length else []
def placesP (g : Gr) (n : Int) : List Pla := if hasB6 g n then placesUp g.slots.toNat (codeAt g n) (codeAt g n).length else []
end Go.Proofs.Ytooaoankloocmaa

/- A block that is there, of a graph that is right: what follows. -/
namespace Go.Proofs.Ytooaoankloocmaa
open Go.ChangeShapes Go.WideShapes Go.ChangeAt Go.RowKit
theorem codeAll_mem_le : ∀ (bs : List Blk) (b : Blk), b ∈ bs → b.code.length ≤ (codeAll bs).length
  | [], _, h => by cases h
  | c :: bs, b, h => by
    have e : codeAll (c :: bs) = c.code ++ codeAll bs := by simp [codeAll]
    rw [e, List.length_append]
    rcases List.mem_cons.1 h with rfl | h
    · omega
    · have := codeAll_mem_le bs b h; omega
theorem hasB6_ok {g : Gr} {n : Int} (h : hasB6 g n) : ∃ i V : Nat, n = (i : Int) ∧ g.slots = (V : Int) ∧ V ≤ 1000 ∧ ∃ hi : i < g.blocks.length, codeAt g n = (g.blocks[i]).code ∧ (g.blocks[i]).code.length ≤ 1000 ∧ ∀ x ∈ (g.blocks[i]).code, insOk (g.sizes.length : Nat) (V : Nat) x = true := by
  obtain ⟨ok, h0, h1⟩ := h
  simp only [grOk, frOk, Bool.and_eq_true, decide_eq_true_eq, List.all_eq_true] at ok
  have hi : n.toNat < g.blocks.length := by omega
  have hm : g.blocks[n.toNat] ∈ g.blocks := List.getElem_mem hi
  refine ⟨n.toNat, g.slots.toNat, by omega, by omega, by omega, hi, ?_, ?_, fun x hx => ?_⟩
  · unfold codeAt; rw [getElem!_pos g.blocks n.toNat hi]
  · have := codeAll_mem_le _ _ hm; omega
  · have := ok.1.2 x (List.mem_flatMap.2 ⟨_, hm, hx⟩)
    rwa [show ((g.slots.toNat : Nat) : Int) = g.slots by omega]
theorem placesP_len (g : Gr) (n : Int) : (placesP g n).length ≤ 1000000 := by
  unfold placesP
  split
  · rename_i h
    obtain ⟨i, V, _, _, _, hi, hce, hcl, _⟩ := hasB6_ok h
    rw [placesUp_len _ _ _ (Nat.le_refl _), hce]; omega
  · simp
theorem ins_i64 {w : World} {B : Nat} {u : Option Addr} {code : List Ins} (h : SlIs InsIs 7 w B u code) : ∀ x ∈ code, I64 x.n := by
  intro x hx
  obtain ⟨i, hi, rfl⟩ := List.getElem_of_mem hx
  obtain ⟨_, _, _, _, _, _, _, _, ok⟩ := h.at i hi
  exact ok.2.1.2.2.2.2.2
/-- A block's code: where its slice stands. -/
theorem code_of {w : World} {B : Nat} {ub : Option Addr} {blocks : List Blk} (hb : SlIs BlkIs 5 w B ub blocks) (i : Nat) (hi : i < blocks.length) :
    ∃ b o u k, ub = some ⟨b, o, none⟩ ∧ b < w.heap.size ∧ w.cell? ⟨b, o + i * 5, none⟩ = some (.slice u (blocks[i]).code.length k) ∧ SlIs InsIs 7 w B u (blocks[i]).code := by
  obtain ⟨b, o, v, ha, _, hbs, _, hc, hx⟩ := hb.at i hi
  obtain ⟨u, k, e, _, hcode⟩ := hx
  have := hc 0 (by omega)
  rw [e] at this
  exact ⟨b, o, u, k, ha, hbs, by simpa using this, hcode⟩
theorem knownP_len (g : Gr) (n : Int) {w : World} {B : Nat} {ub : Option Addr} (hb : SlIs BlkIs 5 w B ub g.blocks) : (knownP g n).length ≤ 1000000 := by
  unfold knownP
  split
  · rename_i h
    obtain ⟨i, V, _, hV, hV1, hi, hce, hcl, hall⟩ := hasB6_ok h
    obtain ⟨_, _, _, _, _, _, _, hcode⟩ := code_of hb i hi
    have h1 := knownUp_len (ledOf g n).slots (ledOf g n).slots.length
    have h2 : (ledOf g n).slots.length = V := by
      unfold ledOf
      rw [hce, hV]
      have := ledP_ok (fun x hx => ⟨hall x hx, ins_i64 hcode x hx⟩) (g.blocks[i]).code.length (Nat.le_refl _)
      rw [List.take_length] at this
      exact this.1.1
    omega
  · simp
end Go.Proofs.Ytooaoankloocmaa

/- The contract of impl.hasBlock. -/
namespace Go.Proofs.Ytooaoankloocmaa
open Go.ChangeShapes Go.WideShapes Go.ChangeAt Go.RowKit
set_option maxRecDepth 100000 in
set_option maxHeartbeats 2000000 in
theorem hasBlock_any (g : Gr) (n : Int) (w : World) (B : Nat) (v : Array Value) (h : GrIs w B v g) (GO : OkIs 65 g) :
    Calls Try.prog 44 #[.agg v, .int .i64 n] w fun en w' => en = .returned (.bool (decide (hasB6 g n))) ∧ Below w.heap.size w w' := by
  have hG := hideP h
  have HGO := hideP GO
  have BT0 : Hid (∀ W A v, GrIs W A v g → Calls Try.prog 68 #[.agg v, .int .i64 n] W fun en w' => en = .returned (.bool (vOk (g.blocks.length : Nat) n)) ∧ Below W.heap.size W w') := fun W A v hv => blockThere_any g n W A v hv
  have E : Hid (decide (hasB6 g n) = (vOk (g.blocks.length : Nat) n && grOk g)) := by
    show _ = _
    rw [Bool.eq_iff_iff]
    refine ⟨fun h => ?_, fun h => ?_⟩
    · obtain ⟨a, b, c⟩ := of_decide_eq_true h
      rw [a]; simpa [vOk] using And.intro b c
    · refine decide_eq_true ?_
      simp only [vOk, Bool.and_eq_true, decide_eq_true_eq] at h
      exact ⟨h.2, h.1.1, h.1.2⟩
  rw [E.out]
  clear GO E
  obtain ⟨gok, hgok⟩ : ∃ r, grOk g = r := ⟨_, rfl⟩
  obtain ⟨thr, hthr⟩ : ∃ r, vOk (g.blocks.length : Nat) n = r := ⟨_, rfl⟩
  rw [hgok, hthr]
  have BT : Hid (∀ W A v, GrIs W A v g → Calls Try.prog 68 #[.agg v, .int .i64 n] W fun en w' => en = .returned (.bool thr) ∧ Below W.heap.size W w') := fun W A v hv => hthr ▸ BT0.out W A v hv
  have GO1 : Hid (∀ W A v, GrIs W A v g → Calls Try.prog 65 #[.agg v] W fun en w' => en = .returned (.bool gok) ∧ Below W.heap.size W w') := fun W A v hv => hgok ▸ HGO.out W A v hv
  clear BT0 HGO hgok hthr
  obtain ⟨sizes, params, vars, slots, blocks⟩ := g
  obtain ⟨us, cs, ub, cb, rfl, _, _, _⟩ := h
  simp only at *
  have BW := hideP ((Below.refl w.heap.size w).alloc (Nat.le_refl _) (.cells #[.slice us sizes.length cs, .int .i64 params, .int .i64 vars, .int .i64 slots, .slice ub blocks.length cb] 31))
  have Q := hideP (heap_alloc_new w (.cells #[.slice us sizes.length cs, .int .i64 params, .int .i64 vars, .int .i64 slots, .slice ub blocks.length cb] 31))
  cases thr with
  | false =>
    go_enter Try.func44, Try.ntmps44
    go_wp2_with fail
    refine (BT.out _ B _ (GrKeeps.stays hG.out BW.out)).mono ?_
    rintro e1 w1 ⟨rfl, bel1⟩
    have BB := hideP (below_trans BW.out bel1)
    clear bel1
    go_wp2
    go_ret
    exact ⟨rfl, BB.out⟩
  | true =>
    go_enter Try.func44, Try.ntmps44
    go_wp2_with fail
    refine (BT.out _ B _ (GrKeeps.stays hG.out BW.out)).mono ?_
    rintro e1 w1 ⟨rfl, bel1⟩
    have BB := hideP (below_trans BW.out bel1)
    have Q1 := (bel1.block w.heap.size (Array.getElem?_eq_some_iff.1 Q.out).1).trans Q.out
    have p := (cells_of Q1).1
    have p0 := p 0
    have p1 := p 1
    have p2 := p 2
    have p3 := p 3
    have p4 := p 4
    simp at p0 p1 p2 p3 p4
    clear bel1 p Q1
    go_wp2_with fail
    refine (GO1.out _ B _ (GrKeeps.stays hG.out BB.out)).mono ?_
    rintro e2 w2 ⟨rfl, bel2⟩
    replace BB := hideP (below_trans BB.out bel2)
    clear bel2 p0 p1 p2 p3 p4
    go_wp2
    go_ret
    exact ⟨ret_bool (by simp), BB.out⟩
end Go.Proofs.Ytooaoankloocmaa
