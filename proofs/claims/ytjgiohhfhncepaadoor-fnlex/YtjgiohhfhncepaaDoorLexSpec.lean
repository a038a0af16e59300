/- The contract of the specification's Lex: a list of its own that holds the text's words. -/
import Derived.Test.YtjgiohhfhncepaaDoorLexNext2
namespace Go.Proofs.YtjgiohhfhncepaaDoor
open Go.ChangeShapes Go.WideShapes Go.ChangeAt Go.RowKit

def tokCells (x : Tk × Nat) : List Value := [.int .i64 x.1.k, .string ⟨x.1.t.toArray⟩, .int .i64 x.1.n, .int .i64 x.2]
def toksCells (l : List (Tk × Nat)) : List Value := l.flatMap tokCells
theorem toksCells_snoc (l : List (Tk × Nat)) (x : Tk × Nat) : toksCells (l ++ [x]) = toksCells l ++ tokCells x := by simp [toksCells]
theorem infoT : (Tryd.prog.info? 37).map (fun i => (i.zero, i.size, i.bytes)) = some (some (.agg #[.int .i64 0, .string ⟨#[]⟩, .int .i64 0, .int .i64 0]), 4, 40) := by kernel_rfl
theorem owns_below {w w1 : World} {B n : Nat} {e : TypeId} {sz : Nat} {v : Value} {xs : List Value} (h : w.ownsRow B e sz v n xs) (b : Below w.heap.size w w1) : w1.ownsRow B e sz v n xs := by
  obtain ⟨h1, h2 | ⟨g, cap, cur, h3, h4, h5, h6⟩⟩ := h
  · exact ⟨h1, .inl h2⟩
  · exact ⟨h1, .inr ⟨g, cap, cur, h3, h4, (b.block g (Array.getElem?_eq_some_iff.1 h5).1).trans h5, h6⟩⟩
/-- The list that Lex hands back: its own, not nil, these words. -/
def LexOut (B : Nat) (w : World) (v : Value) (ts : List (Tk × Nat)) : Prop := w.ownsRow B 37 4 v ts.length (toksCells ts) ∧ v ≠ .slice none 0 0

theorem ret_lex {l : List UInt8} {ts : List (Tk × Nat)} {n : Nat} {v : Value} (h : lexL l = (ts, n)) : Ending.returned (.tuple #[v, .int .i64 n]) = .returned (.tuple #[v, .int .i64 (lexL l).2]) := by rw [h]
theorem lexOut_of {l : List UInt8} {ts : List (Tk × Nat)} {n B : Nat} {w : World} {v : Value} (h : lexL l = (ts, n)) (ho : LexOut B w v ts) : LexOut B w v (lexL l).1 := by rw [h]; exact ho
theorem lexOut_made {l : List UInt8} {n : Nat} {w : World} (h : lexL l = ([], n)) : LexOut w.heap.size (w.alloc (.cells #[] 37)) (.slice (some ⟨w.heap.size, 0, none⟩) 0 0) (lexL l).1 := by
  rw [h]; exact ⟨World.ownsRow_made w #[] 0 (Nat.le_refl _) (Nat.zero_le _) rfl, by intro h; cases h⟩
theorem lexOut_made2 {l : List UInt8} {n B b : Nat} {w : World} (h : lexL l = ([], n)) (hB : B ≤ w.heap.size) (hb : b = w.heap.size) : LexOut B (w.alloc (.cells #[] 37)) (.slice (some ⟨b, 0, none⟩) 0 0) (lexL l).1 := by
  subst hb
  rw [h]; exact ⟨World.ownsRow_made w #[] 0 hB (Nat.zero_le _) rfl, by intro h; cases h⟩
theorem tok_cells (w : World) (tk : Tk) (line b : Nat) (t : TypeId) (hb : b = w.heap.size) : ∀ (j : Nat) (u : Value), (tokCells (tk, line))[j]? = some u → (w.alloc (.cells #[.int .i64 tk.k, .string ⟨tk.t.toArray⟩, .int .i64 tk.n, .int .i64 line] t)).cell? (Addr.add ⟨b, 0, none⟩ j) = some u := by
  intro j u hj
  subst hb
  match j, hj with
  | 0, hj => simpa [Addr.add, tokCells] using hj
  | 1, hj => simpa [Addr.add, tokCells] using hj
  | 2, hj => simpa [Addr.add, tokCells] using hj
  | 3, hj => simpa [Addr.add, tokCells] using hj
  | j + 4, hj => simp [tokCells] at hj
theorem tok_one (x : Tk × Nat) : ∀ u ∈ tokCells x, u.oneCell' = true := by
  intro u hu
  simp only [tokCells, List.mem_cons, List.not_mem_nil, or_false] at hu
  rcases hu with rfl | rfl | rfl | rfl <;> rfl
theorem hideInfo : ∃ i0, Hid (Tryd.prog.info? 37 = some i0 ∧ i0.zero = some (.agg #[.int .i64 0, .string ⟨#[]⟩, .int .i64 0, .int .i64 0]) ∧ i0.size = 4 ∧ i0.bytes = 40) := by
  obtain ⟨i0, hi, hz0, hz1, hz2⟩ := info_parts infoT
  exact ⟨i0, hi, hz0, hz1, hz2⟩

set_option maxHeartbeats 1000000 in
theorem spec_lex (s : ByteArray) (w : World) (hs : s.size ≤ 1048576) :
    Calls Tryd.prog 7 #[.string s] w fun e w' => ∃ v, e = .returned (.tuple #[v, .int .i64 (lexL s.data.toList).2]) ∧ LexOut w.heap.size w' v (lexL s.data.toList).1 ∧ Below w.heap.size w w' := by
  by_cases h3 : 3000 < s.size
  · have HL : Hid (lexL s.data.toList = ([], 1)) := by show _ = _; unfold lexL; rw [if_pos (by rw [dlen]; exact h3)]
    go_enter Tryd.func7, Tryd.ntmps7
    go_wp2
    go_ret2
    exact ⟨_, ret_lex HL.out, lexOut_made HL.out, (Below.refl _ _).alloc (Nat.le_refl _) _⟩
  · go_enter Tryd.func7, Tryd.ntmps7
    go_wp2
    go_loopw [4, 5, 6] (fun v ln x wr => ∃ (i line : Nat) (ts : List (Tk × Nat)), i ≤ s.size ∧ line ≤ i + 1 ∧ ts.length ≤ i ∧ x = .int .i64 i ∧ ln = .int .i64 line ∧ Hid (LInv s i line ts) ∧ Hid (LexOut w.heap.size wr v ts) ∧ Hid (Below w.heap.size w wr)) (fun _ _ x _ => s.size - (intOf x).toNat)
    case atStart => exact ⟨0, 1, [], by omega, by omega, by simp, rfl, rfl, LInv.start s (by omega), ⟨World.ownsRow_made w #[] 0 (Nat.le_refl _) (Nat.zero_le _) rfl, by intro h; cases h⟩, (Below.refl _ _).alloc (Nat.le_refl _) _⟩
    case round =>
      obtain ⟨i, line, ts, his, hln, htl, rfl, rfl, hinv, hout, bel⟩ := hrel
      by_cases hlt : i < s.size
      · by_cases h32 : s[i] = 32
        · have h32' : ((s[i].toNat : Int) == 32) = true := by rw [h32]; rfl
          have h10' : ((s[i].toNat : Int) == 10) = false := by rw [h32]; rfl
          go_wp2
          go_roundw
          case rel => exact ⟨i + 1, line, ts, by omega, by omega, by omega, by go_num, rfl, hinv.out.blank hlt h32, hout, bel⟩
          case measure => simp [intOf]; omega
        · have h32' : ((s[i].toNat : Int) == 32) = false := by
            rw [beq_eq_false_iff_ne]; intro e; apply h32; apply UInt8.toNat_inj.1; show s[i].toNat = 32; omega
          by_cases h10 : s[i] = 10
          · have h10' : ((s[i].toNat : Int) == 10) = true := by rw [h10]; rfl
            have H10 := hideP h10
            clear h10
            go_wp2
            go_roundw
            case rel => exact ⟨i + 1, line + 1, ts, by omega, by omega, by omega, by go_num, by go_num, hinv.out.newline hlt H10.out, hout, bel⟩
            case measure => simp [intOf]; omega
          · have h10' : ((s[i].toNat : Int) == 10) = false := by
              rw [beq_eq_false_iff_ne]; intro e; apply h10; apply UInt8.toNat_inj.1; show s[i].toNat = 10; omega
            go_wp2_with fail
            refine (l01Next_any s i wr (by omega) hlt).mono ?_
            rintro e w1 ⟨hnx, bel1⟩
            have hsw := bel.out.size
            have hs1 := bel1.size
            have BEL1 := hideP (bel.out.trans (bel1.mono hsw))
            have OWN := hideP (owns_below hout.out.1 bel1)
            clear bel1
            cases hn : nextL (s.data.toList.drop i) with
            | none =>
              rw [hn] at hnx
              have he : e = .returned (.tuple #[.agg #[.int .i64 0, .string ⟨#[]⟩, .int .i64 0, .int .i64 0], .int .i64 (-1)]) := hnx
              subst he
              have HL := hideP (hinv.out.bad hlt h32 h10 hn)
              clear hnx hn hinv
              go_wp2
              go_ret2
              refine ⟨_, ret_lex HL.out, ?_, ?_⟩
              · show LexOut w.heap.size _ (.slice (some ⟨w1.heap.size + 1, 0, none⟩) 0 0) _
                refine lexOut_made2 HL.out ?_ ?_
                · simp; omega
                · simp
              · exact (BEL1.out.alloc (by omega) _).alloc (by simp; omega) _
            | some tk =>
              rw [hn] at hnx
              have he : e = .returned (.tuple #[.agg #[.int .i64 tk.k, .string ⟨tk.t.toArray⟩, .int .i64 tk.n, .int .i64 (0 : Nat)], .int .i64 ((i + tk.len : Nat) : Int)]) := hnx
              subst he
              have hbd := nextL_bd (by rw [drop_cons s i hlt]; simp) hn
              rw [List.length_drop, dlen] at hbd
              have HI := hideP (hinv.out.word hlt h32 h10 hn)
              clear hnx hn hinv hout
              obtain ⟨i2, hi2⟩ : ∃ i2, i + tk.len = i2 := ⟨_, rfl⟩
              rw [hi2] at HI ⊢
              have hi2' : i < i2 ∧ i2 ≤ s.size := by omega
              clear hi2 hbd
              obtain ⟨i0, hi0⟩ := hideInfo
              go_wp2_with (at_builtin; obtain ⟨hi, hz0, hz1, hz2⟩ := hi0.out; refine wpList_append_own _ rfl _ _ 25 rfl w.heap.size 37 i0 (.agg #[.int .i64 0, .string ⟨#[]⟩, .int .i64 0, .int .i64 0]) 4 40 Tryd.underlying25 hi hz0 hz1 hz2 rfl (by decide) _ _ _ rfl ((OWN.out.alloc _).alloc _) ⟨w1.heap.size + 1, 0, none⟩ 1 1 (tokCells (tk, line)) rfl rfl ?c1 ?c2 ?c3 ?c4 ?c5 ?_)
              case c1 => exact tok_cells _ _ _ _ _ (by simp)
              case c2 => exact tok_one _
              case c3 => unfold maxLen; omega
              case c4 => omega
              case c5 => simp; omega
              · intro v' w2 hown' hgrow hnn
                have bel2 : Below w.heap.size w w2 := ((BEL1.out.alloc (by omega) _).alloc (by simp; omega) _).grown hgrow (by simp; omega) (fun b hb => (OWN.out.lt b hb).1)
                have hout2 : Hid (LexOut w.heap.size w2 v' (ts ++ [(tk, line)])) := ⟨by rw [toksCells_snoc, List.length_append]; exact hown', by simpa using hnn⟩
                have BEL2 := hideP bel2
                clear hown' hgrow hnn bel2 OWN
                go_wp2
                go_roundw
                case rel => exact ⟨i2, line, ts ++ [(tk, line)], by omega, by omega, by simp; omega, rfl, rfl, HI, hout2, BEL2⟩
                case measure => simp [intOf]; omega
      · have HL := hideP (hinv.out.done (by omega))
        go_wp2
        go_ret2
        exact ⟨_, ret_lex HL.out, lexOut_of HL.out hout.out, bel.out⟩
end Go.Proofs.YtjgiohhfhncepaaDoor
