/- The contract of the program's Lex: a list of its own that holds the text's words. -/
import Derived.Test.YtjgiohhfhncepaaDoorLexSpec
import Derived.Test.YtjgiohhfhncepaaDoorLexWord
import Derived.Test.YtjgiohhfhncepaaDoorShelf
namespace Go.Proofs.YtjgiohhfhncepaaDoor
open Go.ChangeShapes Go.WideShapes Go.ChangeAt Go.RowKit

theorem clone_lex (s : ByteArray) (w : World) (hs : s.size ≤ 1048576) :
    Calls Tryd.prog 29 #[.string s] w fun e w' => e = .returned (.string s) ∧ Below w.heap.size w w' := by
  go_enter Tryd.func29, Tryd.ntmps29
  go_wp2_with fail
  refine (Tryd.stringslite_Clone s _ (by omega)).mono ?_
  rintro e w' ⟨rfl, bel⟩
  go_wp2
  go_ret
  exact ⟨rfl, bel⟩
/-- The size of the text in a slot: for the loop's measure. -/
def strSize : Value → Nat | .string r => r.size | _ => 0
/-- What is left of s behind i bytes. -/
def Rest (s r : ByteArray) (i : Nat) : Prop := r.data.toList = s.data.toList.drop i
theorem Rest.size {s r : ByteArray} {i : Nat} (h : Rest s r i) : r.size = s.size - i := by
  have := congrArg List.length h
  rw [dlen, List.length_drop, dlen] at this; exact this
theorem Rest.zero {s r : ByteArray} {i : Nat} (h : Rest s r i) (hi : i < s.size) (h0 : 0 < r.size) : r[0] = s[i] := by
  have h1 := drop_cons r 0 h0
  rw [List.drop_zero, h, drop_cons s i hi] at h1
  exact (List.cons.inj h1).1.symm
theorem Rest.on {s r : ByteArray} {i : Nat} (h : Rest s r i) (k : Nat) : Rest s (r.extract k r.size) (i + k) := by
  unfold Rest at *
  rw [Lib.extract_data, List.take_of_length_le (by rw [List.length_drop, dlen]; omega), h, List.drop_drop]

set_option maxHeartbeats 1000000 in
theorem impl_lex (s : ByteArray) (w : World) (fr1 fr2 : Nat × Nat) (t1 t2 : TypeId) (hs : s.size ≤ 1048576) (hg0 : w.heap[0]? = some (.cells lensV t1 fr1)) (hg1 : w.heap[1]? = some (.cells signsV t2 fr2)) :
    Calls Tryd.prog 6 #[.string s] w fun e w' => ∃ v, e = .returned (.tuple #[v, .int .i64 (lexL s.data.toList).2]) ∧ LexOut w.heap.size w' v (lexL s.data.toList).1 ∧ Below w.heap.size w w' := by
  have hb0 : 0 < w.heap.size := (Array.getElem?_eq_some_iff.1 hg0).1
  have hb1 : 1 < w.heap.size := (Array.getElem?_eq_some_iff.1 hg1).1
  have HG0 := hideP hg0
  have HG1 := hideP hg1
  clear hg0 hg1
  by_cases h3 : 3000 < s.size
  · have HL : Hid (lexL s.data.toList = ([], 1)) := by show _ = _; unfold lexL; rw [if_pos (by rw [dlen]; exact h3)]
    go_enter Tryd.func6, Tryd.ntmps6
    go_wp2
    go_ret2
    exact ⟨_, ret_lex HL.out, lexOut_made HL.out, (Below.refl _ _).alloc (Nat.le_refl _) _⟩
  · go_enter Tryd.func6, Tryd.ntmps6
    go_wp2_with fail
    refine (clone_lex s _ hs).mono ?_
    rintro e w0 ⟨rfl, bel0⟩
    have hs0 := bel0.size
    have BEL0 := hideP bel0
    clear bel0
    go_wp2
    go_loopw [4, 5, 6] (fun rs v ln wr => ∃ (i line : Nat) (r : ByteArray) (ts : List (Tk × Nat)), i ≤ s.size ∧ line ≤ i + 1 ∧ ts.length ≤ i ∧ rs = .string r ∧ ln = .int .i64 line ∧ Hid (Rest s r i) ∧ Hid (LInv s i line ts) ∧ Hid (LexOut w.heap.size wr v ts) ∧ Hid (Below w.heap.size w wr)) (fun rs _ _ _ => strSize rs)
    case atStart => exact ⟨0, 1, s, [], by omega, by omega, by simp, rfl, rfl, by show _ = _; simp, LInv.start s (by omega), ⟨World.ownsRow_made w0 #[] 0 hs0 (Nat.zero_le _) rfl, by intro h; cases h⟩, BEL0.out.alloc hs0 _⟩
    case round =>
      obtain ⟨i, line, r, ts, his, hln, htl, rfl, rfl, hr, hinv, hout, bel⟩ := hrel
      have hrs : r.size + i ≤ s.size ∧ s.size ≤ r.size + i := by have := hr.out.size; omega
      by_cases hlt : i < s.size
      · have hr0 : 0 < r.size := by omega
        have HR0 := hideP (hr.out.zero hlt hr0)
        by_cases h32 : s[i] = 32
        · have h32' : ((r[0].toNat : Int) == 32) = true := by rw [HR0.out, h32]; rfl
          have h10' : ((r[0].toNat : Int) == 10) = false := by rw [HR0.out, h32]; rfl
          go_wp2
          go_roundw
          case rel => exact ⟨i + 1, line, _, ts, by omega, by omega, by omega, rfl, rfl, hr.out.on 1, hinv.out.blank hlt h32, hout, bel⟩
          case measure => simp [strSize]; omega
        · have h32' : ((r[0].toNat : Int) == 32) = false := by
            rw [HR0.out, beq_eq_false_iff_ne]; intro e; apply h32; apply UInt8.toNat_inj.1; show s[i].toNat = 32; omega
          by_cases h10 : s[i] = 10
          · have h10' : ((r[0].toNat : Int) == 10) = true := by rw [HR0.out, h10]; rfl
            have H10 := hideP h10
            clear h10
            go_wp2
            go_roundw
            case rel => exact ⟨i + 1, line + 1, _, ts, by omega, by omega, by omega, rfl, by go_num, hr.out.on 1, hinv.out.newline hlt H10.out, hout, bel⟩
            case measure => simp [strSize]; omega
          · have h10' : ((r[0].toNat : Int) == 10) = false := by
              rw [HR0.out, beq_eq_false_iff_ne]; intro e; apply h10; apply UInt8.toNat_inj.1; show s[i].toNat = 10; omega
            go_wp2_with fail
            refine (firstWord_any r wr fr1 fr2 t1 t2 (by omega) hr0 ((bel.out.block _ hb0).trans HG0.out) ((bel.out.block _ hb1).trans HG1.out)).mono ?_
            rintro e w1 ⟨hnx, bel1⟩
            rw [hr.out] at hnx
            have hsw := bel.out.size
            have hs1 := bel1.size
            have BEL1 := hideP (bel.out.trans (bel1.mono hsw))
            have OWN := hideP (owns_below hout.out.1 bel1)
            clear bel1
            cases hn : nextL (s.data.toList.drop i) with
            | none =>
              rw [hn] at hnx
              obtain ⟨a, c, d, b, rfl⟩ := hnx
              have HL := hideP (hinv.out.bad hlt h32 h10 hn)
              clear hn hinv
              go_wp2
              go_ret2
              refine ⟨_, ret_lex HL.out, ?_, ?_⟩
              · show LexOut w.heap.size _ (.slice (some ⟨w1.heap.size + 1, 0, none⟩) 0 0) _
                refine lexOut_made2 HL.out ?_ ?_
                · simp; omega
                · simp
              · exact (BEL1.out.alloc (by omega) _).alloc (by simp; omega) _
            | some tk =>
              rw [hn] at hnx
              have he : e = .returned (.tuple #[.agg #[.int .i64 tk.k, .string ⟨tk.t.toArray⟩, .int .i64 tk.n, .int .i64 (0 : Nat)], .int .i64 tk.len]) := hnx
              subst he
              have hbd := nextL_bd (by rw [drop_cons s i hlt]; simp) hn
              rw [List.length_drop, dlen] at hbd
              have HI := hideP (hinv.out.word hlt h32 h10 hn)
              clear hnx hn hinv hout
              have hlen0 : ((tk.len : Int) == 0) = false := by rw [beq_eq_false_iff_ne]; omega
              have hlenr : tk.len ≤ r.size := by omega
              obtain ⟨i0, hi0⟩ := hideInfo
              go_wp2_with (at_builtin; obtain ⟨hi, hz0, hz1, hz2⟩ := hi0.out; refine wpList_append_own _ rfl _ _ 25 rfl w.heap.size 37 i0 (.agg #[.int .i64 0, .string ⟨#[]⟩, .int .i64 0, .int .i64 0]) 4 40 Tryd.underlying25 hi hz0 hz1 hz2 rfl (by decide) _ _ _ rfl ((OWN.out.alloc _).alloc _) ⟨w1.heap.size + 1, 0, none⟩ 1 1 (tokCells (tk, line)) rfl rfl ?c1 ?c2 ?c3 ?c4 ?c5 ?_)
              case c1 => exact tok_cells _ _ _ _ _ (by simp)
              case c2 => exact tok_one _
              case c3 => unfold maxLen; omega
              case c4 => omega
              case c5 => simp; omega
              · intro v' w2 hown' hgrow hnn
                have bel2 : Below w.heap.size w w2 := ((BEL1.out.alloc (by omega) _).alloc (by simp; omega) _).grown hgrow (by simp; omega) (fun b hb => (OWN.out.lt b hb).1)
                have hout2 : Hid (LexOut w.heap.size w2 v' (ts ++ [(tk, line)])) := ⟨by rw [toksCells_snoc, List.length_append]; exact hown', by simpa using hnn⟩
                have BEL2 := hideP bel2
                clear hown' hgrow hnn bel2 OWN
                go_wp2
                go_roundw
                case rel => exact ⟨i + tk.len, line, _, ts ++ [(tk, line)], by omega, by omega, by simp; omega, rfl, rfl, hr.out.on tk.len, HI, hout2, BEL2⟩
                case measure => simp [strSize]; omega
      · have HL := hideP (hinv.out.done (by omega))
        have hr0 : ¬ 0 < r.size := by omega
        go_wp2
        go_ret2
        exact ⟨_, ret_lex HL.out, lexOut_of HL.out hout.out, bel.out⟩
end Go.Proofs.YtjgiohhfhncepaaDoor
