/- The contracts of both Words: a list of its own that holds the text cut at its blanks. -/
import Derived.Test.YtjgiohhfhncepaaDoorWordsPlain
import Derived.Test.YtjgiohhfhncepaaDoorMem
import Derived.Test.YtjgiohhfhncepaaDoorRows
import Derived.Test.YtjgiohhfhncepaaDoorShelf
import Derived.WalkKit
import Derived.ProofKit
import Derived.OpenShut
import Derived.WalkSpells
import Derived.WalkLawsBesides
namespace Go.Proofs.YtjgiohhfhncepaaDoor
open Go.ChangeShapes Go.WideShapes Go.ChangeAt Go.RowKit

theorem infoS : (Tryd.prog.info? 9).map (fun i => (i.zero, i.size, i.bytes)) = some (some (.string ⟨#[]⟩), 1, 16) := by kernel_rfl

set_option maxHeartbeats 800000 in
theorem spec_words (s : ByteArray) (w : World) (hs : s.size ≤ 1048576) :
    Calls Tryd.prog 23 #[.string s] w fun e w' => ∃ (v : Value) (ps : List ByteArray), e = .returned v ∧ Hid (ps.map (fun b : ByteArray => b.data.toList) = wordsL s.data.toList) ∧ w'.ownsRow w.heap.size 9 1 v ps.length (ps.map Value.string) ∧ Below w.heap.size w w' := by
  obtain ⟨i0, hi, hz0, hz1, hz2⟩ := info_parts infoS
  go_enter Tryd.func23, Tryd.ntmps23
  go_wp2
  go_loopw [3, 4, 5] (fun v f i wr => ∃ (k f0 : Nat) (ps : List ByteArray), f0 ≤ k ∧ k ≤ s.size ∧ ps.length ≤ k ∧ i = .int .i64 k ∧ f = .int .i64 f0 ∧ Hid (WInv s ps f0 k) ∧ wr.ownsRow w.heap.size 9 1 v ps.length (ps.map Value.string) ∧ Below w.heap.size w wr) (fun _ _ i _ => s.size - (intOf i).toNat)
  case atStart =>
    refine ⟨0, 0, [], Nat.le_refl _, Nat.zero_le _, Nat.le_refl _, rfl, rfl, WInv.start s, ?_, ?_⟩
    · exact World.ownsRow_made w #[] 0 (Nat.le_refl _) (Nat.zero_le _) rfl
    · exact (Below.refl _ _).alloc (Nat.le_refl _) _
  case round =>
    obtain ⟨k, f0, ps, hf, hk, hp, rfl, rfl, hinv, hown, bel⟩ := hrel
    have hsz := bel.size
    by_cases hlt : k < s.size
    · by_cases hb : s[k] = 32
      · have hb' : ((s[k].toNat : Int) == 32) = true := by rw [hb]; rfl
        have HB := hideP hb
        clear hb
        go_wp2_with (at_builtin; refine wpList_append_own _ rfl _ _ 34 rfl w.heap.size 9 i0 (.string ⟨#[]⟩) 1 16 Tryd.underlying34 hi hz0 hz1 hz2 rfl (by decide) _ _ _ rfl (hown.alloc _) ⟨wr.heap.size, 0, none⟩ 1 1 [.string (s.extract f0 k)] rfl rfl ?c1 ?c2 ?c3 ?c4 ?c5 ?_)
        case c1 =>
          intro j u hj
          match j, hj with
          | 0, hj => simp at hj; subst hj; simp [Addr.add]
        case c2 => intro u hu; simp at hu; subst hu; rfl
        case c3 => unfold maxLen; omega
        case c4 => omega
        case c5 => simp; omega
        · intro v' w1 hown' hgrow _
          have bel1 : Below w.heap.size w w1 := (bel.alloc hsz _).grown hgrow (by simp; omega) (fun b hb => (hown.lt b hb).1)
          have hown1 : w1.ownsRow w.heap.size 9 1 v' (ps ++ [s.extract f0 k]).length ((ps ++ [s.extract f0 k]).map Value.string) := by simpa using hown'
          clear hown' hgrow hown bel
          go_wp2
          go_roundw
          case rel => exact ⟨k + 1, k + 1, ps ++ [s.extract f0 k], Nat.le_refl _, by omega, by simp; omega, by go_num, by go_num, hinv.out.hit hlt HB.out, hown1, bel1⟩
          case measure => simp [intOf]; omega
      · have hb' : ((s[k].toNat : Int) == 32) = false := by
          rw [beq_eq_false_iff_ne]; intro e; apply hb; apply UInt8.toNat_inj.1; show s[k].toNat = 32; omega
        go_wp2
        go_roundw
        case rel => exact ⟨k + 1, f0, ps, by omega, by omega, by omega, by go_num, rfl, hinv.out.miss hf hlt hb, hown, bel⟩
        case measure => simp [intOf]; omega
    · have hfs : f0 ≤ s.size := by omega
      go_wp2_with (at_builtin; refine wpList_append_own _ rfl _ _ 34 rfl w.heap.size 9 i0 (.string ⟨#[]⟩) 1 16 Tryd.underlying34 hi hz0 hz1 hz2 rfl (by decide) _ _ _ rfl (hown.alloc _) ⟨wr.heap.size, 0, none⟩ 1 1 [.string (s.extract f0 s.size)] rfl rfl ?c1 ?c2 ?c3 ?c4 ?c5 ?_)
      case c1 =>
        intro j u hj
        match j, hj with
        | 0, hj => simp at hj; subst hj; simp [Addr.add]
      case c2 => intro u hu; simp at hu; subst hu; rfl
      case c3 => unfold maxLen; omega
      case c4 => omega
      case c5 => simp; omega
      · intro v' w1 hown' hgrow _
        have bel1 : Below w.heap.size w w1 := (bel.alloc hsz _).grown hgrow (by simp; omega) (fun b hb => (hown.lt b hb).1)
        have hown1 : w1.ownsRow w.heap.size 9 1 v' (ps ++ [s.extract f0 s.size]).length ((ps ++ [s.extract f0 s.size]).map Value.string) := by simpa using hown'
        clear hown' hgrow hown bel
        go_wp2
        go_ret
        exact ⟨v', ps ++ [s.extract f0 s.size], rfl, hinv.out.done (by omega), hown1, bel1⟩

theorem clone_any (s : ByteArray) (w : World) (hs : s.size ≤ 1048576) :
    Calls Tryd.prog 29 #[.string s] w fun e w' => e = .returned (.string s) ∧ Below w.heap.size w w' := by
  go_enter Tryd.func29, Tryd.ntmps29
  go_wp2_with fail
  refine (Tryd.stringslite_Clone s _ (by omega)).mono ?_
  rintro e w' ⟨rfl, bel⟩
  go_wp2
  go_ret
  exact ⟨rfl, bel⟩

theorem countB_splitB (s : ByteArray) : (Lib.splitB (wd [32]) 0 (Lib.countB s (wd [32])) s).length = Lib.countB s (wd [32]) + 1 := Lib.splitB_all (wd [32]) (by decide) 0 _ s rfl

set_option maxHeartbeats 400000 in
theorem impl_words (s : ByteArray) (m : Int) (w : World) (hs : s.size ≤ 1048576) (hm : w.cell? ⟨5, 0, none⟩ = some (.int .i64 m)) :
    Calls Tryd.prog 22 #[.string s] w fun e w' => ∃ (b : Nat) (ps : List ByteArray), e = .returned (.slice (some ⟨b, 0, none⟩) ps.length ps.length) ∧ w.heap.size ≤ b ∧ Hid (ps.map (fun b : ByteArray => b.data.toList) = wordsL s.data.toList) ∧ w'.heap[b]? = some (.cells (ps.map Value.string).toArray 9 (0, 0)) ∧ Below w.heap.size w w' := by
  have hg : 5 < w.heap.size := World.block_lt_of_cell? _ _ hm
  have HM := hideP hm
  clear hm
  go_enter Tryd.func22, Tryd.ntmps22
  go_wp2_with fail
  refine (clone_any s _ hs).mono ?_
  rintro e w1 ⟨rfl, bel⟩
  have hm1 : w1.cell? ⟨5, 0, none⟩ = some (.int .i64 m) := (bel.cell (p := ⟨5, 0, none⟩) hg).trans HM.out
  go_wp2_with fail
  refine (Tryd.strings_Split s (wd [32]) m _ (by omega) hm1 (by decide)).mono ?_
  rintro e w2 ⟨rfl, rfl⟩
  have hl := countB_splitB s
  go_wp2
  go_ret
  refine ⟨w1.heap.size, Lib.splitB (wd [32]) 0 (Lib.countB s (wd [32])) s, by rw [hl]; rfl, bel.size, splitB_words s, ?_, bel.alloc bel.size _⟩
  exact heap_alloc_new w1 _
end Go.Proofs.YtjgiohhfhncepaaDoor
