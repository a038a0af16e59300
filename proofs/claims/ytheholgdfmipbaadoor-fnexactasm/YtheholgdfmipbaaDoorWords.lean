/- The contracts of both Words: a list of its own that holds the text cut at its blanks. -/
import Derived.Test.YtheholgdfmipbaaDoorWordsPlain
import Derived.Test.YtheholgdfmipbaaDoorMem
import Derived.Test.YtheholgdfmipbaaDoorRows
import Derived.Test.YtheholgdfmipbaaDoorShelf
import Derived.WalkKit
import Derived.ProofKit
import Derived.OpenShut
import Derived.WalkSpells
import Derived.WalkLawsBesides
namespace Go.Proofs.YtheholgdfmipbaaDoor
open Go.ChangeShapes Go.WideShapes Go.ChangeAt Go.RowKit

theorem infoS : (Tryd.prog.info? 9).map (fun i => (i.zero, i.size, i.bytes)) = some (some (.string ⟨#[]⟩), 1, 16) := by kernel_rfl

theorem clone_any (s : ByteArray) (w : World) (hs : s.size ≤ 1048576) :
    Calls Tryd.prog 57 #[.string s] w fun e w' => e = .returned (.string s) ∧ Below w.heap.size w w' := by
  go_enter Tryd.func57, Tryd.ntmps57
  go_wp2_with fail
  refine (Tryd.stringslite_Clone s _ (by omega)).mono ?_
  rintro e w' ⟨rfl, bel⟩
  go_wp2
  go_ret
  exact ⟨rfl, bel⟩

theorem countB_splitB (s : ByteArray) : (Lib.splitB (wd [32]) 0 (Lib.countB s (wd [32])) s).length = Lib.countB s (wd [32]) + 1 := Lib.splitB_all (wd [32]) (by decide) 0 _ s rfl

set_option maxHeartbeats 400000 in
theorem impl_words (s : ByteArray) (m : Int) (w : World) (hs : s.size ≤ 1048576) (hm : w.cell? ⟨4, 0, none⟩ = some (.int .i64 m)) :
    Calls Tryd.prog 48 #[.string s] w fun e w' => ∃ (b : Nat) (ps : List ByteArray), e = .returned (.slice (some ⟨b, 0, none⟩) ps.length ps.length) ∧ w.heap.size ≤ b ∧ Hid (ps.map (fun b : ByteArray => b.data.toList) = wordsL s.data.toList) ∧ w'.heap[b]? = some (.cells (ps.map Value.string).toArray 9 (0, 0)) ∧ Below w.heap.size w w' := by
  have hg : 4 < w.heap.size := World.block_lt_of_cell? _ _ hm
  have HM := hideP hm
  clear hm
  go_enter Tryd.func48, Tryd.ntmps48
  go_wp2_with fail
  refine (clone_any s _ hs).mono ?_
  rintro e w1 ⟨rfl, bel⟩
  have hm1 : w1.cell? ⟨4, 0, none⟩ = some (.int .i64 m) := (bel.cell (p := ⟨4, 0, none⟩) hg).trans HM.out
  go_wp2_with fail
  refine (Tryd.strings_Split s (wd [32]) m _ (by omega) hm1 (by decide)).mono ?_
  rintro e w2 ⟨rfl, rfl⟩
  have hl := countB_splitB s
  go_wp2
  go_ret
  refine ⟨w1.heap.size, Lib.splitB (wd [32]) 0 (Lib.countB s (wd [32])) s, by rw [hl]; rfl, bel.size, splitB_words s, ?_, bel.alloc bel.size _⟩
  exact heap_alloc_new w1 _
end Go.Proofs.YtheholgdfmipbaaDoor
