/- What impl.Lex answers where three blanks are set behind a text that is read: the same words. -/
import Derived.Test.YtjgiohhfhncepaaDoorLexImpl
import Derived.Test.YtjgiohhfhncepaaDoorLexMore
namespace Go.Proofs.YtjgiohhfhncepaaDoor
open Go.ChangeShapes Go.WideShapes Go.ChangeAt Go.RowKit

theorem three_size (s : ByteArray) : (s ++ ⟨#[32, 10, 32]⟩ : ByteArray).size = s.size + 3 := by
  rw [ByteArray.size_append]
  congr 1
theorem impl_lex3 {ts : List (Tk × Nat)} (s : ByteArray) (w : World) (fr1 fr2 : Nat × Nat) (t1 t2 : TypeId) (hs : s.size ≤ 2997) (hl : lexL s.data.toList = (ts, 0)) (hg0 : w.heap[0]? = some (.cells lensV t1 fr1)) (hg1 : w.heap[1]? = some (.cells signsV t2 fr2)) :
    Calls Tryd.prog 6 #[.string (s ++ ⟨#[32, 10, 32]⟩)] w fun e w' => ∃ v, e = .returned (.tuple #[v, .int .i64 0]) ∧ LexOut w.heap.size w' v ts ∧ Below w.heap.size w w' := by
  obtain ⟨x, hx⟩ : ∃ x : ByteArray, s ++ ⟨#[32, 10, 32]⟩ = x := ⟨_, rfl⟩
  have h1 : x.size = s.size + 3 := by rw [← hx]; exact three_size s
  have h2 : lexL x.data.toList = (ts, 0) := by
    rw [← hx, ByteArray.data_append, Array.toList_append]
    exact lexL_app hl (by rw [dlen]; exact hs)
  have h3 := impl_lex x w fr1 fr2 t1 t2 (by omega) hg0 hg1
  rw [h2] at h3
  rw [hx]
  exact h3
end Go.Proofs.YtjgiohhfhncepaaDoor
