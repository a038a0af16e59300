/- Both Peeps, as the law asks for them. -/
import Derived.Test.YtfoelnblnfcaiaaPkJ
import Derived.Test.YtfoelnblnfcaiaaPsA
namespace Go.Proofs.Ytfoelnblnfcaiaa
open Go.ChangeShapes Go.WideShapes Go.ChangeAt Go.RowKit
theorem peep_wf {m : Img} {W : World} {A : Nat} {x : Array Value} (h : ImgIs W A x m) (hn : m.sz ≤ 1048576) : (peepP m).wf ∧ ∀ y ∈ (peepP m).code, y.wf := by
  obtain ⟨_, _, _, _, _, hw, _, hb⟩ := h
  exact peepP_wf hw (wrd_wf hb) (by unfold Img.sz slSz at hn; omega)
theorem peep_so (m R : Img) (W : World) (A : Nat) (x : Array Value) (h : ImgIs W A x m) (hn : m.sz ≤ 1048576) (GO : ImOk 9 m) (hR : peepP m = R) :
    Calls Try.prog 13 #[.agg x] W fun en w' => ∃ v', en = .returned (.agg v') ∧ ImgIs w' W.heap.size v' R ∧ Below W.heap.size W w' := by
  subst hR
  exact (spec_peep m W A x h hn GO).mono fun en w' k => k.is (peep_wf h hn).1 (peep_wf h hn).2
theorem peep_io (m R : Img) (W : World) (A : Nat) (x : Array Value) (h : ImgIs W A x m) (hn : m.sz ≤ 1048576) (GO : ImOk 11 m) (hR : peepP m = R) :
    Calls Try.prog 14 #[.agg x] W fun en w' => ∃ v' S C, en = .returned (.agg v') ∧ ImgIs w' W.heap.size v' R ∧ MOwn w' v' S C ∧ (∀ c ∈ imL S C, W.heap.size ≤ c.1 ∧ c.1 < w'.heap.size) ∧ (imL S C).length ≤ 50000000 ∧ Below W.heap.size W w' := by
  subst hR
  have hl := peepP_len m
  have h1 : m.sizes.length ≤ 1048576 := by unfold Img.sz slSz at hn; omega
  have h2 : m.code.length ≤ 1048576 := by unfold Img.sz slSz at hn; omega
  exact (impl_peep m W A x h hn GO).mono fun en w' k => k.own (peep_wf h hn).1 (peep_wf h hn).2 (by omega)
end Go.Proofs.Ytfoelnblnfcaiaa
