/- What the law's measure gives of an image. -/
import Derived.Test.YtfoelnblnfcaiaaImageD
namespace Go.Proofs.Ytfoelnblnfcaiaa
theorem code_sz {m : Img} {n : Nat} (h : m.sz ≤ n) : m.code.length ≤ n := by unfold Img.sz slSz at h; omega
theorem sizes_sz {m : Img} {n : Nat} (h : m.sz ≤ n) : m.sizes.length ≤ n := by unfold Img.sz slSz at h; omega
end Go.Proofs.Ytfoelnblnfcaiaa
