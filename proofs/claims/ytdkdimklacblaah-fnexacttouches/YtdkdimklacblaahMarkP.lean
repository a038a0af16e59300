/- Plain: the texts that the laws' marks write. -/
import Derived.Test.YtdkdimklacblaahPlain
import Derived.Test.YtdkdimklacblaahDecPlain
namespace Go.Proofs.Ytdkdimklacblaah
def markS (k : Nat) : ByteArray := ⟨(109 :: dd k).toArray⟩
theorem digit_app (d : Nat) (l : List UInt8) : ((⟨#[48 + UInt8.ofNat d]⟩ : ByteArray) ++ ⟨l.toArray⟩ : ByteArray) = ⟨(UInt8.ofNat (48 + d) :: l).toArray⟩ := by
  have e : (48 : UInt8) + UInt8.ofNat d = UInt8.ofNat (48 + d) := by rw [UInt8.ofNat_add]; rfl
  rw [e]; apply ByteArray.ext; apply Array.ext'; rw [ByteArray.data_append, Array.toList_append]; simp
theorem mark_app (l : List UInt8) : ((⟨#[109]⟩ : ByteArray) ++ ⟨l.toArray⟩ : ByteArray) = ⟨(109 :: l).toArray⟩ := by
  apply ByteArray.ext; apply Array.ext'; rw [ByteArray.data_append, Array.toList_append]; simp
end Go.Proofs.Ytdkdimklacblaah
