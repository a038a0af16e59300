/- Lists of numbers, in a seat of programs: what stands in the other texts. -/
import Derived.Test.YtdkdimklacblaahEqT
import Derived.Test.YtdkdimklacblaahIntsG
import Derived.Laws.MakeOwn
import Derived.Laws.Rows
import Derived.Deep.Slices
namespace Go.Proofs.Ytdkdimklacblaah
end Go.Proofs.Ytdkdimklacblaah
