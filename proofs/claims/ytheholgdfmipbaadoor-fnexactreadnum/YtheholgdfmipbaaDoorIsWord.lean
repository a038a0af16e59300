/- The contracts of l01Has and of both IsWord: each answers whether the text is one of the eleven words. -/
import Derived.Test.YtheholgdfmipbaaDoorHas
namespace Go.Proofs.YtheholgdfmipbaaDoor
open Go.ChangeShapes Go.WideShapes Go.ChangeAt Go.RowKit

end Go.Proofs.YtheholgdfmipbaaDoor
