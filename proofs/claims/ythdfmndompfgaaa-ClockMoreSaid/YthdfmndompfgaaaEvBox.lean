/- An event in a box of its own. -/
import Derived.Test.YthdfmndompfgaaaMem
namespace Go.Proofs.Ythdfmndompfgaaa
open Go.RowKit

end Go.Proofs.Ythdfmndompfgaaa
