/- An event in a box of its own. -/
import Derived.Test.YtljlaopjimkcmaaMem
namespace Go.Proofs.Ytljlaopjimkcmaa
open Go.RowKit

end Go.Proofs.Ytljlaopjimkcmaa
