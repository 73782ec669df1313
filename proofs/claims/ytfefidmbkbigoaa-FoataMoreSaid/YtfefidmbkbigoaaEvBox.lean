/- An event in a box of its own. -/
import Derived.Test.YtfefidmbkbigoaaMem
namespace Go.Proofs.Ytfefidmbkbigoaa
open Go.RowKit

end Go.Proofs.Ytfefidmbkbigoaa
