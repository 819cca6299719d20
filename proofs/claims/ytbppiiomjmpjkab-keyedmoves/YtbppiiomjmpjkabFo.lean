/- Two lists of records that are the same. -/
import Derived.Test.YtbppiiomjmpjkabFn
namespace Go.Proofs.Ytbppiiomjmpjkab
open Go.RowKit

end Go.Proofs.Ytbppiiomjmpjkab
