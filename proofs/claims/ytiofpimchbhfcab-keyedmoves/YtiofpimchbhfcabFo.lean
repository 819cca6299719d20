/- Two lists of records that are the same. -/
import Derived.Test.YtiofpimchbhfcabFn
namespace Go.Proofs.Ytiofpimchbhfcab
open Go.RowKit

end Go.Proofs.Ytiofpimchbhfcab
