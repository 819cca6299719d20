/- Two lists of records that are the same. -/
import Derived.Test.YtbppiiomjmpjkabGreatDoorFn
namespace Go.Proofs.YtbppiiomjmpjkabGreatDoor
open Go.RowKit

end Go.Proofs.YtbppiiomjmpjkabGreatDoor
