/- The calls on a disk: Rename. -/
import Derived.Test.YtcmnijpcinmbbaaGreatDoorDf
import Derived.Laws.EntriesVeiled
namespace Go.Proofs.YtcmnijpcinmbbaaGreatDoor
open Go.RowKit
open Go.Maps (string_keyed)
set_option linter.unusedVariables false
section
variable {lo : Nat} {w : World} {B M : Nat} {uv : Value} {d : Ds} {n : Nat}

end
end Go.Proofs.YtcmnijpcinmbbaaGreatDoor
