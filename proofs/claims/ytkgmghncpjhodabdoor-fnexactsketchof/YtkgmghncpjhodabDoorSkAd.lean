import Derived.Test.YtkgmghncpjhodabDoorLeIa
import Derived.Test.YtkgmghncpjhodabDoorOwnInts
import Derived.Test.YtkgmghncpjhodabDoorRgB
namespace Go.Proofs.YtkgmghncpjhodabDoor
/-! In a seat without the law's words on sketches: what the sketches' texts import. -/
end Go.Proofs.YtkgmghncpjhodabDoor
