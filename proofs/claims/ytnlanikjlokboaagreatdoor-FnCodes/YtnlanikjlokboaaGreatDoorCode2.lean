/- Rows of steps beside what is shown and read. -/
import Derived.Test.YtnlanikjlokboaaGreatDoorCode0
import Derived.Test.YtnlanikjlokboaaGreatDoorLRead
import Derived.Test.YtnlanikjlokboaaGreatDoorRow1
namespace Go.Proofs.YtnlanikjlokboaaGreatDoor
end Go.Proofs.YtnlanikjlokboaaGreatDoor
