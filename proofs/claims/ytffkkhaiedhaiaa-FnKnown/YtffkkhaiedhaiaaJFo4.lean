/- Contracts: what comes out of three steps; a copy of three steps; the program's Folded. -/
import Derived.Test.YtffkkhaiedhaiaaJKm0
import Derived.Lib.QuietBelow
import Derived.BigQuiet
import Derived.Deep.RegionLaw
import Derived.Deep.Cut
import Derived.Deep.RegionHeld3
namespace Go.Proofs.Ytffkkhaiedhaiaa
namespace Pg
open Go.ChangeShapes Go.WideShapes Go.ChangeAt Go.RowKit St Wd

end Pg
end Go.Proofs.Ytffkkhaiedhaiaa

/- Contracts: the program's Folded. -/
namespace Go.Proofs.Ytffkkhaiedhaiaa
namespace Pg
open Go.ChangeShapes Go.WideShapes Go.ChangeAt Go.RowKit St Wd

end Pg
end Go.Proofs.Ytffkkhaiedhaiaa

/- Contracts: the specification's Folded. -/
namespace Go.Proofs.Ytffkkhaiedhaiaa
namespace Pg
open Go.ChangeShapes Go.WideShapes Go.ChangeAt Go.RowKit St Wd

end Pg
end Go.Proofs.Ytffkkhaiedhaiaa
