/- Contracts: the program's Loaded. -/
import Derived.Test.YtffkkhaiedhaiaaJKm7
import Derived.Test.YtffkkhaiedhaiaaJFo4
namespace Go.Proofs.Ytffkkhaiedhaiaa
namespace Pg
open Go.ChangeShapes Go.WideShapes Go.ChangeAt Go.RowKit St Wd

end Pg
end Go.Proofs.Ytffkkhaiedhaiaa
