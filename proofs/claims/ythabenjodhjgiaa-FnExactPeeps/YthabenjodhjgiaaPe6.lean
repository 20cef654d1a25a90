/- Both sides of PeepAt, Peeps and PeepedAll. -/
import Derived.Test.YthabenjodhjgiaaPe3
import Derived.Test.YthabenjodhjgiaaPe5
