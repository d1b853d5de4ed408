/- The program's functions, and memory of one's own. -/
import Derived.Test.YtlodgbpjeklhpaaAwk
import Derived.Test.YtlodgbpjeklhpaaRat
