/- What the program's functions answer: all together. -/
import Derived.Test.YtlodgbpjeklhpaaSame
import Derived.Test.YtlodgbpjeklhpaaPfn
import Derived.Test.YtlodgbpjeklhpaaOwn
