/- What the frame tells of slices of payments and of ints that came in. -/
import Derived.Test.YtbedjebnllimpaaPayE
import Derived.Test.YtbedjebnllimpaaRow
