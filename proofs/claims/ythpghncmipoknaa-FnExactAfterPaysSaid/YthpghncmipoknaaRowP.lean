/- What the frame tells of slices of payments and of ints that came in. -/
import Derived.Test.YthpghncmipoknaaPayE
import Derived.Test.YthpghncmipoknaaRow
