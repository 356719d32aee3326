/- What the laws' walks rest upon, part 34. -/
import Derived.Test.YtnnfkmjhaljplaaM33
import Derived.Test.YtnnfkmjhaljplaaM28

