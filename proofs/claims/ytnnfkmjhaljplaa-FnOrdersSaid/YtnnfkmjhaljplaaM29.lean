/- What the laws' walks rest upon, part 29. -/
import Derived.Test.YtnnfkmjhaljplaaM23
import Derived.Test.YtnnfkmjhaljplaaM28

