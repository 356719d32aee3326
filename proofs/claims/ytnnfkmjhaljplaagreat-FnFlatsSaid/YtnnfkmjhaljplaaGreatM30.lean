/- What the laws' walks rest upon, part 30. -/
import Derived.Test.YtnnfkmjhaljplaaGreatM01
import Derived.Test.YtnnfkmjhaljplaaGreatM05

