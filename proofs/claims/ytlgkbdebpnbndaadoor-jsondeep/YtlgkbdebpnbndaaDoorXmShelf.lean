/- The same contracts. -/
import Derived.Test.YtlgkbdebpnbndaaDoorShelf
