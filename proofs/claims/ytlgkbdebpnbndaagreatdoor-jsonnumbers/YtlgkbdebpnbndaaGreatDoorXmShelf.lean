/- The same contracts. -/
import Derived.Test.YtlgkbdebpnbndaaGreatDoorShelf
