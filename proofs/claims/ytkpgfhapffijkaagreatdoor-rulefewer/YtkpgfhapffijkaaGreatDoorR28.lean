/- The walks of dayshiftref05's Not and of dayshiftlaw05's days and same. -/
import Derived.Test.YtkpgfhapffijkaaGreatDoorR27
import Derived.Deep.RegionHeld3
import Derived.Deep.RegionLaw
/- The walk of MaskNots. -/

/- The walks of dayshiftref05.Days and of dayshiftlaw05.same. -/

/- The walk of MaskMakes. -/
