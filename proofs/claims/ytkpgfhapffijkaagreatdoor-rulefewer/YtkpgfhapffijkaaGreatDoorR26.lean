/- The walk of math/bits.Len32. -/
import Derived.Test.YtkpgfhapffijkaaGreatDoorR24

