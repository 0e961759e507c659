import Derived.Test.YtnnhkanjneecjaaFrW
import Derived.Deep.RegionHeld3
