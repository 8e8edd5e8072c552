/- The laws' helpers and the source of choices, together. -/
import Derived.Test.YtfnccbanmgfkeabDoorArg
import Derived.Test.YtfnccbanmgfkeabDoorPick
