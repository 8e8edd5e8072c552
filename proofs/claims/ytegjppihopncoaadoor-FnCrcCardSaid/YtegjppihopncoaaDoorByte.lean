/- The laws' helpers and the source of choices, together. -/
import Derived.Test.YtegjppihopncoaaDoorArg
import Derived.Test.YtegjppihopncoaaDoorPick
