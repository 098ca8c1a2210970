
import Derived.Test.YtfbmplecmaebbacDoorRlS
namespace Go.Proofs.YtfbmplecmaebbacDoor
open Go.RowKit Go.Maps
set_option linter.unusedVariables false
set_option linter.unusedSimpArgs false

end Go.Proofs.YtfbmplecmaebbacDoor
