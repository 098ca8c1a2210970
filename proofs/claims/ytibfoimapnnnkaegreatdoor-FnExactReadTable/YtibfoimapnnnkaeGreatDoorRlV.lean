import Derived.Test.YtibfoimapnnnkaeGreatDoorRlS

namespace Go.Proofs.YtibfoimapnnnkaeGreatDoor
open Go.RowKit Go.Maps
set_option linter.unusedVariables false
set_option linter.unusedSimpArgs false

end Go.Proofs.YtibfoimapnnnkaeGreatDoor
