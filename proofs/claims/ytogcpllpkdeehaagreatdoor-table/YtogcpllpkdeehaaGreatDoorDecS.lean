import Derived.Test.YtogcpllpkdeehaaGreatDoorDecX

namespace Go.Proofs.YtogcpllpkdeehaaGreatDoor
open Go.RowKit Go.Maps
set_option linter.unusedVariables false
set_option linter.unusedSimpArgs false

end Go.Proofs.YtogcpllpkdeehaaGreatDoor
