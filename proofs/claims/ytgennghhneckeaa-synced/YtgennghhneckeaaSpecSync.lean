import Derived.Test.YtgennghhneckeaaWkI

namespace Go.Proofs.Ytgennghhneckeaa
open Go.RowKit Go.Maps
set_option linter.unusedVariables false
set_option linter.unusedSimpArgs false

/-- The file that a sync leaves under a name. -/
def syF (xs : List Fl) (s : ByteArray) : Fl := ⟨s, ((fm xs s.data.toList).getD (ByteArray.empty, 0)).1, ((fm xs s.data.toList).getD (ByteArray.empty, 0)).1.size⟩

end Go.Proofs.Ytgennghhneckeaa
