
import Derived.Test.YtnnhdfplbhdcaacWalkM
namespace Go.Proofs.Ytnnhdfplbhdcaac
open Go.RowKit Go.Maps
set_option linter.unusedVariables false
set_option linter.unusedSimpArgs false

theorem atCont_some {fu : Int} {ok : Bool} {o : Option (ByteArray × Int)} {x : ByteArray × Int} (h : atCode fu ok o = 0) (hx : o = some x) : atCont fu ok o = x := by
  unfold atCont
  rw [if_pos h, hx]
  rfl

end Go.Proofs.Ytnnhdfplbhdcaac
