
import Derived.Test.YtnnhdfplbhdcaacWalkP
namespace Go.Proofs.Ytnnhdfplbhdcaac
open Go.RowKit Go.Maps
set_option linter.unusedVariables false
set_option linter.unusedSimpArgs false

/-- The zero directory. -/
abbrev fsZ : Value := .agg #[.slice none 0 0, .int .i64 0, .int .i64 0]
abbrev fsV (a : Option Addr) (n cap : Nat) (q fu : Int) : Value := .agg #[.slice a n cap, .int .i64 q, .int .i64 fu]

end Go.Proofs.Ytnnhdfplbhdcaac
