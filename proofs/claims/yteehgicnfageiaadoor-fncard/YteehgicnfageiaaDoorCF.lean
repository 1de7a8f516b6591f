/-
  The code that the program takes out of an error: 0 without any, else the fault's own.
-/
import Derived.Test.YteehgicnfageiaaDoorCA
import Derived.Handy
namespace Go.Proofs.YteehgicnfageiaaDoor.CF
open Go.RowKit
open Go.Proofs.YteehgicnfageiaaDoor.C0

/-- An error of the program's own, of code c. -/
def fault (c : Int) : Value := .iface 149 (.agg #[.int .i64 c])

end Go.Proofs.YteehgicnfageiaaDoor.CF
