/-
  What errors.As answers at the program's own fault type: nothing of no error; the fault itself, set where it is asked for.
-/
import Derived.Test.YteehgicnfageiaaDoorQB
import Derived.LaidEql
import Derived.Stop.Asserts
import Derived.RowKitTokens
namespace Go.Proofs.YteehgicnfageiaaDoor.CA
open Go.RowKit Go.Extern.Stop Go.Stop Go.Extern
end Go.Proofs.YteehgicnfageiaaDoor.CA
