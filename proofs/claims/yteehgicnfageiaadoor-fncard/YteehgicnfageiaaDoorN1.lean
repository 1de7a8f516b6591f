/-
  The laws' own measure and copies of cards.
-/
import Derived.Test.YteehgicnfageiaaDoorN0
import Derived.Test.YteehgicnfageiaaDoorSI
namespace Go.Proofs.YteehgicnfageiaaDoor.N1
open Go.RowKit
open Go.Proofs.YteehgicnfageiaaDoor.C0 Go.Proofs.YteehgicnfageiaaDoor.HB Go.Proofs.YteehgicnfageiaaDoor.SI
open Go.Proofs.YteehgicnfageiaaDoor.N0 (Cd cdV cardB)

end Go.Proofs.YteehgicnfageiaaDoor.N1
