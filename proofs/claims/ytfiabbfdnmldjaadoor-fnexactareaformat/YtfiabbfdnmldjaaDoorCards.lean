/-
  DERIVED. GIVEN WITH THE SEED: THE CARDS: each row of YtfiabbfdnmldjaaDoorRows.lean that lists a variable, with what it lists TIED to the program's text (the seventh form; the later family's looks); each row that meets fmt, with fmt's text TOLD by the authors' own Lean function (tested against real Go, not proved from fmt's source: count such statements apart). THE CARD IS WHAT COUNTS. Prove the row's statement (the work); the ties are given (YtfiabbfdnmldjaaDoorTie.lean); close each card by the builder's one call (the guide's Derived/Test/ToyasCard.lean, 'card_holds'). Laid BY PROGRAM, IN A SANDBOX (cutbox-door.mjs). By AI agents, Wed Nov 11 2026. No macro, syntax, notation, axiom, sorry.
-/
import Derived.Test.YtfiabbfdnmldjaaDoorRows
import GoSem.ClaimSeven
namespace Go.Proofs.YtfiabbfdnmldjaaDoor
namespace Rows

/-- THE TIED CARD OF 'laws.FnExactAreaFormat'. -/
def fnExactAreaFormatCard : Claim7 := { stood := { row := fnExactAreaFormatRow, standIns := [], harness := (true, "ae42043f5ceedc212dd52eaf3b3cd90384e58ffb9525c3d50624733609e0aa72"), looks := true }, kinds := [], alts := [], laidByText := true, laidKinds := [.handle, .sentinel, .sentinel, .sentinel, .sentinel], laidTests := true, laidLooks := .later }
def FnExactAreaFormatCardSaid : Prop := Claim7.holds Tryd.pinned (.plain (OpenSpec.ofChange fnExactAreaFormatSpec)) fnExactAreaFormatCard

/-- THE TIED CARD OF 'laws.FnExactAreaRead'. -/
def fnExactAreaReadCard : Claim7 := { stood := { row := fnExactAreaReadRow, standIns := [], harness := (true, "ae42043f5ceedc212dd52eaf3b3cd90384e58ffb9525c3d50624733609e0aa72"), looks := true }, kinds := [], alts := [], laidByText := true, laidKinds := [.handle, .sentinel, .sentinel, .sentinel, .sentinel], laidTests := true, laidLooks := .later }
def FnExactAreaReadCardSaid : Prop := Claim7.holds Tryd.pinned (.plain (OpenSpec.ofChange fnExactAreaReadSpec)) fnExactAreaReadCard

/-- THE SECOND FORM's CARD OF 'laws.FnExactAreaFormat'. -/
def fnExactAreaFormatUptoCard : Claim7 := { stood := { row := fnExactAreaFormatUptoRow, standIns := [], harness := (true, "ae42043f5ceedc212dd52eaf3b3cd90384e58ffb9525c3d50624733609e0aa72"), looks := true }, kinds := [], alts := [], laidByText := true, laidKinds := [.handle, .sentinel, .sentinel, .sentinel, .sentinel], laidTests := true, laidLooks := .later }
def FnExactAreaFormatUptoCardSaid : Prop := Claim7.holds Tryd.pinned (.plain (OpenSpec.upto fnExactAreaFormatSpec)) fnExactAreaFormatUptoCard

/-- THE SECOND FORM's CARD OF 'laws.FnExactAreaRead'. -/
def fnExactAreaReadUptoCard : Claim7 := { stood := { row := fnExactAreaReadUptoRow, standIns := [], harness := (true, "ae42043f5ceedc212dd52eaf3b3cd90384e58ffb9525c3d50624733609e0aa72"), looks := true }, kinds := [], alts := [], laidByText := true, laidKinds := [.handle, .sentinel, .sentinel, .sentinel, .sentinel], laidTests := true, laidLooks := .later }
def FnExactAreaReadUptoCardSaid : Prop := Claim7.holds Tryd.pinned (.plain (OpenSpec.upto fnExactAreaReadSpec)) fnExactAreaReadUptoCard
end Rows
end Go.Proofs.YtfiabbfdnmldjaaDoor
