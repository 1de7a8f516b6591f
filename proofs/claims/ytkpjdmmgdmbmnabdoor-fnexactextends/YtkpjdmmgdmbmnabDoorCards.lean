/-
  DERIVED. GIVEN WITH THE SEED: THE CARDS: each row of YtkpjdmmgdmbmnabDoorRows.lean that lists a variable, with what it lists TIED to the program's text (the seventh form; the later family's looks); each row that meets fmt, with fmt's text TOLD by the authors' own Lean function (tested against real Go, not proved from fmt's source: count such statements apart). THE CARD IS WHAT COUNTS. Prove the row's statement (the work); the ties are given (YtkpjdmmgdmbmnabDoorTie.lean); close each card by the builder's one call (the guide's Derived/Test/ToyasCard.lean, 'card_holds'). Laid BY PROGRAM, IN A SANDBOX (cutbox-door.mjs). By AI agents, Wed Nov 11 2026. No macro, syntax, notation, axiom, sorry.
-/
import Derived.Test.YtkpjdmmgdmbmnabDoorRows
import GoSem.ClaimSeven
namespace Go.Proofs.YtkpjdmmgdmbmnabDoor
namespace Rows

/-- THE TIED CARD OF 'laws.FnExactExtends'. -/
def fnExactExtendsCard : Claim7 := { stood := { row := fnExactExtendsRow, standIns := [], harness := (true, "8c6ac64a95162a5d5634cb178d86e7dad55c1085b4a72fd17bd4957e8d07bcc5"), looks := false }, kinds := [], alts := [], laidByText := true, laidKinds := [.data], laidTests := true, laidLooks := .later }
def FnExactExtendsCardSaid : Prop := Claim7.holds Tryd.pinned (.plain (OpenSpec.ofChange fnExactExtendsSpec)) fnExactExtendsCard

/-- THE SECOND FORM's CARD OF 'laws.FnExactExtends'. -/
def fnExactExtendsUptoCard : Claim7 := { stood := { row := fnExactExtendsUptoRow, standIns := [], harness := (true, "8c6ac64a95162a5d5634cb178d86e7dad55c1085b4a72fd17bd4957e8d07bcc5"), looks := false }, kinds := [], alts := [], laidByText := true, laidKinds := [.data], laidTests := true, laidLooks := .later }
def FnExactExtendsUptoCardSaid : Prop := Claim7.holds Tryd.pinned (.plain (OpenSpec.upto fnExactExtendsSpec)) fnExactExtendsUptoCard
end Rows
end Go.Proofs.YtkpjdmmgdmbmnabDoor
