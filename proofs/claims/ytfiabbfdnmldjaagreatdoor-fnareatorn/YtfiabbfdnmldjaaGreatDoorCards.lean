/-
  DERIVED. GIVEN WITH THE SEED: THE CARDS: each row of YtfiabbfdnmldjaaGreatDoorRows.lean that lists a variable, with what it lists TIED to the program's text (the seventh form; the later family's looks); each row that meets fmt, with fmt's text TOLD by the authors' own Lean function (tested against real Go, not proved from fmt's source: count such statements apart). THE CARD IS WHAT COUNTS. Prove the row's statement (the work); the ties are given (YtfiabbfdnmldjaaGreatDoorTie.lean); close each card by the builder's one call (the guide's Derived/Test/ToyasCard.lean, 'card_holds'). Laid BY PROGRAM, IN A SANDBOX (cutbox-door.mjs). By AI agents, Wed Nov 11 2026. No macro, syntax, notation, axiom, sorry.
-/
import Derived.Test.YtfiabbfdnmldjaaGreatDoorRows
import GoSem.ClaimSeven
namespace Go.Proofs.YtfiabbfdnmldjaaGreatDoor
namespace Rows

/-- THE TIED CARD OF 'laws.FnArea'. -/
def fnAreaCard : Claim7 := { stood := { row := fnAreaRow, standIns := [], harness := (true, "1b261f6c3476e6f314d6d9795166e25fa28147ff2fc33796e2a72afdc886e6b5"), looks := true }, kinds := [], alts := [], laidByText := true, laidKinds := [.handle, .sentinel, .sentinel, .sentinel, .sentinel], laidTests := true, laidLooks := .later }
def FnAreaCardSaid : Prop := Claim7.holds Tryz.pinned (.plain (OpenSpec.ofChange fnAreaSpec)) fnAreaCard

/-- THE TIED CARD OF 'laws.FnAreaTorn'. -/
def fnAreaTornCard : Claim7 := { stood := { row := fnAreaTornRow, standIns := [], harness := (true, "1b261f6c3476e6f314d6d9795166e25fa28147ff2fc33796e2a72afdc886e6b5"), looks := true }, kinds := [], alts := [], laidByText := true, laidKinds := [.handle, .sentinel, .sentinel, .sentinel, .sentinel], laidTests := true, laidLooks := .later }
def FnAreaTornCardSaid : Prop := Claim7.holds Tryz.pinned (.plain (OpenSpec.ofChange fnAreaTornSpec)) fnAreaTornCard

/-- THE TIED CARD OF 'laws.FnExactAreaPut'. -/
def fnExactAreaPutCard : Claim7 := { stood := { row := fnExactAreaPutRow, standIns := [], harness := (true, "1b261f6c3476e6f314d6d9795166e25fa28147ff2fc33796e2a72afdc886e6b5"), looks := true }, kinds := [], alts := [], laidByText := true, laidKinds := [.handle, .sentinel, .sentinel, .sentinel, .sentinel], laidTests := true, laidLooks := .later }
def FnExactAreaPutCardSaid : Prop := Claim7.holds Tryz.pinned (.plain (OpenSpec.ofChange fnExactAreaPutSpec)) fnExactAreaPutCard

/-- THE SECOND FORM's CARD OF 'laws.FnArea'. -/
def fnAreaUptoCard : Claim7 := { stood := { row := fnAreaUptoRow, standIns := [], harness := (true, "1b261f6c3476e6f314d6d9795166e25fa28147ff2fc33796e2a72afdc886e6b5"), looks := true }, kinds := [], alts := [], laidByText := true, laidKinds := [.handle, .sentinel, .sentinel, .sentinel, .sentinel], laidTests := true, laidLooks := .later }
def FnAreaUptoCardSaid : Prop := Claim7.holds Tryz.pinned (.plain (OpenSpec.upto fnAreaSpec)) fnAreaUptoCard

/-- THE SECOND FORM's CARD OF 'laws.FnAreaTorn'. -/
def fnAreaTornUptoCard : Claim7 := { stood := { row := fnAreaTornUptoRow, standIns := [], harness := (true, "1b261f6c3476e6f314d6d9795166e25fa28147ff2fc33796e2a72afdc886e6b5"), looks := true }, kinds := [], alts := [], laidByText := true, laidKinds := [.handle, .sentinel, .sentinel, .sentinel, .sentinel], laidTests := true, laidLooks := .later }
def FnAreaTornUptoCardSaid : Prop := Claim7.holds Tryz.pinned (.plain (OpenSpec.upto fnAreaTornSpec)) fnAreaTornUptoCard

/-- THE SECOND FORM's CARD OF 'laws.FnExactAreaPut'. -/
def fnExactAreaPutUptoCard : Claim7 := { stood := { row := fnExactAreaPutUptoRow, standIns := [], harness := (true, "1b261f6c3476e6f314d6d9795166e25fa28147ff2fc33796e2a72afdc886e6b5"), looks := true }, kinds := [], alts := [], laidByText := true, laidKinds := [.handle, .sentinel, .sentinel, .sentinel, .sentinel], laidTests := true, laidLooks := .later }
def FnExactAreaPutUptoCardSaid : Prop := Claim7.holds Tryz.pinned (.plain (OpenSpec.upto fnExactAreaPutSpec)) fnExactAreaPutUptoCard
end Rows
end Go.Proofs.YtfiabbfdnmldjaaGreatDoor
