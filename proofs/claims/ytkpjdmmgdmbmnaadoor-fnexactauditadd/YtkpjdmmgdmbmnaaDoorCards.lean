/-
  DERIVED. GIVEN WITH THE SEED: THE CARDS: each row of YtkpjdmmgdmbmnaaDoorRows.lean that lists a variable, with what it lists TIED to the program's text (the seventh form; the later family's looks); each row that meets fmt, with fmt's text TOLD by the authors' own Lean function (tested against real Go, not proved from fmt's source: count such statements apart). THE CARD IS WHAT COUNTS. Prove the row's statement (the work); the ties are given (YtkpjdmmgdmbmnaaDoorTie.lean); close each card by the builder's one call (the guide's Derived/Test/ToyasCard.lean, 'card_holds'). Laid BY PROGRAM, IN A SANDBOX (cutbox-door.mjs). By AI agents, Wed Nov 11 2026. No macro, syntax, notation, axiom, sorry.
-/
import Derived.Test.YtkpjdmmgdmbmnaaDoorRows
import GoSem.ClaimSeven
namespace Go.Proofs.YtkpjdmmgdmbmnaaDoor
namespace Rows

/-- THE TIED CARD OF 'laws.FnAudit'. -/
def fnAuditCard : Claim7 := { stood := { row := fnAuditRow, standIns := [], harness := (true, "7dd2b45b0cf8a4d88c9f06630b28a3d2022c60709ce98965a96ae505e4ce2120"), looks := false }, kinds := [], alts := [], laidByText := true, laidKinds := [.data], laidTests := true, laidLooks := .later }
def FnAuditCardSaid : Prop := Claim7.holds Tryd.pinned (.plain (OpenSpec.ofChange fnAuditSpec)) fnAuditCard

/-- THE TIED CARD OF 'laws.FnExactAuditRight'. -/
def fnExactAuditRightCard : Claim7 := { stood := { row := fnExactAuditRightRow, standIns := [], harness := (true, "7dd2b45b0cf8a4d88c9f06630b28a3d2022c60709ce98965a96ae505e4ce2120"), looks := false }, kinds := [], alts := [], laidByText := true, laidKinds := [.data], laidTests := true, laidLooks := .later }
def FnExactAuditRightCardSaid : Prop := Claim7.holds Tryd.pinned (.plain (OpenSpec.ofChange fnExactAuditRightSpec)) fnExactAuditRightCard

/-- THE TIED CARD OF 'laws.FnExactAuditAdd'. -/
def fnExactAuditAddCard : Claim7 := { stood := { row := fnExactAuditAddRow, standIns := [], harness := (true, "7dd2b45b0cf8a4d88c9f06630b28a3d2022c60709ce98965a96ae505e4ce2120"), looks := false }, kinds := [], alts := [], laidByText := true, laidKinds := [.data], laidTests := true, laidLooks := .later }
def FnExactAuditAddCardSaid : Prop := Claim7.holds Tryd.pinned (.plain (OpenSpec.ofChange fnExactAuditAddSpec)) fnExactAuditAddCard

/-- THE TIED CARD OF 'laws.FnExactAuditEnd'. -/
def fnExactAuditEndCard : Claim7 := { stood := { row := fnExactAuditEndRow, standIns := [], harness := (true, "7dd2b45b0cf8a4d88c9f06630b28a3d2022c60709ce98965a96ae505e4ce2120"), looks := false }, kinds := [], alts := [], laidByText := true, laidKinds := [.data], laidTests := true, laidLooks := .later }
def FnExactAuditEndCardSaid : Prop := Claim7.holds Tryd.pinned (.plain (OpenSpec.ofChange fnExactAuditEndSpec)) fnExactAuditEndCard

/-- THE SECOND FORM's CARD OF 'laws.FnAudit'. -/
def fnAuditUptoCard : Claim7 := { stood := { row := fnAuditUptoRow, standIns := [], harness := (true, "7dd2b45b0cf8a4d88c9f06630b28a3d2022c60709ce98965a96ae505e4ce2120"), looks := false }, kinds := [], alts := [], laidByText := true, laidKinds := [.data], laidTests := true, laidLooks := .later }
def FnAuditUptoCardSaid : Prop := Claim7.holds Tryd.pinned (.plain (OpenSpec.upto fnAuditSpec)) fnAuditUptoCard

/-- THE SECOND FORM's CARD OF 'laws.FnExactAuditRight'. -/
def fnExactAuditRightUptoCard : Claim7 := { stood := { row := fnExactAuditRightUptoRow, standIns := [], harness := (true, "7dd2b45b0cf8a4d88c9f06630b28a3d2022c60709ce98965a96ae505e4ce2120"), looks := false }, kinds := [], alts := [], laidByText := true, laidKinds := [.data], laidTests := true, laidLooks := .later }
def FnExactAuditRightUptoCardSaid : Prop := Claim7.holds Tryd.pinned (.plain (OpenSpec.upto fnExactAuditRightSpec)) fnExactAuditRightUptoCard

/-- THE SECOND FORM's CARD OF 'laws.FnExactAuditAdd'. -/
def fnExactAuditAddUptoCard : Claim7 := { stood := { row := fnExactAuditAddUptoRow, standIns := [], harness := (true, "7dd2b45b0cf8a4d88c9f06630b28a3d2022c60709ce98965a96ae505e4ce2120"), looks := false }, kinds := [], alts := [], laidByText := true, laidKinds := [.data], laidTests := true, laidLooks := .later }
def FnExactAuditAddUptoCardSaid : Prop := Claim7.holds Tryd.pinned (.plain (OpenSpec.upto fnExactAuditAddSpec)) fnExactAuditAddUptoCard

/-- THE SECOND FORM's CARD OF 'laws.FnExactAuditEnd'. -/
def fnExactAuditEndUptoCard : Claim7 := { stood := { row := fnExactAuditEndUptoRow, standIns := [], harness := (true, "7dd2b45b0cf8a4d88c9f06630b28a3d2022c60709ce98965a96ae505e4ce2120"), looks := false }, kinds := [], alts := [], laidByText := true, laidKinds := [.data], laidTests := true, laidLooks := .later }
def FnExactAuditEndUptoCardSaid : Prop := Claim7.holds Tryd.pinned (.plain (OpenSpec.upto fnExactAuditEndSpec)) fnExactAuditEndUptoCard
end Rows
end Go.Proofs.YtkpjdmmgdmbmnaaDoor
