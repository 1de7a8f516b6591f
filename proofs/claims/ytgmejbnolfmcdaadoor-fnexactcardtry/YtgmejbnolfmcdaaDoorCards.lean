/-
  DERIVED. GIVEN WITH THE SEED: THE CARDS: each row of YtgmejbnolfmcdaaDoorRows.lean that lists a variable, with what it lists TIED to the program's text (the seventh form; the later family's looks); each row that meets fmt, with fmt's text TOLD by the authors' own Lean function (tested against real Go, not proved from fmt's source: count such statements apart). THE CARD IS WHAT COUNTS. Prove the row's statement (the work); the ties are given (YtgmejbnolfmcdaaDoorTie.lean); close each card by the builder's one call (the guide's Derived/Test/ToyasCard.lean, 'card_holds'). Laid BY PROGRAM, IN A SANDBOX (cutbox-door.mjs). By AI agents, Wed Nov 11 2026. No macro, syntax, notation, axiom, sorry.
-/
import Derived.Test.YtgmejbnolfmcdaaDoorRows
import GoSem.ClaimSeven
namespace Go.Proofs.YtgmejbnolfmcdaaDoor
namespace Rows

/-- THE TIED CARD OF 'laws.FnCard'. -/
def fnCardCard : Claim7 := { stood := { row := fnCardRow, standIns := [], harness := (true, "3f48e4ec67d8589d82e7917bd5abd10d8a955d72706515771a6365a04db62171"), looks := false }, kinds := [], alts := [], laidByText := true, laidKinds := [.data], laidTests := true, laidLooks := .later }
def FnCardCardSaid : Prop := Claim7.holds Tryd.pinned (.plain (OpenSpec.ofChange fnCardSpec)) fnCardCard

/-- THE TIED CARD OF 'laws.FnExactCardNew'. -/
def fnExactCardNewCard : Claim7 := { stood := { row := fnExactCardNewRow, standIns := [], harness := (true, "3f48e4ec67d8589d82e7917bd5abd10d8a955d72706515771a6365a04db62171"), looks := false }, kinds := [], alts := [], laidByText := true, laidKinds := [.data], laidTests := true, laidLooks := .later }
def FnExactCardNewCardSaid : Prop := Claim7.holds Tryd.pinned (.plain (OpenSpec.ofChange fnExactCardNewSpec)) fnExactCardNewCard

/-- THE TIED CARD OF 'laws.FnExactCardTry'. -/
def fnExactCardTryCard : Claim7 := { stood := { row := fnExactCardTryRow, standIns := [], harness := (true, "3f48e4ec67d8589d82e7917bd5abd10d8a955d72706515771a6365a04db62171"), looks := false }, kinds := [], alts := [], laidByText := true, laidKinds := [.data], laidTests := true, laidLooks := .later }
def FnExactCardTryCardSaid : Prop := Claim7.holds Tryd.pinned (.plain (OpenSpec.ofChange fnExactCardTrySpec)) fnExactCardTryCard

/-- THE TIED CARD OF 'laws.FnExactCardPin'. -/
def fnExactCardPinCard : Claim7 := { stood := { row := fnExactCardPinRow, standIns := [], harness := (true, "3f48e4ec67d8589d82e7917bd5abd10d8a955d72706515771a6365a04db62171"), looks := false }, kinds := [], alts := [], laidByText := true, laidKinds := [.data], laidTests := true, laidLooks := .later }
def FnExactCardPinCardSaid : Prop := Claim7.holds Tryd.pinned (.plain (OpenSpec.ofChange fnExactCardPinSpec)) fnExactCardPinCard

/-- THE SECOND FORM's CARD OF 'laws.FnCard'. -/
def fnCardUptoCard : Claim7 := { stood := { row := fnCardUptoRow, standIns := [], harness := (true, "3f48e4ec67d8589d82e7917bd5abd10d8a955d72706515771a6365a04db62171"), looks := false }, kinds := [], alts := [], laidByText := true, laidKinds := [.data], laidTests := true, laidLooks := .later }
def FnCardUptoCardSaid : Prop := Claim7.holds Tryd.pinned (.plain (OpenSpec.upto fnCardSpec)) fnCardUptoCard

/-- THE SECOND FORM's CARD OF 'laws.FnExactCardNew'. -/
def fnExactCardNewUptoCard : Claim7 := { stood := { row := fnExactCardNewUptoRow, standIns := [], harness := (true, "3f48e4ec67d8589d82e7917bd5abd10d8a955d72706515771a6365a04db62171"), looks := false }, kinds := [], alts := [], laidByText := true, laidKinds := [.data], laidTests := true, laidLooks := .later }
def FnExactCardNewUptoCardSaid : Prop := Claim7.holds Tryd.pinned (.plain (OpenSpec.upto fnExactCardNewSpec)) fnExactCardNewUptoCard

/-- THE SECOND FORM's CARD OF 'laws.FnExactCardTry'. -/
def fnExactCardTryUptoCard : Claim7 := { stood := { row := fnExactCardTryUptoRow, standIns := [], harness := (true, "3f48e4ec67d8589d82e7917bd5abd10d8a955d72706515771a6365a04db62171"), looks := false }, kinds := [], alts := [], laidByText := true, laidKinds := [.data], laidTests := true, laidLooks := .later }
def FnExactCardTryUptoCardSaid : Prop := Claim7.holds Tryd.pinned (.plain (OpenSpec.upto fnExactCardTrySpec)) fnExactCardTryUptoCard

/-- THE SECOND FORM's CARD OF 'laws.FnExactCardPin'. -/
def fnExactCardPinUptoCard : Claim7 := { stood := { row := fnExactCardPinUptoRow, standIns := [], harness := (true, "3f48e4ec67d8589d82e7917bd5abd10d8a955d72706515771a6365a04db62171"), looks := false }, kinds := [], alts := [], laidByText := true, laidKinds := [.data], laidTests := true, laidLooks := .later }
def FnExactCardPinUptoCardSaid : Prop := Claim7.holds Tryd.pinned (.plain (OpenSpec.upto fnExactCardPinSpec)) fnExactCardPinUptoCard
end Rows
end Go.Proofs.YtgmejbnolfmcdaaDoor
