/-
  DERIVED. GIVEN WITH THE SEED: THE CARDS: each row of YteehgicnfageiaaDoorRows.lean that lists a variable, with what it lists TIED to the program's text (the seventh form; the later family's looks); each row that meets fmt, with fmt's text TOLD by the authors' own Lean function (tested against real Go, not proved from fmt's source: count such statements apart). THE CARD IS WHAT COUNTS. Prove the row's statement (the work); the ties are given (YteehgicnfageiaaDoorTie.lean); close each card by the builder's one call (the guide's Derived/Test/ToyasCard.lean, 'card_holds'). Laid BY PROGRAM, IN A SANDBOX (cutbox-door.mjs). By AI agents, Wed Nov 11 2026. No macro, syntax, notation, axiom, sorry.
-/
import Derived.Test.YteehgicnfageiaaDoorRows
import GoSem.ClaimSeven
namespace Go.Proofs.YteehgicnfageiaaDoor
namespace Rows

/-- THE TIED CARD OF 'laws.FnCard'. -/
def fnCardCard : Claim7 := { stood := { row := fnCardRow, standIns := [], harness := (true, "0e55bb6ebb5422e3762aa44f501390785871871c207a1054ad04aff3bec317e2"), looks := false }, kinds := [], alts := [], laidByText := true, laidKinds := [.data], laidTests := true, laidLooks := .later }
def FnCardCardSaid : Prop := Claim7.holds Tryd.pinned (.plain (OpenSpec.ofChange fnCardSpec)) fnCardCard

/-- THE TIED CARD OF 'laws.FnChannel'. -/
def fnChannelCard : Claim7 := { stood := { row := fnChannelRow, standIns := [], harness := (true, "0e55bb6ebb5422e3762aa44f501390785871871c207a1054ad04aff3bec317e2"), looks := false }, kinds := [], alts := [], goes := true, laidByText := true, laidKinds := [.data], laidTests := true, laidLooks := .later }
def FnChannelCardSaid : Prop := Claim7.holds Tryd.pinned (.plain (OpenSpec.ofChange fnChannelSpec)) fnChannelCard

/-- THE TIED CARD OF 'laws.FnExactChannelNew'. -/
def fnExactChannelNewCard : Claim7 := { stood := { row := fnExactChannelNewRow, standIns := [], harness := (true, "0e55bb6ebb5422e3762aa44f501390785871871c207a1054ad04aff3bec317e2"), looks := false }, kinds := [], alts := [], laidByText := true, laidKinds := [.data], laidTests := true, laidLooks := .later }
def FnExactChannelNewCardSaid : Prop := Claim7.holds Tryd.pinned (.plain (OpenSpec.ofChange fnExactChannelNewSpec)) fnExactChannelNewCard

/-- THE TIED CARD OF 'laws.FnExactChannelSay'. -/
def fnExactChannelSayCard : Claim7 := { stood := { row := fnExactChannelSayRow, standIns := [], harness := (true, "0e55bb6ebb5422e3762aa44f501390785871871c207a1054ad04aff3bec317e2"), looks := false }, kinds := [], alts := [], goes := true, laidByText := true, laidKinds := [.data], laidTests := true, laidLooks := .later }
def FnExactChannelSayCardSaid : Prop := Claim7.holds Tryd.pinned (.plain (OpenSpec.ofChange fnExactChannelSaySpec)) fnExactChannelSayCard

/-- THE TIED CARD OF 'laws.FnExactChannelHear'. -/
def fnExactChannelHearCard : Claim7 := { stood := { row := fnExactChannelHearRow, standIns := [], harness := (true, "0e55bb6ebb5422e3762aa44f501390785871871c207a1054ad04aff3bec317e2"), looks := false }, kinds := [], alts := [], goes := true, laidByText := true, laidKinds := [.data], laidTests := true, laidLooks := .later }
def FnExactChannelHearCardSaid : Prop := Claim7.holds Tryd.pinned (.plain (OpenSpec.ofChange fnExactChannelHearSpec)) fnExactChannelHearCard

/-- THE SECOND FORM's CARD OF 'laws.FnCard'. -/
def fnCardUptoCard : Claim7 := { stood := { row := fnCardUptoRow, standIns := [], harness := (true, "0e55bb6ebb5422e3762aa44f501390785871871c207a1054ad04aff3bec317e2"), looks := false }, kinds := [], alts := [], laidByText := true, laidKinds := [.data], laidTests := true, laidLooks := .later }
def FnCardUptoCardSaid : Prop := Claim7.holds Tryd.pinned (.plain (OpenSpec.upto fnCardSpec)) fnCardUptoCard

/-- THE SECOND FORM's CARD OF 'laws.FnChannel'. -/
def fnChannelUptoCard : Claim7 := { stood := { row := fnChannelUptoRow, standIns := [], harness := (true, "0e55bb6ebb5422e3762aa44f501390785871871c207a1054ad04aff3bec317e2"), looks := false }, kinds := [], alts := [], goes := true, laidByText := true, laidKinds := [.data], laidTests := true, laidLooks := .later }
def FnChannelUptoCardSaid : Prop := Claim7.holds Tryd.pinned (.plain (OpenSpec.upto fnChannelSpec)) fnChannelUptoCard

/-- THE SECOND FORM's CARD OF 'laws.FnExactChannelNew'. -/
def fnExactChannelNewUptoCard : Claim7 := { stood := { row := fnExactChannelNewUptoRow, standIns := [], harness := (true, "0e55bb6ebb5422e3762aa44f501390785871871c207a1054ad04aff3bec317e2"), looks := false }, kinds := [], alts := [], laidByText := true, laidKinds := [.data], laidTests := true, laidLooks := .later }
def FnExactChannelNewUptoCardSaid : Prop := Claim7.holds Tryd.pinned (.plain (OpenSpec.upto fnExactChannelNewSpec)) fnExactChannelNewUptoCard

/-- THE SECOND FORM's CARD OF 'laws.FnExactChannelSay'. -/
def fnExactChannelSayUptoCard : Claim7 := { stood := { row := fnExactChannelSayUptoRow, standIns := [], harness := (true, "0e55bb6ebb5422e3762aa44f501390785871871c207a1054ad04aff3bec317e2"), looks := false }, kinds := [], alts := [], goes := true, laidByText := true, laidKinds := [.data], laidTests := true, laidLooks := .later }
def FnExactChannelSayUptoCardSaid : Prop := Claim7.holds Tryd.pinned (.plain (OpenSpec.upto fnExactChannelSaySpec)) fnExactChannelSayUptoCard

/-- THE SECOND FORM's CARD OF 'laws.FnExactChannelHear'. -/
def fnExactChannelHearUptoCard : Claim7 := { stood := { row := fnExactChannelHearUptoRow, standIns := [], harness := (true, "0e55bb6ebb5422e3762aa44f501390785871871c207a1054ad04aff3bec317e2"), looks := false }, kinds := [], alts := [], goes := true, laidByText := true, laidKinds := [.data], laidTests := true, laidLooks := .later }
def FnExactChannelHearUptoCardSaid : Prop := Claim7.holds Tryd.pinned (.plain (OpenSpec.upto fnExactChannelHearSpec)) fnExactChannelHearUptoCard
end Rows
end Go.Proofs.YteehgicnfageiaaDoor
