/-
  DERIVED. GIVEN WITH THE SEED: THE CARDS: each row of YthmlkbgnooahlaaDoorRows.lean that lists a variable, with what it lists TIED to the program's text (the seventh form; the later family's looks); each row that meets fmt, with fmt's text TOLD by the authors' own Lean function (tested against real Go, not proved from fmt's source: count such statements apart). THE CARD IS WHAT COUNTS. Prove the row's statement (the work); the ties are given (YthmlkbgnooahlaaDoorTie.lean); close each card by the builder's one call (the guide's Derived/Test/ToyasCard.lean, 'card_holds'). Laid BY PROGRAM, IN A SANDBOX (cutbox-door.mjs). By AI agents, Wed Nov 11 2026. No macro, syntax, notation, axiom, sorry.
-/
import Derived.Test.YthmlkbgnooahlaaDoorRows
import GoSem.ClaimSeven
namespace Go.Proofs.YthmlkbgnooahlaaDoor
namespace Rows

/-- THE TIED CARD OF 'laws.FnSign'. -/
def fnSignCard : Claim7 := { stood := { row := fnSignRow, standIns := [], harness := (true, "385b18ec99d88858af4853713a6330a363b7fc7f402f631defb220356820f0ad"), looks := false }, kinds := [], alts := [], laidByText := true, laidKinds := [.data], laidTests := true, laidLooks := .later }
def FnSignCardSaid : Prop := Claim7.holds Tryd.pinned (.plain (OpenSpec.ofChange fnSignSpec)) fnSignCard

/-- THE TIED CARD OF 'laws.FnExactHashTo'. -/
def fnExactHashToCard : Claim7 := { stood := { row := fnExactHashToRow, standIns := [], harness := (true, "385b18ec99d88858af4853713a6330a363b7fc7f402f631defb220356820f0ad"), looks := false }, kinds := [], alts := [], laidByText := true, laidKinds := [.data], laidTests := true, laidLooks := .later }
def FnExactHashToCardSaid : Prop := Claim7.holds Tryd.pinned (.plain (OpenSpec.ofChange fnExactHashToSpec)) fnExactHashToCard

/-- THE TIED CARD OF 'laws.FnExactSignBy'. -/
def fnExactSignByCard : Claim7 := { stood := { row := fnExactSignByRow, standIns := [], harness := (true, "385b18ec99d88858af4853713a6330a363b7fc7f402f631defb220356820f0ad"), looks := false }, kinds := [], alts := [], laidByText := true, laidKinds := [.data], laidTests := true, laidLooks := .later }
def FnExactSignByCardSaid : Prop := Claim7.holds Tryd.pinned (.plain (OpenSpec.ofChange fnExactSignBySpec)) fnExactSignByCard

/-- THE SECOND FORM's CARD OF 'laws.FnSign'. -/
def fnSignUptoCard : Claim7 := { stood := { row := fnSignUptoRow, standIns := [], harness := (true, "385b18ec99d88858af4853713a6330a363b7fc7f402f631defb220356820f0ad"), looks := false }, kinds := [], alts := [], laidByText := true, laidKinds := [.data], laidTests := true, laidLooks := .later }
def FnSignUptoCardSaid : Prop := Claim7.holds Tryd.pinned (.plain (OpenSpec.upto fnSignSpec)) fnSignUptoCard

/-- THE SECOND FORM's CARD OF 'laws.FnExactHashTo'. -/
def fnExactHashToUptoCard : Claim7 := { stood := { row := fnExactHashToUptoRow, standIns := [], harness := (true, "385b18ec99d88858af4853713a6330a363b7fc7f402f631defb220356820f0ad"), looks := false }, kinds := [], alts := [], laidByText := true, laidKinds := [.data], laidTests := true, laidLooks := .later }
def FnExactHashToUptoCardSaid : Prop := Claim7.holds Tryd.pinned (.plain (OpenSpec.upto fnExactHashToSpec)) fnExactHashToUptoCard

/-- THE SECOND FORM's CARD OF 'laws.FnExactSignBy'. -/
def fnExactSignByUptoCard : Claim7 := { stood := { row := fnExactSignByUptoRow, standIns := [], harness := (true, "385b18ec99d88858af4853713a6330a363b7fc7f402f631defb220356820f0ad"), looks := false }, kinds := [], alts := [], laidByText := true, laidKinds := [.data], laidTests := true, laidLooks := .later }
def FnExactSignByUptoCardSaid : Prop := Claim7.holds Tryd.pinned (.plain (OpenSpec.upto fnExactSignBySpec)) fnExactSignByUptoCard
end Rows
end Go.Proofs.YthmlkbgnooahlaaDoor
