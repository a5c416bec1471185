/-
  DERIVED. GIVEN WITH THE SEED: THE CARDS: each row of YtjbcicgbemepbaaDoorRows.lean that lists a variable, with what it lists TIED to the program's text (the seventh form; the later family's looks); each row that meets fmt, with fmt's text TOLD by the authors' own Lean function (tested against real Go, not proved from fmt's source: count such statements apart). THE CARD IS WHAT COUNTS. Prove the row's statement (the work); the ties are given (YtjbcicgbemepbaaDoorTie.lean); close each card by the builder's one call (the guide's Derived/Test/ToyasCard.lean, 'card_holds'). Laid BY PROGRAM, IN A SANDBOX (cutbox-door.mjs). By AI agents, Wed Nov 11 2026. No macro, syntax, notation, axiom, sorry.
-/
import Derived.Test.YtjbcicgbemepbaaDoorRows
import GoSem.ClaimSeven
namespace Go.Proofs.YtjbcicgbemepbaaDoor
namespace Rows

/-- THE TIED CARD OF 'dominolaw03.ModularRemainders'. -/
def modularRemaindersCard : Claim7 := { stood := { row := modularRemaindersRow, standIns := [], harness := (true, "0a480dcd56ca83facab3005f154219b59d9570aeeb406f10899f418686a726ec"), looks := false }, kinds := [], alts := [], laidByText := true, laidKinds := [.data, .pinned], laidTests := true, laidLooks := .later }
def ModularRemaindersCardSaid : Prop := Claim7.holds Tryd.pinned (.plain (OpenSpec.ofChange modularRemaindersSpec)) modularRemaindersCard

/-- THE TIED CARD OF 'dominolaw03.ModularSymbols'. -/
def modularSymbolsCard : Claim7 := { stood := { row := modularSymbolsRow, standIns := [], harness := (true, "0a480dcd56ca83facab3005f154219b59d9570aeeb406f10899f418686a726ec"), looks := false }, kinds := [], alts := [], laidByText := true, laidKinds := [.data, .pinned], laidTests := true, laidLooks := .later }
def ModularSymbolsCardSaid : Prop := Claim7.holds Tryd.pinned (.plain (OpenSpec.ofChange modularSymbolsSpec)) modularSymbolsCard

/-- THE SECOND FORM's CARD OF 'dominolaw03.ModularRemainders'. -/
def modularRemaindersUptoCard : Claim7 := { stood := { row := modularRemaindersUptoRow, standIns := [], harness := (true, "0a480dcd56ca83facab3005f154219b59d9570aeeb406f10899f418686a726ec"), looks := false }, kinds := [], alts := [], laidByText := true, laidKinds := [.data, .pinned], laidTests := true, laidLooks := .later }
def ModularRemaindersUptoCardSaid : Prop := Claim7.holds Tryd.pinned (.plain (OpenSpec.upto modularRemaindersSpec)) modularRemaindersUptoCard

/-- THE SECOND FORM's CARD OF 'dominolaw03.ModularSymbols'. -/
def modularSymbolsUptoCard : Claim7 := { stood := { row := modularSymbolsUptoRow, standIns := [], harness := (true, "0a480dcd56ca83facab3005f154219b59d9570aeeb406f10899f418686a726ec"), looks := false }, kinds := [], alts := [], laidByText := true, laidKinds := [.data, .pinned], laidTests := true, laidLooks := .later }
def ModularSymbolsUptoCardSaid : Prop := Claim7.holds Tryd.pinned (.plain (OpenSpec.upto modularSymbolsSpec)) modularSymbolsUptoCard
end Rows
end Go.Proofs.YtjbcicgbemepbaaDoor
