/-
  DERIVED. GIVEN WITH THE SEED: THE CARDS: each row of YtehbbghobagkjaaDoorRows.lean that lists a variable, with what it lists TIED to the program's text (the seventh form; the later family's looks); each row that meets fmt, with fmt's text TOLD by the authors' own Lean function (tested against real Go, not proved from fmt's source: count such statements apart). THE CARD IS WHAT COUNTS. Prove the row's statement (the work); the ties are given (YtehbbghobagkjaaDoorTie.lean); close each card by the builder's one call (the guide's Derived/Test/ToyasCard.lean, 'card_holds'). Laid BY PROGRAM, IN A SANDBOX (cutbox-door.mjs). By AI agents, Wed Nov 11 2026. No macro, syntax, notation, axiom, sorry.
-/
import Derived.Test.YtehbbghobagkjaaDoorRows
import GoSem.ClaimSeven
namespace Go.Proofs.YtehbbghobagkjaaDoor
namespace Rows

/-- THE TIED CARD OF 'dominolaw06.CoinsMakes'. -/
def coinsMakesCard : Claim7 := { stood := { row := coinsMakesRow, standIns := [], harness := (true, "83ae63e5d8ce7d6245d78a4df46a2a9b5326573400c3f03b64e306a0cc8a2f81"), looks := false }, kinds := [], alts := [], laidByText := true, laidKinds := [.data, .data, .data, .data, .pinned], laidTests := true, laidLooks := .later }
def CoinsMakesCardSaid : Prop := Claim7.holds Tryd.pinned (.plain (OpenSpec.ofChange coinsMakesSpec)) coinsMakesCard

/-- THE TIED CARD OF 'dominolaw06.CoinsExplicit'. -/
def coinsExplicitCard : Claim7 := { stood := { row := coinsExplicitRow, standIns := [], harness := (true, "83ae63e5d8ce7d6245d78a4df46a2a9b5326573400c3f03b64e306a0cc8a2f81"), looks := false }, kinds := [], alts := [], laidByText := true, laidKinds := [.data, .data, .data, .data, .pinned], laidTests := true, laidLooks := .later }
def CoinsExplicitCardSaid : Prop := Claim7.holds Tryd.pinned (.plain (OpenSpec.ofChange coinsExplicitSpec)) coinsExplicitCard

/-- THE TIED CARD OF 'dominolaw06.CoinsRepeat'. -/
def coinsRepeatCard : Claim7 := { stood := { row := coinsRepeatRow, standIns := [], harness := (true, "83ae63e5d8ce7d6245d78a4df46a2a9b5326573400c3f03b64e306a0cc8a2f81"), looks := false }, kinds := [], alts := [], laidByText := true, laidKinds := [.data, .data, .data, .data, .pinned], laidTests := true, laidLooks := .later }
def CoinsRepeatCardSaid : Prop := Claim7.holds Tryd.pinned (.plain (OpenSpec.ofChange coinsRepeatSpec)) coinsRepeatCard

/-- THE TIED CARD OF 'dominolaw06.CoinsSpread'. -/
def coinsSpreadCard : Claim7 := { stood := { row := coinsSpreadRow, standIns := [], harness := (true, "83ae63e5d8ce7d6245d78a4df46a2a9b5326573400c3f03b64e306a0cc8a2f81"), looks := false }, kinds := [], alts := [], laidByText := true, laidKinds := [.data, .data, .data, .data, .pinned], laidTests := true, laidLooks := .later }
def CoinsSpreadCardSaid : Prop := Claim7.holds Tryd.pinned (.plain (OpenSpec.ofChange coinsSpreadSpec)) coinsSpreadCard

/-- THE TIED CARD OF 'dominolaw06.CoinsSeeds'. -/
def coinsSeedsCard : Claim7 := { stood := { row := coinsSeedsRow, standIns := [], harness := (true, "83ae63e5d8ce7d6245d78a4df46a2a9b5326573400c3f03b64e306a0cc8a2f81"), looks := false }, kinds := [], alts := [], laidByText := true, laidKinds := [.data, .data, .data, .data, .pinned], laidTests := true, laidLooks := .later }
def CoinsSeedsCardSaid : Prop := Claim7.holds Tryd.pinned (.plain (OpenSpec.ofChange coinsSeedsSpec)) coinsSeedsCard

/-- THE SECOND FORM's CARD OF 'dominolaw06.CoinsMakes'. -/
def coinsMakesUptoCard : Claim7 := { stood := { row := coinsMakesUptoRow, standIns := [], harness := (true, "83ae63e5d8ce7d6245d78a4df46a2a9b5326573400c3f03b64e306a0cc8a2f81"), looks := false }, kinds := [], alts := [], laidByText := true, laidKinds := [.data, .data, .data, .data, .pinned], laidTests := true, laidLooks := .later }
def CoinsMakesUptoCardSaid : Prop := Claim7.holds Tryd.pinned (.plain (OpenSpec.upto coinsMakesSpec)) coinsMakesUptoCard

/-- THE SECOND FORM's CARD OF 'dominolaw06.CoinsExplicit'. -/
def coinsExplicitUptoCard : Claim7 := { stood := { row := coinsExplicitUptoRow, standIns := [], harness := (true, "83ae63e5d8ce7d6245d78a4df46a2a9b5326573400c3f03b64e306a0cc8a2f81"), looks := false }, kinds := [], alts := [], laidByText := true, laidKinds := [.data, .data, .data, .data, .pinned], laidTests := true, laidLooks := .later }
def CoinsExplicitUptoCardSaid : Prop := Claim7.holds Tryd.pinned (.plain (OpenSpec.upto coinsExplicitSpec)) coinsExplicitUptoCard

/-- THE SECOND FORM's CARD OF 'dominolaw06.CoinsRepeat'. -/
def coinsRepeatUptoCard : Claim7 := { stood := { row := coinsRepeatUptoRow, standIns := [], harness := (true, "83ae63e5d8ce7d6245d78a4df46a2a9b5326573400c3f03b64e306a0cc8a2f81"), looks := false }, kinds := [], alts := [], laidByText := true, laidKinds := [.data, .data, .data, .data, .pinned], laidTests := true, laidLooks := .later }
def CoinsRepeatUptoCardSaid : Prop := Claim7.holds Tryd.pinned (.plain (OpenSpec.upto coinsRepeatSpec)) coinsRepeatUptoCard

/-- THE SECOND FORM's CARD OF 'dominolaw06.CoinsSpread'. -/
def coinsSpreadUptoCard : Claim7 := { stood := { row := coinsSpreadUptoRow, standIns := [], harness := (true, "83ae63e5d8ce7d6245d78a4df46a2a9b5326573400c3f03b64e306a0cc8a2f81"), looks := false }, kinds := [], alts := [], laidByText := true, laidKinds := [.data, .data, .data, .data, .pinned], laidTests := true, laidLooks := .later }
def CoinsSpreadUptoCardSaid : Prop := Claim7.holds Tryd.pinned (.plain (OpenSpec.upto coinsSpreadSpec)) coinsSpreadUptoCard

/-- THE SECOND FORM's CARD OF 'dominolaw06.CoinsSeeds'. -/
def coinsSeedsUptoCard : Claim7 := { stood := { row := coinsSeedsUptoRow, standIns := [], harness := (true, "83ae63e5d8ce7d6245d78a4df46a2a9b5326573400c3f03b64e306a0cc8a2f81"), looks := false }, kinds := [], alts := [], laidByText := true, laidKinds := [.data, .data, .data, .data, .pinned], laidTests := true, laidLooks := .later }
def CoinsSeedsUptoCardSaid : Prop := Claim7.holds Tryd.pinned (.plain (OpenSpec.upto coinsSeedsSpec)) coinsSeedsUptoCard
end Rows
end Go.Proofs.YtehbbghobagkjaaDoor
