/-
  DERIVED. GIVEN WITH THE SEED: THE CARDS: each row of YtehbbghobagkjaaGreatDoorRows.lean that lists a variable, with what it lists TIED to the program's text (the seventh form; the later family's looks); each row that meets fmt, with fmt's text TOLD by the authors' own Lean function (tested against real Go, not proved from fmt's source: count such statements apart). THE CARD IS WHAT COUNTS. Prove the row's statement (the work); the ties are given (YtehbbghobagkjaaGreatDoorTie.lean); close each card by the builder's one call (the guide's Derived/Test/ToyasCard.lean, 'card_holds'). Laid BY PROGRAM, IN A SANDBOX (cutbox-door.mjs). By AI agents, Wed Nov 11 2026. No macro, syntax, notation, axiom, sorry.
-/
import Derived.Test.YtehbbghobagkjaaGreatDoorRows
import GoSem.ClaimSeven
namespace Go.Proofs.YtehbbghobagkjaaGreatDoor
namespace Rows

/-- THE TIED CARD OF 'dominolaw06.CoinsDraws'. -/
def coinsDrawsCard : Claim7 := { stood := { row := coinsDrawsRow, standIns := [], harness := (true, "770b6864c28f83f8c4738cb2c6279353025afaa8749c047c38a6ce15caa09ffc"), looks := false }, kinds := [], alts := [], laidByText := true, laidKinds := [.data, .data, .data, .data, .pinned], laidTests := true, laidLooks := .later }
def CoinsDrawsCardSaid : Prop := Claim7.holds Tryz.pinned (.plain (OpenSpec.ofChange coinsDrawsSpec)) coinsDrawsCard

/-- THE TIED CARD OF 'dominolaw06.CoinsSigned'. -/
def coinsSignedCard : Claim7 := { stood := { row := coinsSignedRow, standIns := [], harness := (true, "770b6864c28f83f8c4738cb2c6279353025afaa8749c047c38a6ce15caa09ffc"), looks := false }, kinds := [], alts := [], laidByText := true, laidKinds := [.data, .data, .data, .data, .pinned], laidTests := true, laidLooks := .later }
def CoinsSignedCardSaid : Prop := Claim7.holds Tryz.pinned (.plain (OpenSpec.ofChange coinsSignedSpec)) coinsSignedCard

/-- THE TIED CARD OF 'dominolaw06.CoinsMany'. -/
def coinsManyCard : Claim7 := { stood := { row := coinsManyRow, standIns := [], harness := (true, "770b6864c28f83f8c4738cb2c6279353025afaa8749c047c38a6ce15caa09ffc"), looks := false }, kinds := [], alts := [], laidByText := true, laidKinds := [.data, .data, .data, .data, .pinned], laidTests := true, laidLooks := .later }
def CoinsManyCardSaid : Prop := Claim7.holds Tryz.pinned (.plain (OpenSpec.ofChange coinsManySpec)) coinsManyCard

/-- THE SECOND FORM's CARD OF 'dominolaw06.CoinsDraws'. -/
def coinsDrawsUptoCard : Claim7 := { stood := { row := coinsDrawsUptoRow, standIns := [], harness := (true, "770b6864c28f83f8c4738cb2c6279353025afaa8749c047c38a6ce15caa09ffc"), looks := false }, kinds := [], alts := [], laidByText := true, laidKinds := [.data, .data, .data, .data, .pinned], laidTests := true, laidLooks := .later }
def CoinsDrawsUptoCardSaid : Prop := Claim7.holds Tryz.pinned (.plain (OpenSpec.upto coinsDrawsSpec)) coinsDrawsUptoCard

/-- THE SECOND FORM's CARD OF 'dominolaw06.CoinsSigned'. -/
def coinsSignedUptoCard : Claim7 := { stood := { row := coinsSignedUptoRow, standIns := [], harness := (true, "770b6864c28f83f8c4738cb2c6279353025afaa8749c047c38a6ce15caa09ffc"), looks := false }, kinds := [], alts := [], laidByText := true, laidKinds := [.data, .data, .data, .data, .pinned], laidTests := true, laidLooks := .later }
def CoinsSignedUptoCardSaid : Prop := Claim7.holds Tryz.pinned (.plain (OpenSpec.upto coinsSignedSpec)) coinsSignedUptoCard

/-- THE SECOND FORM's CARD OF 'dominolaw06.CoinsMany'. -/
def coinsManyUptoCard : Claim7 := { stood := { row := coinsManyUptoRow, standIns := [], harness := (true, "770b6864c28f83f8c4738cb2c6279353025afaa8749c047c38a6ce15caa09ffc"), looks := false }, kinds := [], alts := [], laidByText := true, laidKinds := [.data, .data, .data, .data, .pinned], laidTests := true, laidLooks := .later }
def CoinsManyUptoCardSaid : Prop := Claim7.holds Tryz.pinned (.plain (OpenSpec.upto coinsManySpec)) coinsManyUptoCard
end Rows
end Go.Proofs.YtehbbghobagkjaaGreatDoor
