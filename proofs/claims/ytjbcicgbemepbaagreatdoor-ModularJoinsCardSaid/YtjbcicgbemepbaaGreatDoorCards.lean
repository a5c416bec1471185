/-
  DERIVED. GIVEN WITH THE SEED: THE CARDS: each row of YtjbcicgbemepbaaGreatDoorRows.lean that lists a variable, with what it lists TIED to the program's text (the seventh form; the later family's looks); each row that meets fmt, with fmt's text TOLD by the authors' own Lean function (tested against real Go, not proved from fmt's source: count such statements apart). THE CARD IS WHAT COUNTS. Prove the row's statement (the work); the ties are given (YtjbcicgbemepbaaGreatDoorTie.lean); close each card by the builder's one call (the guide's Derived/Test/ToyasCard.lean, 'card_holds'). Laid BY PROGRAM, IN A SANDBOX (cutbox-door.mjs). By AI agents, Wed Nov 11 2026. No macro, syntax, notation, axiom, sorry.
-/
import Derived.Test.YtjbcicgbemepbaaGreatDoorRows
import GoSem.ClaimSeven
namespace Go.Proofs.YtjbcicgbemepbaaGreatDoor
namespace Rows

/-- THE TIED CARD OF 'dominolaw03.ModularAdds'. -/
def modularAddsCard : Claim7 := { stood := { row := modularAddsRow, standIns := [], harness := (true, "ce1f5c9dd6ff591e05a9992cdbb398dafe845997f09da34952ea523502596842"), looks := false }, kinds := [], alts := [], laidByText := true, laidKinds := [.data, .pinned], laidTests := true, laidLooks := .later }
def ModularAddsCardSaid : Prop := Claim7.holds Tryz.pinned (.plain (OpenSpec.ofChange modularAddsSpec)) modularAddsCard

/-- THE TIED CARD OF 'dominolaw03.ModularRaises'. -/
def modularRaisesCard : Claim7 := { stood := { row := modularRaisesRow, standIns := [], harness := (true, "ce1f5c9dd6ff591e05a9992cdbb398dafe845997f09da34952ea523502596842"), looks := false }, kinds := [], alts := [], laidByText := true, laidKinds := [.data, .pinned], laidTests := true, laidLooks := .later }
def ModularRaisesCardSaid : Prop := Claim7.holds Tryz.pinned (.plain (OpenSpec.ofChange modularRaisesSpec)) modularRaisesCard

/-- THE TIED CARD OF 'dominolaw03.ModularInverts'. -/
def modularInvertsCard : Claim7 := { stood := { row := modularInvertsRow, standIns := [], harness := (true, "ce1f5c9dd6ff591e05a9992cdbb398dafe845997f09da34952ea523502596842"), looks := false }, kinds := [], alts := [], laidByText := true, laidKinds := [.data, .pinned], laidTests := true, laidLooks := .later }
def ModularInvertsCardSaid : Prop := Claim7.holds Tryz.pinned (.plain (OpenSpec.ofChange modularInvertsSpec)) modularInvertsCard

/-- THE TIED CARD OF 'dominolaw03.ModularJoins'. -/
def modularJoinsCard : Claim7 := { stood := { row := modularJoinsRow, standIns := [], harness := (true, "ce1f5c9dd6ff591e05a9992cdbb398dafe845997f09da34952ea523502596842"), looks := false }, kinds := [], alts := [], laidByText := true, laidKinds := [.data, .pinned], laidTests := true, laidLooks := .later }
def ModularJoinsCardSaid : Prop := Claim7.holds Tryz.pinned (.plain (OpenSpec.ofChange modularJoinsSpec)) modularJoinsCard

/-- THE TIED CARD OF 'dominolaw03.ModularJacobis'. -/
def modularJacobisCard : Claim7 := { stood := { row := modularJacobisRow, standIns := [], harness := (true, "ce1f5c9dd6ff591e05a9992cdbb398dafe845997f09da34952ea523502596842"), looks := false }, kinds := [], alts := [], laidByText := true, laidKinds := [.data, .pinned], laidTests := true, laidLooks := .later }
def ModularJacobisCardSaid : Prop := Claim7.holds Tryz.pinned (.plain (OpenSpec.ofChange modularJacobisSpec)) modularJacobisCard

/-- THE TIED CARD OF 'dominolaw03.ModularRing'. -/
def modularRingCard : Claim7 := { stood := { row := modularRingRow, standIns := [], harness := (true, "ce1f5c9dd6ff591e05a9992cdbb398dafe845997f09da34952ea523502596842"), looks := false }, kinds := [], alts := [], laidByText := true, laidKinds := [.data, .pinned], laidTests := true, laidLooks := .later }
def ModularRingCardSaid : Prop := Claim7.holds Tryz.pinned (.plain (OpenSpec.ofChange modularRingSpec)) modularRingCard

/-- THE TIED CARD OF 'dominolaw03.ModularExponents'. -/
def modularExponentsCard : Claim7 := { stood := { row := modularExponentsRow, standIns := [], harness := (true, "ce1f5c9dd6ff591e05a9992cdbb398dafe845997f09da34952ea523502596842"), looks := false }, kinds := [], alts := [], laidByText := true, laidKinds := [.data, .pinned], laidTests := true, laidLooks := .later }
def ModularExponentsCardSaid : Prop := Claim7.holds Tryz.pinned (.plain (OpenSpec.ofChange modularExponentsSpec)) modularExponentsCard

/-- THE SECOND FORM's CARD OF 'dominolaw03.ModularAdds'. -/
def modularAddsUptoCard : Claim7 := { stood := { row := modularAddsUptoRow, standIns := [], harness := (true, "ce1f5c9dd6ff591e05a9992cdbb398dafe845997f09da34952ea523502596842"), looks := false }, kinds := [], alts := [], laidByText := true, laidKinds := [.data, .pinned], laidTests := true, laidLooks := .later }
def ModularAddsUptoCardSaid : Prop := Claim7.holds Tryz.pinned (.plain (OpenSpec.upto modularAddsSpec)) modularAddsUptoCard

/-- THE SECOND FORM's CARD OF 'dominolaw03.ModularRaises'. -/
def modularRaisesUptoCard : Claim7 := { stood := { row := modularRaisesUptoRow, standIns := [], harness := (true, "ce1f5c9dd6ff591e05a9992cdbb398dafe845997f09da34952ea523502596842"), looks := false }, kinds := [], alts := [], laidByText := true, laidKinds := [.data, .pinned], laidTests := true, laidLooks := .later }
def ModularRaisesUptoCardSaid : Prop := Claim7.holds Tryz.pinned (.plain (OpenSpec.upto modularRaisesSpec)) modularRaisesUptoCard

/-- THE SECOND FORM's CARD OF 'dominolaw03.ModularInverts'. -/
def modularInvertsUptoCard : Claim7 := { stood := { row := modularInvertsUptoRow, standIns := [], harness := (true, "ce1f5c9dd6ff591e05a9992cdbb398dafe845997f09da34952ea523502596842"), looks := false }, kinds := [], alts := [], laidByText := true, laidKinds := [.data, .pinned], laidTests := true, laidLooks := .later }
def ModularInvertsUptoCardSaid : Prop := Claim7.holds Tryz.pinned (.plain (OpenSpec.upto modularInvertsSpec)) modularInvertsUptoCard

/-- THE SECOND FORM's CARD OF 'dominolaw03.ModularJoins'. -/
def modularJoinsUptoCard : Claim7 := { stood := { row := modularJoinsUptoRow, standIns := [], harness := (true, "ce1f5c9dd6ff591e05a9992cdbb398dafe845997f09da34952ea523502596842"), looks := false }, kinds := [], alts := [], laidByText := true, laidKinds := [.data, .pinned], laidTests := true, laidLooks := .later }
def ModularJoinsUptoCardSaid : Prop := Claim7.holds Tryz.pinned (.plain (OpenSpec.upto modularJoinsSpec)) modularJoinsUptoCard

/-- THE SECOND FORM's CARD OF 'dominolaw03.ModularJacobis'. -/
def modularJacobisUptoCard : Claim7 := { stood := { row := modularJacobisUptoRow, standIns := [], harness := (true, "ce1f5c9dd6ff591e05a9992cdbb398dafe845997f09da34952ea523502596842"), looks := false }, kinds := [], alts := [], laidByText := true, laidKinds := [.data, .pinned], laidTests := true, laidLooks := .later }
def ModularJacobisUptoCardSaid : Prop := Claim7.holds Tryz.pinned (.plain (OpenSpec.upto modularJacobisSpec)) modularJacobisUptoCard

/-- THE SECOND FORM's CARD OF 'dominolaw03.ModularRing'. -/
def modularRingUptoCard : Claim7 := { stood := { row := modularRingUptoRow, standIns := [], harness := (true, "ce1f5c9dd6ff591e05a9992cdbb398dafe845997f09da34952ea523502596842"), looks := false }, kinds := [], alts := [], laidByText := true, laidKinds := [.data, .pinned], laidTests := true, laidLooks := .later }
def ModularRingUptoCardSaid : Prop := Claim7.holds Tryz.pinned (.plain (OpenSpec.upto modularRingSpec)) modularRingUptoCard

/-- THE SECOND FORM's CARD OF 'dominolaw03.ModularExponents'. -/
def modularExponentsUptoCard : Claim7 := { stood := { row := modularExponentsUptoRow, standIns := [], harness := (true, "ce1f5c9dd6ff591e05a9992cdbb398dafe845997f09da34952ea523502596842"), looks := false }, kinds := [], alts := [], laidByText := true, laidKinds := [.data, .pinned], laidTests := true, laidLooks := .later }
def ModularExponentsUptoCardSaid : Prop := Claim7.holds Tryz.pinned (.plain (OpenSpec.upto modularExponentsSpec)) modularExponentsUptoCard
end Rows
end Go.Proofs.YtjbcicgbemepbaaGreatDoor
