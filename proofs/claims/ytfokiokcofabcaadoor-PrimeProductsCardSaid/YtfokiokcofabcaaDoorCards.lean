/-
  DERIVED. GIVEN WITH THE SEED: THE CARDS: each row of YtfokiokcofabcaaDoorRows.lean that lists a variable, with what it lists TIED to the program's text (the seventh form; the later family's looks); each row that meets fmt, with fmt's text TOLD by the authors' own Lean function (tested against real Go, not proved from fmt's source: count such statements apart). THE CARD IS WHAT COUNTS. Prove the row's statement (the work); the ties are given (YtfokiokcofabcaaDoorTie.lean); close each card by the builder's one call (the guide's Derived/Test/ToyasCard.lean, 'card_holds'). Laid BY PROGRAM, IN A SANDBOX (cutbox-door.mjs). By AI agents, Wed Nov 11 2026. No macro, syntax, notation, axiom, sorry.
-/
import Derived.Test.YtfokiokcofabcaaDoorRows
import GoSem.ClaimSeven
namespace Go.Proofs.YtfokiokcofabcaaDoor
namespace Rows

/-- THE TIED CARD OF 'dominolaw04.PrimeTests'. -/
def primeTestsCard : Claim7 := { stood := { row := primeTestsRow, standIns := [], harness := (true, "68ec745255765c5d451027809228a89ca2c33c83c748873162c90efd46987fe6"), looks := false }, kinds := [], alts := [], laidByText := true, laidKinds := [.data, .pinned], laidTests := true, laidLooks := .later }
def PrimeTestsCardSaid : Prop := Claim7.holds Tryd.pinned (.plain (OpenSpec.ofChange primeTestsSpec)) primeTestsCard

/-- THE TIED CARD OF 'dominolaw04.PrimeDivides'. -/
def primeDividesCard : Claim7 := { stood := { row := primeDividesRow, standIns := [], harness := (true, "68ec745255765c5d451027809228a89ca2c33c83c748873162c90efd46987fe6"), looks := false }, kinds := [], alts := [], laidByText := true, laidKinds := [.data, .pinned], laidTests := true, laidLooks := .later }
def PrimeDividesCardSaid : Prop := Claim7.holds Tryd.pinned (.plain (OpenSpec.ofChange primeDividesSpec)) primeDividesCard

/-- THE TIED CARD OF 'dominolaw04.PrimeStrong'. -/
def primeStrongCard : Claim7 := { stood := { row := primeStrongRow, standIns := [], harness := (true, "68ec745255765c5d451027809228a89ca2c33c83c748873162c90efd46987fe6"), looks := false }, kinds := [], alts := [], laidByText := true, laidKinds := [.data, .pinned], laidTests := true, laidLooks := .later }
def PrimeStrongCardSaid : Prop := Claim7.holds Tryd.pinned (.plain (OpenSpec.ofChange primeStrongSpec)) primeStrongCard

/-- THE TIED CARD OF 'dominolaw04.PrimeMersenne'. -/
def primeMersenneCard : Claim7 := { stood := { row := primeMersenneRow, standIns := [], harness := (true, "68ec745255765c5d451027809228a89ca2c33c83c748873162c90efd46987fe6"), looks := false }, kinds := [], alts := [], laidByText := true, laidKinds := [.data, .pinned], laidTests := true, laidLooks := .later }
def PrimeMersenneCardSaid : Prop := Claim7.holds Tryd.pinned (.plain (OpenSpec.ofChange primeMersenneSpec)) primeMersenneCard

/-- THE TIED CARD OF 'dominolaw04.PrimeNexts'. -/
def primeNextsCard : Claim7 := { stood := { row := primeNextsRow, standIns := [], harness := (true, "68ec745255765c5d451027809228a89ca2c33c83c748873162c90efd46987fe6"), looks := false }, kinds := [], alts := [], laidByText := true, laidKinds := [.data, .pinned], laidTests := true, laidLooks := .later }
def PrimeNextsCardSaid : Prop := Claim7.holds Tryd.pinned (.plain (OpenSpec.ofChange primeNextsSpec)) primeNextsCard

/-- THE TIED CARD OF 'dominolaw04.PrimeBetween'. -/
def primeBetweenCard : Claim7 := { stood := { row := primeBetweenRow, standIns := [], harness := (true, "68ec745255765c5d451027809228a89ca2c33c83c748873162c90efd46987fe6"), looks := false }, kinds := [], alts := [], laidByText := true, laidKinds := [.data, .pinned], laidTests := true, laidLooks := .later }
def PrimeBetweenCardSaid : Prop := Claim7.holds Tryd.pinned (.plain (OpenSpec.ofChange primeBetweenSpec)) primeBetweenCard

/-- THE TIED CARD OF 'dominolaw04.PrimeSafes'. -/
def primeSafesCard : Claim7 := { stood := { row := primeSafesRow, standIns := [], harness := (true, "68ec745255765c5d451027809228a89ca2c33c83c748873162c90efd46987fe6"), looks := false }, kinds := [], alts := [], laidByText := true, laidKinds := [.data, .pinned], laidTests := true, laidLooks := .later }
def PrimeSafesCardSaid : Prop := Claim7.holds Tryd.pinned (.plain (OpenSpec.ofChange primeSafesSpec)) primeSafesCard

/-- THE TIED CARD OF 'dominolaw04.PrimeFactors'. -/
def primeFactorsCard : Claim7 := { stood := { row := primeFactorsRow, standIns := [], harness := (true, "68ec745255765c5d451027809228a89ca2c33c83c748873162c90efd46987fe6"), looks := false }, kinds := [], alts := [], laidByText := true, laidKinds := [.data, .pinned], laidTests := true, laidLooks := .later }
def PrimeFactorsCardSaid : Prop := Claim7.holds Tryd.pinned (.plain (OpenSpec.ofChange primeFactorsSpec)) primeFactorsCard

/-- THE TIED CARD OF 'dominolaw04.PrimeProducts'. -/
def primeProductsCard : Claim7 := { stood := { row := primeProductsRow, standIns := [], harness := (true, "68ec745255765c5d451027809228a89ca2c33c83c748873162c90efd46987fe6"), looks := false }, kinds := [], alts := [], laidByText := true, laidKinds := [.data, .pinned], laidTests := true, laidLooks := .later }
def PrimeProductsCardSaid : Prop := Claim7.holds Tryd.pinned (.plain (OpenSpec.ofChange primeProductsSpec)) primeProductsCard

/-- THE SECOND FORM's CARD OF 'dominolaw04.PrimeTests'. -/
def primeTestsUptoCard : Claim7 := { stood := { row := primeTestsUptoRow, standIns := [], harness := (true, "68ec745255765c5d451027809228a89ca2c33c83c748873162c90efd46987fe6"), looks := false }, kinds := [], alts := [], laidByText := true, laidKinds := [.data, .pinned], laidTests := true, laidLooks := .later }
def PrimeTestsUptoCardSaid : Prop := Claim7.holds Tryd.pinned (.plain (OpenSpec.upto primeTestsSpec)) primeTestsUptoCard

/-- THE SECOND FORM's CARD OF 'dominolaw04.PrimeDivides'. -/
def primeDividesUptoCard : Claim7 := { stood := { row := primeDividesUptoRow, standIns := [], harness := (true, "68ec745255765c5d451027809228a89ca2c33c83c748873162c90efd46987fe6"), looks := false }, kinds := [], alts := [], laidByText := true, laidKinds := [.data, .pinned], laidTests := true, laidLooks := .later }
def PrimeDividesUptoCardSaid : Prop := Claim7.holds Tryd.pinned (.plain (OpenSpec.upto primeDividesSpec)) primeDividesUptoCard

/-- THE SECOND FORM's CARD OF 'dominolaw04.PrimeStrong'. -/
def primeStrongUptoCard : Claim7 := { stood := { row := primeStrongUptoRow, standIns := [], harness := (true, "68ec745255765c5d451027809228a89ca2c33c83c748873162c90efd46987fe6"), looks := false }, kinds := [], alts := [], laidByText := true, laidKinds := [.data, .pinned], laidTests := true, laidLooks := .later }
def PrimeStrongUptoCardSaid : Prop := Claim7.holds Tryd.pinned (.plain (OpenSpec.upto primeStrongSpec)) primeStrongUptoCard

/-- THE SECOND FORM's CARD OF 'dominolaw04.PrimeMersenne'. -/
def primeMersenneUptoCard : Claim7 := { stood := { row := primeMersenneUptoRow, standIns := [], harness := (true, "68ec745255765c5d451027809228a89ca2c33c83c748873162c90efd46987fe6"), looks := false }, kinds := [], alts := [], laidByText := true, laidKinds := [.data, .pinned], laidTests := true, laidLooks := .later }
def PrimeMersenneUptoCardSaid : Prop := Claim7.holds Tryd.pinned (.plain (OpenSpec.upto primeMersenneSpec)) primeMersenneUptoCard

/-- THE SECOND FORM's CARD OF 'dominolaw04.PrimeNexts'. -/
def primeNextsUptoCard : Claim7 := { stood := { row := primeNextsUptoRow, standIns := [], harness := (true, "68ec745255765c5d451027809228a89ca2c33c83c748873162c90efd46987fe6"), looks := false }, kinds := [], alts := [], laidByText := true, laidKinds := [.data, .pinned], laidTests := true, laidLooks := .later }
def PrimeNextsUptoCardSaid : Prop := Claim7.holds Tryd.pinned (.plain (OpenSpec.upto primeNextsSpec)) primeNextsUptoCard

/-- THE SECOND FORM's CARD OF 'dominolaw04.PrimeBetween'. -/
def primeBetweenUptoCard : Claim7 := { stood := { row := primeBetweenUptoRow, standIns := [], harness := (true, "68ec745255765c5d451027809228a89ca2c33c83c748873162c90efd46987fe6"), looks := false }, kinds := [], alts := [], laidByText := true, laidKinds := [.data, .pinned], laidTests := true, laidLooks := .later }
def PrimeBetweenUptoCardSaid : Prop := Claim7.holds Tryd.pinned (.plain (OpenSpec.upto primeBetweenSpec)) primeBetweenUptoCard

/-- THE SECOND FORM's CARD OF 'dominolaw04.PrimeSafes'. -/
def primeSafesUptoCard : Claim7 := { stood := { row := primeSafesUptoRow, standIns := [], harness := (true, "68ec745255765c5d451027809228a89ca2c33c83c748873162c90efd46987fe6"), looks := false }, kinds := [], alts := [], laidByText := true, laidKinds := [.data, .pinned], laidTests := true, laidLooks := .later }
def PrimeSafesUptoCardSaid : Prop := Claim7.holds Tryd.pinned (.plain (OpenSpec.upto primeSafesSpec)) primeSafesUptoCard

/-- THE SECOND FORM's CARD OF 'dominolaw04.PrimeFactors'. -/
def primeFactorsUptoCard : Claim7 := { stood := { row := primeFactorsUptoRow, standIns := [], harness := (true, "68ec745255765c5d451027809228a89ca2c33c83c748873162c90efd46987fe6"), looks := false }, kinds := [], alts := [], laidByText := true, laidKinds := [.data, .pinned], laidTests := true, laidLooks := .later }
def PrimeFactorsUptoCardSaid : Prop := Claim7.holds Tryd.pinned (.plain (OpenSpec.upto primeFactorsSpec)) primeFactorsUptoCard

/-- THE SECOND FORM's CARD OF 'dominolaw04.PrimeProducts'. -/
def primeProductsUptoCard : Claim7 := { stood := { row := primeProductsUptoRow, standIns := [], harness := (true, "68ec745255765c5d451027809228a89ca2c33c83c748873162c90efd46987fe6"), looks := false }, kinds := [], alts := [], laidByText := true, laidKinds := [.data, .pinned], laidTests := true, laidLooks := .later }
def PrimeProductsUptoCardSaid : Prop := Claim7.holds Tryd.pinned (.plain (OpenSpec.upto primeProductsSpec)) primeProductsUptoCard
end Rows
end Go.Proofs.YtfokiokcofabcaaDoor
