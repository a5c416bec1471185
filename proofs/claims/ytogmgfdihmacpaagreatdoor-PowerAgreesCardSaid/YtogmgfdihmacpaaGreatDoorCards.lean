/-
  DERIVED. GIVEN WITH THE SEED: THE CARDS: each row of YtogmgfdihmacpaaGreatDoorRows.lean that lists a variable, with what it lists TIED to the program's text (the seventh form; the later family's looks); each row that meets fmt, with fmt's text TOLD by the authors' own Lean function (tested against real Go, not proved from fmt's source: count such statements apart). THE CARD IS WHAT COUNTS. Prove the row's statement (the work); the ties are given (YtogmgfdihmacpaaGreatDoorTie.lean); close each card by the builder's one call (the guide's Derived/Test/ToyasCard.lean, 'card_holds'). Laid BY PROGRAM, IN A SANDBOX (cutbox-door.mjs). By AI agents, Wed Nov 11 2026. No macro, syntax, notation, axiom, sorry.
-/
import Derived.Test.YtogmgfdihmacpaaGreatDoorRows
import GoSem.ClaimSeven
namespace Go.Proofs.YtogmgfdihmacpaaGreatDoor
namespace Rows

/-- THE TIED CARD OF 'dominolaw13.PowerChecks'. -/
def powerChecksCard : Claim7 := { stood := { row := powerChecksRow, standIns := [], harness := (true, "48a2d3222dea22192a58a80be55a9005bac7ac861fdd1122e3d7e77b5bbe0b57"), looks := false }, kinds := [], alts := [], laidByText := true, laidKinds := [.data, .pinned], laidTests := true, laidLooks := .later }
def PowerChecksCardSaid : Prop := Claim7.holds Tryz.pinned (.plain (OpenSpec.ofChange powerChecksSpec)) powerChecksCard

/-- THE TIED CARD OF 'dominolaw13.PowerMultiplies'. -/
def powerMultipliesCard : Claim7 := { stood := { row := powerMultipliesRow, standIns := [], harness := (true, "48a2d3222dea22192a58a80be55a9005bac7ac861fdd1122e3d7e77b5bbe0b57"), looks := false }, kinds := [], alts := [], laidByText := true, laidKinds := [.data, .pinned], laidTests := true, laidLooks := .later }
def PowerMultipliesCardSaid : Prop := Claim7.holds Tryz.pinned (.plain (OpenSpec.ofChange powerMultipliesSpec)) powerMultipliesCard

/-- THE TIED CARD OF 'dominolaw13.PowerExps'. -/
def powerExpsCard : Claim7 := { stood := { row := powerExpsRow, standIns := [], harness := (true, "48a2d3222dea22192a58a80be55a9005bac7ac861fdd1122e3d7e77b5bbe0b57"), looks := false }, kinds := [], alts := [], laidByText := true, laidKinds := [.data, .pinned], laidTests := true, laidLooks := .later }
def PowerExpsCardSaid : Prop := Claim7.holds Tryz.pinned (.plain (OpenSpec.ofChange powerExpsSpec)) powerExpsCard

/-- THE TIED CARD OF 'dominolaw13.PowerProducts'. -/
def powerProductsCard : Claim7 := { stood := { row := powerProductsRow, standIns := [], harness := (true, "48a2d3222dea22192a58a80be55a9005bac7ac861fdd1122e3d7e77b5bbe0b57"), looks := false }, kinds := [], alts := [], laidByText := true, laidKinds := [.data, .pinned], laidTests := true, laidLooks := .later }
def PowerProductsCardSaid : Prop := Claim7.holds Tryz.pinned (.plain (OpenSpec.ofChange powerProductsSpec)) powerProductsCard

/-- THE TIED CARD OF 'dominolaw13.PowerTables'. -/
def powerTablesCard : Claim7 := { stood := { row := powerTablesRow, standIns := [], harness := (true, "48a2d3222dea22192a58a80be55a9005bac7ac861fdd1122e3d7e77b5bbe0b57"), looks := false }, kinds := [], alts := [], laidByText := true, laidKinds := [.data, .pinned], laidTests := true, laidLooks := .later }
def PowerTablesCardSaid : Prop := Claim7.holds Tryz.pinned (.plain (OpenSpec.ofChange powerTablesSpec)) powerTablesCard

/-- THE TIED CARD OF 'dominolaw13.PowerAgrees'. -/
def powerAgreesCard : Claim7 := { stood := { row := powerAgreesRow, standIns := [], harness := (true, "48a2d3222dea22192a58a80be55a9005bac7ac861fdd1122e3d7e77b5bbe0b57"), looks := false }, kinds := [], alts := [], laidByText := true, laidKinds := [.data, .pinned], laidTests := true, laidLooks := .later }
def PowerAgreesCardSaid : Prop := Claim7.holds Tryz.pinned (.plain (OpenSpec.ofChange powerAgreesSpec)) powerAgreesCard

/-- THE TIED CARD OF 'dominolaw13.PowerAdds'. -/
def powerAddsCard : Claim7 := { stood := { row := powerAddsRow, standIns := [], harness := (true, "48a2d3222dea22192a58a80be55a9005bac7ac861fdd1122e3d7e77b5bbe0b57"), looks := false }, kinds := [], alts := [], laidByText := true, laidKinds := [.data, .pinned], laidTests := true, laidLooks := .later }
def PowerAddsCardSaid : Prop := Claim7.holds Tryz.pinned (.plain (OpenSpec.ofChange powerAddsSpec)) powerAddsCard

/-- THE TIED CARD OF 'dominolaw13.PowerLooks'. -/
def powerLooksCard : Claim7 := { stood := { row := powerLooksRow, standIns := [], harness := (true, "48a2d3222dea22192a58a80be55a9005bac7ac861fdd1122e3d7e77b5bbe0b57"), looks := false }, kinds := [], alts := [], laidByText := true, laidKinds := [.data, .pinned], laidTests := true, laidLooks := .later }
def PowerLooksCardSaid : Prop := Claim7.holds Tryz.pinned (.plain (OpenSpec.ofChange powerLooksSpec)) powerLooksCard

/-- THE SECOND FORM's CARD OF 'dominolaw13.PowerChecks'. -/
def powerChecksUptoCard : Claim7 := { stood := { row := powerChecksUptoRow, standIns := [], harness := (true, "48a2d3222dea22192a58a80be55a9005bac7ac861fdd1122e3d7e77b5bbe0b57"), looks := false }, kinds := [], alts := [], laidByText := true, laidKinds := [.data, .pinned], laidTests := true, laidLooks := .later }
def PowerChecksUptoCardSaid : Prop := Claim7.holds Tryz.pinned (.plain (OpenSpec.upto powerChecksSpec)) powerChecksUptoCard

/-- THE SECOND FORM's CARD OF 'dominolaw13.PowerMultiplies'. -/
def powerMultipliesUptoCard : Claim7 := { stood := { row := powerMultipliesUptoRow, standIns := [], harness := (true, "48a2d3222dea22192a58a80be55a9005bac7ac861fdd1122e3d7e77b5bbe0b57"), looks := false }, kinds := [], alts := [], laidByText := true, laidKinds := [.data, .pinned], laidTests := true, laidLooks := .later }
def PowerMultipliesUptoCardSaid : Prop := Claim7.holds Tryz.pinned (.plain (OpenSpec.upto powerMultipliesSpec)) powerMultipliesUptoCard

/-- THE SECOND FORM's CARD OF 'dominolaw13.PowerExps'. -/
def powerExpsUptoCard : Claim7 := { stood := { row := powerExpsUptoRow, standIns := [], harness := (true, "48a2d3222dea22192a58a80be55a9005bac7ac861fdd1122e3d7e77b5bbe0b57"), looks := false }, kinds := [], alts := [], laidByText := true, laidKinds := [.data, .pinned], laidTests := true, laidLooks := .later }
def PowerExpsUptoCardSaid : Prop := Claim7.holds Tryz.pinned (.plain (OpenSpec.upto powerExpsSpec)) powerExpsUptoCard

/-- THE SECOND FORM's CARD OF 'dominolaw13.PowerProducts'. -/
def powerProductsUptoCard : Claim7 := { stood := { row := powerProductsUptoRow, standIns := [], harness := (true, "48a2d3222dea22192a58a80be55a9005bac7ac861fdd1122e3d7e77b5bbe0b57"), looks := false }, kinds := [], alts := [], laidByText := true, laidKinds := [.data, .pinned], laidTests := true, laidLooks := .later }
def PowerProductsUptoCardSaid : Prop := Claim7.holds Tryz.pinned (.plain (OpenSpec.upto powerProductsSpec)) powerProductsUptoCard

/-- THE SECOND FORM's CARD OF 'dominolaw13.PowerTables'. -/
def powerTablesUptoCard : Claim7 := { stood := { row := powerTablesUptoRow, standIns := [], harness := (true, "48a2d3222dea22192a58a80be55a9005bac7ac861fdd1122e3d7e77b5bbe0b57"), looks := false }, kinds := [], alts := [], laidByText := true, laidKinds := [.data, .pinned], laidTests := true, laidLooks := .later }
def PowerTablesUptoCardSaid : Prop := Claim7.holds Tryz.pinned (.plain (OpenSpec.upto powerTablesSpec)) powerTablesUptoCard

/-- THE SECOND FORM's CARD OF 'dominolaw13.PowerAgrees'. -/
def powerAgreesUptoCard : Claim7 := { stood := { row := powerAgreesUptoRow, standIns := [], harness := (true, "48a2d3222dea22192a58a80be55a9005bac7ac861fdd1122e3d7e77b5bbe0b57"), looks := false }, kinds := [], alts := [], laidByText := true, laidKinds := [.data, .pinned], laidTests := true, laidLooks := .later }
def PowerAgreesUptoCardSaid : Prop := Claim7.holds Tryz.pinned (.plain (OpenSpec.upto powerAgreesSpec)) powerAgreesUptoCard

/-- THE SECOND FORM's CARD OF 'dominolaw13.PowerAdds'. -/
def powerAddsUptoCard : Claim7 := { stood := { row := powerAddsUptoRow, standIns := [], harness := (true, "48a2d3222dea22192a58a80be55a9005bac7ac861fdd1122e3d7e77b5bbe0b57"), looks := false }, kinds := [], alts := [], laidByText := true, laidKinds := [.data, .pinned], laidTests := true, laidLooks := .later }
def PowerAddsUptoCardSaid : Prop := Claim7.holds Tryz.pinned (.plain (OpenSpec.upto powerAddsSpec)) powerAddsUptoCard

/-- THE SECOND FORM's CARD OF 'dominolaw13.PowerLooks'. -/
def powerLooksUptoCard : Claim7 := { stood := { row := powerLooksUptoRow, standIns := [], harness := (true, "48a2d3222dea22192a58a80be55a9005bac7ac861fdd1122e3d7e77b5bbe0b57"), looks := false }, kinds := [], alts := [], laidByText := true, laidKinds := [.data, .pinned], laidTests := true, laidLooks := .later }
def PowerLooksUptoCardSaid : Prop := Claim7.holds Tryz.pinned (.plain (OpenSpec.upto powerLooksSpec)) powerLooksUptoCard
end Rows
end Go.Proofs.YtogmgfdihmacpaaGreatDoor
