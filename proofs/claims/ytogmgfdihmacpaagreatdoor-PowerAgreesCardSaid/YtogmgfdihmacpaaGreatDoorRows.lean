/-
  NARROWER THAN 'FOR EVERY INPUT', by the rows' own cells (each row's printed sentence says how): PowerChecks: laid · PowerMultiplies: laid · PowerExps: laid · PowerProducts: laid · PowerTables: laid · PowerAgrees: laid · PowerAdds: laid · PowerLooks: laid.
  DERIVED. THE GIVEN ROWS OF THIS SEAT. 8 by the template 'for every input the law returns true; each argument reads behind the call as it read before'; 0 by the template 'total and deterministic' (their statements: YtogmgfdihmacpaaGreatDoorTotals.lean).
  GIVEN WITH THE SEED: the statements are not yours to turn. If you find one false, say at which input.
  Laid BY PROGRAM, IN A SANDBOX (cutbox-rows.mjs): the forced cells as the released guide's own fill.sh prints them over the translation 394b5720ef168748… (all of the seat's roots in one cut). By AI agents, Wed Nov 11 2026. No macro, syntax, notation, axiom, sorry.
-/
import Derived.Test.YtogmgfdihmacpaaGreatDoorChecked
import GoSem.PinnedTables
import GoSem.Claim
import GoSem.ClaimJoined
import GoSem.ClaimMapViews
import Derived.JoinedTies
import Derived.KernelRfl
namespace Go.Proofs.YtogmgfdihmacpaaGreatDoor
/- THE CELL 'sum', in the pinned program and in every row, IS THE sha256 OF THE DUMP (.gsa) THAT YtogmgfdihmacpaaGreatDoorProg.lean LOADS. Nothing in Lean hashes anything: it is a label: what it is worth is what the hold of that sum in a sandbox is worth. -/
noncomputable def Tryz.pinned : Pinned := { name := "ytogmgfdihmacpaagreatdoor", sum := "394b5720ef168748027cc75de72f55856da7605712183b3a20f44c6832c8d214", checked := Tryz.checked }
namespace Rows
def none {H : Type} : Left H := { results := [], args := [] }

/- WHAT THE LISTED PACKAGE-LEVEL VARIABLES READ AS WHEN THE CALL BEGINS. Each datum BY PROGRAM (the guide's laid-datum.mjs) off the statement by which the dump's own 'gosem.cut.vars' lays the variable. In a bare row this is a premise. The card (YtogmgfdihmacpaaGreatDoorCards.lean) ties it to the program's text. -/
def laid_unicode_utf8_acceptRanges {H : Type} : DataW H := .agg [.agg [.lit (.int .u8 128), .lit (.int .u8 191)], .agg [.lit (.int .u8 160), .lit (.int .u8 191)], .agg [.lit (.int .u8 128), .lit (.int .u8 159)], .agg [.lit (.int .u8 144), .lit (.int .u8 191)], .agg [.lit (.int .u8 128), .lit (.int .u8 143)], .agg [.lit (.int .u8 0), .lit (.int .u8 0)], .agg [.lit (.int .u8 0), .lit (.int .u8 0)], .agg [.lit (.int .u8 0), .lit (.int .u8 0)], .agg [.lit (.int .u8 0), .lit (.int .u8 0)], .agg [.lit (.int .u8 0), .lit (.int .u8 0)], .agg [.lit (.int .u8 0), .lit (.int .u8 0)], .agg [.lit (.int .u8 0), .lit (.int .u8 0)], .agg [.lit (.int .u8 0), .lit (.int .u8 0)], .agg [.lit (.int .u8 0), .lit (.int .u8 0)], .agg [.lit (.int .u8 0), .lit (.int .u8 0)], .agg [.lit (.int .u8 0), .lit (.int .u8 0)]]
/-- One of Go's own tables, pinned by name: the form's constant. -/
def laid_unicode_utf8_first : DataW Unit := Go.Pinned.utf8First

/-- 'dominolaw13.PowerChecks': WHATEVER THE INPUT: true; the input reads as it did. -/
def powerChecksSpec : ChangeSpec := { name := "powerChecks", fn := fun _ => fun
  | [d1, d2] => { results := [.lit (.bool true)], args := [d1, d2] }
  | _ => none }
def powerChecksRow : OpenClaim := { program := "ytogmgfdihmacpaagreatdoor", sum := "394b5720ef168748027cc75de72f55856da7605712183b3a20f44c6832c8d214", func := "domino/dominolaw13.PowerChecks", spec := "powerChecks", inPlace := ["internal/bytealg.abigen_runtime_cmpstring", "math/bits.Add64", "math/bits.Sub64", "internal/bytealg.IndexByteString", "internal/bytealg.IndexString"], unfollowed := true, recurses := true, named := ["math/bits.divideError", "math/bits.overflowError", "unicode/utf8.first", "unicode/utf8.acceptRanges", "internal/bytealg.MaxLen"], apart := false, laid := [("unicode/utf8.acceptRanges", laid_unicode_utf8_acceptRanges), ("unicode/utf8.first", laid_unicode_utf8_first)] }
def PowerChecksSaid : Prop := powerChecksRow.holds Tryz.pinned (OpenSpec.ofChange powerChecksSpec)

/-- ITS FALSE NEIGHBOUR: 'it returns false'. Refute it at one input. -/
def powerChecksWrong : ChangeSpec := { name := "powerChecks", fn := fun _ => fun
  | [d1, d2] => { results := [.lit (.bool false)], args := [d1, d2] }
  | _ => none }
def PowerChecksWrongFalsely : Prop := powerChecksRow.holds Tryz.pinned (OpenSpec.ofChange powerChecksWrong)

/-- 'dominolaw13.PowerMultiplies': WHATEVER THE INPUT: true; the input reads as it did. -/
def powerMultipliesSpec : ChangeSpec := { name := "powerMultiplies", fn := fun _ => fun
  | [d1, d2, d3] => { results := [.lit (.bool true)], args := [d1, d2, d3] }
  | _ => none }
def powerMultipliesRow : OpenClaim := { program := "ytogmgfdihmacpaagreatdoor", sum := "394b5720ef168748027cc75de72f55856da7605712183b3a20f44c6832c8d214", func := "domino/dominolaw13.PowerMultiplies", spec := "powerMultiplies", inPlace := ["internal/bytealg.abigen_runtime_cmpstring", "math/bits.Add64", "math/bits.Sub64", "internal/bytealg.IndexByteString", "internal/bytealg.IndexString"], unfollowed := true, recurses := true, named := ["math/bits.divideError", "math/bits.overflowError", "unicode/utf8.first", "unicode/utf8.acceptRanges", "internal/bytealg.MaxLen"], apart := false, laid := [("unicode/utf8.acceptRanges", laid_unicode_utf8_acceptRanges), ("unicode/utf8.first", laid_unicode_utf8_first)] }
def PowerMultipliesSaid : Prop := powerMultipliesRow.holds Tryz.pinned (OpenSpec.ofChange powerMultipliesSpec)

/-- ITS FALSE NEIGHBOUR: 'it returns false'. Refute it at one input. -/
def powerMultipliesWrong : ChangeSpec := { name := "powerMultiplies", fn := fun _ => fun
  | [d1, d2, d3] => { results := [.lit (.bool false)], args := [d1, d2, d3] }
  | _ => none }
def PowerMultipliesWrongFalsely : Prop := powerMultipliesRow.holds Tryz.pinned (OpenSpec.ofChange powerMultipliesWrong)

/-- 'dominolaw13.PowerExps': WHATEVER THE INPUT: true; the input reads as it did. -/
def powerExpsSpec : ChangeSpec := { name := "powerExps", fn := fun _ => fun
  | [d1, d2, d3] => { results := [.lit (.bool true)], args := [d1, d2, d3] }
  | _ => none }
def powerExpsRow : OpenClaim := { program := "ytogmgfdihmacpaagreatdoor", sum := "394b5720ef168748027cc75de72f55856da7605712183b3a20f44c6832c8d214", func := "domino/dominolaw13.PowerExps", spec := "powerExps", inPlace := ["internal/bytealg.abigen_runtime_cmpstring", "math/bits.Add64", "math/bits.Sub64", "internal/bytealg.IndexByteString", "internal/bytealg.IndexString"], unfollowed := true, recurses := true, named := ["math/bits.divideError", "math/bits.overflowError", "unicode/utf8.first", "unicode/utf8.acceptRanges", "internal/bytealg.MaxLen"], apart := false, laid := [("unicode/utf8.acceptRanges", laid_unicode_utf8_acceptRanges), ("unicode/utf8.first", laid_unicode_utf8_first)] }
def PowerExpsSaid : Prop := powerExpsRow.holds Tryz.pinned (OpenSpec.ofChange powerExpsSpec)

/-- ITS FALSE NEIGHBOUR: 'it returns false'. Refute it at one input. -/
def powerExpsWrong : ChangeSpec := { name := "powerExps", fn := fun _ => fun
  | [d1, d2, d3] => { results := [.lit (.bool false)], args := [d1, d2, d3] }
  | _ => none }
def PowerExpsWrongFalsely : Prop := powerExpsRow.holds Tryz.pinned (OpenSpec.ofChange powerExpsWrong)

/-- 'dominolaw13.PowerProducts': WHATEVER THE INPUT: true; the input reads as it did. -/
def powerProductsSpec : ChangeSpec := { name := "powerProducts", fn := fun _ => fun
  | [d1, d2, d3] => { results := [.lit (.bool true)], args := [d1, d2, d3] }
  | _ => none }
def powerProductsRow : OpenClaim := { program := "ytogmgfdihmacpaagreatdoor", sum := "394b5720ef168748027cc75de72f55856da7605712183b3a20f44c6832c8d214", func := "domino/dominolaw13.PowerProducts", spec := "powerProducts", inPlace := ["internal/bytealg.abigen_runtime_cmpstring", "math/bits.Add64", "math/bits.Sub64", "internal/bytealg.IndexByteString", "internal/bytealg.IndexString"], unfollowed := true, recurses := true, named := ["math/bits.divideError", "math/bits.overflowError", "unicode/utf8.first", "unicode/utf8.acceptRanges", "internal/bytealg.MaxLen"], apart := false, laid := [("unicode/utf8.acceptRanges", laid_unicode_utf8_acceptRanges), ("unicode/utf8.first", laid_unicode_utf8_first)] }
def PowerProductsSaid : Prop := powerProductsRow.holds Tryz.pinned (OpenSpec.ofChange powerProductsSpec)

/-- ITS FALSE NEIGHBOUR: 'it returns false'. Refute it at one input. -/
def powerProductsWrong : ChangeSpec := { name := "powerProducts", fn := fun _ => fun
  | [d1, d2, d3] => { results := [.lit (.bool false)], args := [d1, d2, d3] }
  | _ => none }
def PowerProductsWrongFalsely : Prop := powerProductsRow.holds Tryz.pinned (OpenSpec.ofChange powerProductsWrong)

/-- 'dominolaw13.PowerTables': WHATEVER THE INPUT: true; the input reads as it did. -/
def powerTablesSpec : ChangeSpec := { name := "powerTables", fn := fun _ => fun
  | [d1, d2, d3] => { results := [.lit (.bool true)], args := [d1, d2, d3] }
  | _ => none }
def powerTablesRow : OpenClaim := { program := "ytogmgfdihmacpaagreatdoor", sum := "394b5720ef168748027cc75de72f55856da7605712183b3a20f44c6832c8d214", func := "domino/dominolaw13.PowerTables", spec := "powerTables", inPlace := ["internal/bytealg.abigen_runtime_cmpstring", "math/bits.Add64", "math/bits.Sub64", "internal/bytealg.IndexByteString", "internal/bytealg.IndexString"], unfollowed := true, recurses := true, named := ["math/bits.divideError", "math/bits.overflowError", "unicode/utf8.first", "unicode/utf8.acceptRanges", "internal/bytealg.MaxLen"], apart := false, laid := [("unicode/utf8.acceptRanges", laid_unicode_utf8_acceptRanges), ("unicode/utf8.first", laid_unicode_utf8_first)] }
def PowerTablesSaid : Prop := powerTablesRow.holds Tryz.pinned (OpenSpec.ofChange powerTablesSpec)

/-- ITS FALSE NEIGHBOUR: 'it returns false'. Refute it at one input. -/
def powerTablesWrong : ChangeSpec := { name := "powerTables", fn := fun _ => fun
  | [d1, d2, d3] => { results := [.lit (.bool false)], args := [d1, d2, d3] }
  | _ => none }
def PowerTablesWrongFalsely : Prop := powerTablesRow.holds Tryz.pinned (OpenSpec.ofChange powerTablesWrong)

/-- 'dominolaw13.PowerAgrees': WHATEVER THE INPUT: true; the input reads as it did. -/
def powerAgreesSpec : ChangeSpec := { name := "powerAgrees", fn := fun _ => fun
  | [d1, d2, d3] => { results := [.lit (.bool true)], args := [d1, d2, d3] }
  | _ => none }
def powerAgreesRow : OpenClaim := { program := "ytogmgfdihmacpaagreatdoor", sum := "394b5720ef168748027cc75de72f55856da7605712183b3a20f44c6832c8d214", func := "domino/dominolaw13.PowerAgrees", spec := "powerAgrees", inPlace := ["internal/bytealg.abigen_runtime_cmpstring", "math/bits.Add64", "math/bits.Sub64", "internal/bytealg.IndexByteString", "internal/bytealg.IndexString"], unfollowed := true, recurses := true, named := ["math/bits.divideError", "math/bits.overflowError", "unicode/utf8.first", "unicode/utf8.acceptRanges", "internal/bytealg.MaxLen"], apart := false, laid := [("unicode/utf8.acceptRanges", laid_unicode_utf8_acceptRanges), ("unicode/utf8.first", laid_unicode_utf8_first)] }
def PowerAgreesSaid : Prop := powerAgreesRow.holds Tryz.pinned (OpenSpec.ofChange powerAgreesSpec)

/-- ITS FALSE NEIGHBOUR: 'it returns false'. Refute it at one input. -/
def powerAgreesWrong : ChangeSpec := { name := "powerAgrees", fn := fun _ => fun
  | [d1, d2, d3] => { results := [.lit (.bool false)], args := [d1, d2, d3] }
  | _ => none }
def PowerAgreesWrongFalsely : Prop := powerAgreesRow.holds Tryz.pinned (OpenSpec.ofChange powerAgreesWrong)

/-- 'dominolaw13.PowerAdds': WHATEVER THE INPUT: true; the input reads as it did. -/
def powerAddsSpec : ChangeSpec := { name := "powerAdds", fn := fun _ => fun
  | [d1, d2, d3] => { results := [.lit (.bool true)], args := [d1, d2, d3] }
  | _ => none }
def powerAddsRow : OpenClaim := { program := "ytogmgfdihmacpaagreatdoor", sum := "394b5720ef168748027cc75de72f55856da7605712183b3a20f44c6832c8d214", func := "domino/dominolaw13.PowerAdds", spec := "powerAdds", inPlace := ["internal/bytealg.abigen_runtime_cmpstring", "math/bits.Add64", "math/bits.Sub64", "internal/bytealg.IndexByteString", "internal/bytealg.IndexString"], unfollowed := true, recurses := true, named := ["math/bits.divideError", "math/bits.overflowError", "unicode/utf8.first", "unicode/utf8.acceptRanges", "internal/bytealg.MaxLen"], apart := false, laid := [("unicode/utf8.acceptRanges", laid_unicode_utf8_acceptRanges), ("unicode/utf8.first", laid_unicode_utf8_first)] }
def PowerAddsSaid : Prop := powerAddsRow.holds Tryz.pinned (OpenSpec.ofChange powerAddsSpec)

/-- ITS FALSE NEIGHBOUR: 'it returns false'. Refute it at one input. -/
def powerAddsWrong : ChangeSpec := { name := "powerAdds", fn := fun _ => fun
  | [d1, d2, d3] => { results := [.lit (.bool false)], args := [d1, d2, d3] }
  | _ => none }
def PowerAddsWrongFalsely : Prop := powerAddsRow.holds Tryz.pinned (OpenSpec.ofChange powerAddsWrong)

/-- 'dominolaw13.PowerLooks': WHATEVER THE INPUT: true; the input reads as it did. -/
def powerLooksSpec : ChangeSpec := { name := "powerLooks", fn := fun _ => fun
  | [d1, d2, d3] => { results := [.lit (.bool true)], args := [d1, d2, d3] }
  | _ => none }
def powerLooksRow : OpenClaim := { program := "ytogmgfdihmacpaagreatdoor", sum := "394b5720ef168748027cc75de72f55856da7605712183b3a20f44c6832c8d214", func := "domino/dominolaw13.PowerLooks", spec := "powerLooks", inPlace := ["internal/bytealg.abigen_runtime_cmpstring", "math/bits.Add64", "math/bits.Sub64", "internal/bytealg.IndexByteString", "internal/bytealg.IndexString"], unfollowed := true, recurses := true, named := ["math/bits.divideError", "math/bits.overflowError", "unicode/utf8.first", "unicode/utf8.acceptRanges", "internal/bytealg.MaxLen"], apart := false, laid := [("unicode/utf8.acceptRanges", laid_unicode_utf8_acceptRanges), ("unicode/utf8.first", laid_unicode_utf8_first)] }
def PowerLooksSaid : Prop := powerLooksRow.holds Tryz.pinned (OpenSpec.ofChange powerLooksSpec)

/-- ITS FALSE NEIGHBOUR: 'it returns false'. Refute it at one input. -/
def powerLooksWrong : ChangeSpec := { name := "powerLooks", fn := fun _ => fun
  | [d1, d2, d3] => { results := [.lit (.bool false)], args := [d1, d2, d3] }
  | _ => none }
def PowerLooksWrongFalsely : Prop := powerLooksRow.holds Tryz.pinned (OpenSpec.ofChange powerLooksWrong)

/- THE SECOND FORM. 'bulk': how many values and letters a reading holds, each counted each time it is reached (what is shared counts as often as it is met; a slice's spare places count too). A statement '..UptoSaid' is the law's where the arguments, and the package variables that the reading takes, are together of bulk at most 1048576: NARROWER than '..Said'. Prove '..Said' where nothing that the law and all that it calls make is longer than what came in: it says more and counts as full. Else prove '..UptoSaid'. A law counts once. -/
mutual
def uptoBulk {H : Type} : DataW H → Nat
  | .lit (.string bytes) => bytes.length + 1
  | .lit _ => 1
  | .nil => 1
  | .ptr d => uptoBulk d + 1
  | .slice elems spare => uptoBulkAll elems + uptoBulkAll spare + 1
  | .agg parts => uptoBulkAll parts + 1
  | .iface _ d => uptoBulk d + 1
  | .map entries => uptoBulkEntries entries + 1
  | .held _ => 1
def uptoBulkAll {H : Type} : List (DataW H) → Nat
  | [] => 0
  | d :: r => uptoBulk d + uptoBulkAll r
def uptoBulkEntries {H : Type} : List (Lit × DataW H) → Nat
  | [] => 0
  | x :: r => uptoBulkEntry x + uptoBulkEntries r
def uptoBulkEntry {H : Type} : Lit × DataW H → Nat
  | (.string bytes, d) => bytes.length + uptoBulk d + 1
  | (_, d) => uptoBulk d + 1
 end
def uptoSmall : (H : Type) → List (DataW H) → Bool := fun _ ds => decide (uptoBulkAll ds ≤ 1048576)
def OpenSpec.upto (s : _root_.Go.ChangeSpec) : _root_.Go.OpenSpec := { _root_.Go.OpenSpec.ofChange s with cond := some uptoSmall }

/-- 'dominolaw13.PowerChecks', WHERE WHAT IT READS IS OF BULK AT MOST 1048576: true; the input reads as it did. -/
def powerChecksUptoRow : OpenClaim := { program := "ytogmgfdihmacpaagreatdoor", sum := "394b5720ef168748027cc75de72f55856da7605712183b3a20f44c6832c8d214", func := "domino/dominolaw13.PowerChecks", spec := "powerChecks", inPlace := ["internal/bytealg.abigen_runtime_cmpstring", "math/bits.Add64", "math/bits.Sub64", "internal/bytealg.IndexByteString", "internal/bytealg.IndexString"], unfollowed := true, recurses := true, named := ["math/bits.divideError", "math/bits.overflowError", "unicode/utf8.first", "unicode/utf8.acceptRanges", "internal/bytealg.MaxLen"], apart := false, laid := [("unicode/utf8.acceptRanges", laid_unicode_utf8_acceptRanges), ("unicode/utf8.first", laid_unicode_utf8_first)], narrowed := true }
def PowerChecksUptoSaid : Prop := powerChecksUptoRow.holds Tryz.pinned (OpenSpec.upto powerChecksSpec)

/-- 'dominolaw13.PowerMultiplies', WHERE WHAT IT READS IS OF BULK AT MOST 1048576: true; the input reads as it did. -/
def powerMultipliesUptoRow : OpenClaim := { program := "ytogmgfdihmacpaagreatdoor", sum := "394b5720ef168748027cc75de72f55856da7605712183b3a20f44c6832c8d214", func := "domino/dominolaw13.PowerMultiplies", spec := "powerMultiplies", inPlace := ["internal/bytealg.abigen_runtime_cmpstring", "math/bits.Add64", "math/bits.Sub64", "internal/bytealg.IndexByteString", "internal/bytealg.IndexString"], unfollowed := true, recurses := true, named := ["math/bits.divideError", "math/bits.overflowError", "unicode/utf8.first", "unicode/utf8.acceptRanges", "internal/bytealg.MaxLen"], apart := false, laid := [("unicode/utf8.acceptRanges", laid_unicode_utf8_acceptRanges), ("unicode/utf8.first", laid_unicode_utf8_first)], narrowed := true }
def PowerMultipliesUptoSaid : Prop := powerMultipliesUptoRow.holds Tryz.pinned (OpenSpec.upto powerMultipliesSpec)

/-- 'dominolaw13.PowerExps', WHERE WHAT IT READS IS OF BULK AT MOST 1048576: true; the input reads as it did. -/
def powerExpsUptoRow : OpenClaim := { program := "ytogmgfdihmacpaagreatdoor", sum := "394b5720ef168748027cc75de72f55856da7605712183b3a20f44c6832c8d214", func := "domino/dominolaw13.PowerExps", spec := "powerExps", inPlace := ["internal/bytealg.abigen_runtime_cmpstring", "math/bits.Add64", "math/bits.Sub64", "internal/bytealg.IndexByteString", "internal/bytealg.IndexString"], unfollowed := true, recurses := true, named := ["math/bits.divideError", "math/bits.overflowError", "unicode/utf8.first", "unicode/utf8.acceptRanges", "internal/bytealg.MaxLen"], apart := false, laid := [("unicode/utf8.acceptRanges", laid_unicode_utf8_acceptRanges), ("unicode/utf8.first", laid_unicode_utf8_first)], narrowed := true }
def PowerExpsUptoSaid : Prop := powerExpsUptoRow.holds Tryz.pinned (OpenSpec.upto powerExpsSpec)

/-- 'dominolaw13.PowerProducts', WHERE WHAT IT READS IS OF BULK AT MOST 1048576: true; the input reads as it did. -/
def powerProductsUptoRow : OpenClaim := { program := "ytogmgfdihmacpaagreatdoor", sum := "394b5720ef168748027cc75de72f55856da7605712183b3a20f44c6832c8d214", func := "domino/dominolaw13.PowerProducts", spec := "powerProducts", inPlace := ["internal/bytealg.abigen_runtime_cmpstring", "math/bits.Add64", "math/bits.Sub64", "internal/bytealg.IndexByteString", "internal/bytealg.IndexString"], unfollowed := true, recurses := true, named := ["math/bits.divideError", "math/bits.overflowError", "unicode/utf8.first", "unicode/utf8.acceptRanges", "internal/bytealg.MaxLen"], apart := false, laid := [("unicode/utf8.acceptRanges", laid_unicode_utf8_acceptRanges), ("unicode/utf8.first", laid_unicode_utf8_first)], narrowed := true }
def PowerProductsUptoSaid : Prop := powerProductsUptoRow.holds Tryz.pinned (OpenSpec.upto powerProductsSpec)

/-- 'dominolaw13.PowerTables', WHERE WHAT IT READS IS OF BULK AT MOST 1048576: true; the input reads as it did. -/
def powerTablesUptoRow : OpenClaim := { program := "ytogmgfdihmacpaagreatdoor", sum := "394b5720ef168748027cc75de72f55856da7605712183b3a20f44c6832c8d214", func := "domino/dominolaw13.PowerTables", spec := "powerTables", inPlace := ["internal/bytealg.abigen_runtime_cmpstring", "math/bits.Add64", "math/bits.Sub64", "internal/bytealg.IndexByteString", "internal/bytealg.IndexString"], unfollowed := true, recurses := true, named := ["math/bits.divideError", "math/bits.overflowError", "unicode/utf8.first", "unicode/utf8.acceptRanges", "internal/bytealg.MaxLen"], apart := false, laid := [("unicode/utf8.acceptRanges", laid_unicode_utf8_acceptRanges), ("unicode/utf8.first", laid_unicode_utf8_first)], narrowed := true }
def PowerTablesUptoSaid : Prop := powerTablesUptoRow.holds Tryz.pinned (OpenSpec.upto powerTablesSpec)

/-- 'dominolaw13.PowerAgrees', WHERE WHAT IT READS IS OF BULK AT MOST 1048576: true; the input reads as it did. -/
def powerAgreesUptoRow : OpenClaim := { program := "ytogmgfdihmacpaagreatdoor", sum := "394b5720ef168748027cc75de72f55856da7605712183b3a20f44c6832c8d214", func := "domino/dominolaw13.PowerAgrees", spec := "powerAgrees", inPlace := ["internal/bytealg.abigen_runtime_cmpstring", "math/bits.Add64", "math/bits.Sub64", "internal/bytealg.IndexByteString", "internal/bytealg.IndexString"], unfollowed := true, recurses := true, named := ["math/bits.divideError", "math/bits.overflowError", "unicode/utf8.first", "unicode/utf8.acceptRanges", "internal/bytealg.MaxLen"], apart := false, laid := [("unicode/utf8.acceptRanges", laid_unicode_utf8_acceptRanges), ("unicode/utf8.first", laid_unicode_utf8_first)], narrowed := true }
def PowerAgreesUptoSaid : Prop := powerAgreesUptoRow.holds Tryz.pinned (OpenSpec.upto powerAgreesSpec)

/-- 'dominolaw13.PowerAdds', WHERE WHAT IT READS IS OF BULK AT MOST 1048576: true; the input reads as it did. -/
def powerAddsUptoRow : OpenClaim := { program := "ytogmgfdihmacpaagreatdoor", sum := "394b5720ef168748027cc75de72f55856da7605712183b3a20f44c6832c8d214", func := "domino/dominolaw13.PowerAdds", spec := "powerAdds", inPlace := ["internal/bytealg.abigen_runtime_cmpstring", "math/bits.Add64", "math/bits.Sub64", "internal/bytealg.IndexByteString", "internal/bytealg.IndexString"], unfollowed := true, recurses := true, named := ["math/bits.divideError", "math/bits.overflowError", "unicode/utf8.first", "unicode/utf8.acceptRanges", "internal/bytealg.MaxLen"], apart := false, laid := [("unicode/utf8.acceptRanges", laid_unicode_utf8_acceptRanges), ("unicode/utf8.first", laid_unicode_utf8_first)], narrowed := true }
def PowerAddsUptoSaid : Prop := powerAddsUptoRow.holds Tryz.pinned (OpenSpec.upto powerAddsSpec)

/-- 'dominolaw13.PowerLooks', WHERE WHAT IT READS IS OF BULK AT MOST 1048576: true; the input reads as it did. -/
def powerLooksUptoRow : OpenClaim := { program := "ytogmgfdihmacpaagreatdoor", sum := "394b5720ef168748027cc75de72f55856da7605712183b3a20f44c6832c8d214", func := "domino/dominolaw13.PowerLooks", spec := "powerLooks", inPlace := ["internal/bytealg.abigen_runtime_cmpstring", "math/bits.Add64", "math/bits.Sub64", "internal/bytealg.IndexByteString", "internal/bytealg.IndexString"], unfollowed := true, recurses := true, named := ["math/bits.divideError", "math/bits.overflowError", "unicode/utf8.first", "unicode/utf8.acceptRanges", "internal/bytealg.MaxLen"], apart := false, laid := [("unicode/utf8.acceptRanges", laid_unicode_utf8_acceptRanges), ("unicode/utf8.first", laid_unicode_utf8_first)], narrowed := true }
def PowerLooksUptoSaid : Prop := powerLooksUptoRow.holds Tryz.pinned (OpenSpec.upto powerLooksSpec)

end Rows
end Go.Proofs.YtogmgfdihmacpaaGreatDoor
