/-
  Contracts of package integer and of its reference: Mod, Divide.
-/
import Derived.Test.YtjbcicgbemepbaaDoorInt9
namespace Go.Proofs.YtjbcicgbemepbaaDoor
open Go.RowKit
set_option linter.unusedVariables false

theorem Two.out {w : World} {g : Nat} {c0 c1 : Value} (h : Two w g c0 c1) : w.cell? ⟨g, 0, none⟩ = some c0 ∧ w.cell? ⟨g, 1, none⟩ = some c1 := ⟨h.1, h.2.1⟩

end Go.Proofs.YtjbcicgbemepbaaDoor
