/-
  Contracts of the reference of layer 1: DivMod, Common, Gcd.
-/
import Derived.Test.YtehbbghobagkjaaGreatDoorRef5
import Derived.Deep.LoopGhost
namespace Go.Proofs.YtehbbghobagkjaaGreatDoor
open Go.RowKit
set_option linter.unusedVariables false
/-- The number of a string value. -/
def nv : Value → Nat
  | .string s => V s
  | _ => 0
theorem nv_E (n : Nat) : nv (.string (E n)) = n := V_E n
theorem E_pos_size {n : Nat} (h : 0 < n) : (E n).size ≠ 0 := fun q => by
  have := V_empty q
  rw [V_E] at this
  omega

end Go.Proofs.YtehbbghobagkjaaGreatDoor
