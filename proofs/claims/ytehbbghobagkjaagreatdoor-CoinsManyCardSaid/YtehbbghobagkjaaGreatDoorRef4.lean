/-
  Contracts of the reference of layer 1: Times, Mul.
-/
import Derived.Test.YtehbbghobagkjaaGreatDoorRMath
namespace Go.Proofs.YtehbbghobagkjaaGreatDoor
open Go.RowKit
set_option linter.unusedVariables false

theorem Tryz.info3 : (Tryz.prog.info? 3).map (fun i => (i.zero, i.size, i.bytes)) = some (some (.int .i64 0), 1, 8) := by kernel_rfl
theorem ints_zero (w : World) (len : Nat) (t : TypeId) (a b m : Nat) : (w.alloc (.cells (madeCells #[.int .i64 0] len) t)).rowIs w.heap.size t len (fun j => .int .i64 (acc a b m 0 0 j : Nat)) :=
  (World.rowIs_made w (.int .i64 0) len t).congr (fun j _ => by rw [acc_start]; rfl)
theorem nat_mul_cast (a b : Nat) : ((a : Int) * (b : Int)) = ((a * b : Nat) : Int) := by simp

end Go.Proofs.YtehbbghobagkjaaGreatDoor
