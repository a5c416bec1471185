/-
  Contracts of the reference of layer 1: Times, Mul.
-/
import Derived.Test.YtfokiokcofabcaaDoorRMath
namespace Go.Proofs.YtfokiokcofabcaaDoor
open Go.RowKit
set_option linter.unusedVariables false

theorem Tryd.info3 : (Tryd.prog.info? 3).map (fun i => (i.zero, i.size, i.bytes)) = some (some (.int .i64 0), 1, 8) := by kernel_rfl
theorem run_make_ints1 (n : Nat) (hn : n ≤ 999999) (w : World) :
    (Instr.makeSlice 37 (.int .i64 ((n : Int) + 1)) (.int .i64 ((n : Int) + 1))).run Tryd.prog w = .ok (.slice (some ⟨w.heap.size, 0, none⟩) (n + 1) (n + 1)) (w.alloc (.cells (madeCells #[.int .i64 0] (n + 1)) 3)) := by
  obtain ⟨i0, hi, hz0, hz1, hz2⟩ := info_parts Tryd.info3
  exact run_make_row 37 3 i0 _ Tryd.underlying37 hi hz0 hz1 rfl .i64 .i64 (n + 1) (by rw [hz2]; omega) (by omega) w
theorem ints_zero (w : World) (len : Nat) (t : TypeId) (a b m : Nat) : (w.alloc (.cells (madeCells #[.int .i64 0] len) t)).rowIs w.heap.size t len (fun j => .int .i64 (acc a b m 0 0 j : Nat)) :=
  (World.rowIs_made w (.int .i64 0) len t).congr (fun j _ => by rw [acc_start]; rfl)
theorem nat_mul_cast (a b : Nat) : ((a : Int) * (b : Int)) = ((a * b : Nat) : Int) := by simp

end Go.Proofs.YtfokiokcofabcaaDoor
