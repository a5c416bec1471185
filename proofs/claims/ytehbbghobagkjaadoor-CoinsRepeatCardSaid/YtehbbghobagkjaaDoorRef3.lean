/-
  Contracts of the reference of layer 1: Cmp, fit, Add, Sub, Bits, Bit; the statements' Few.
-/
import Derived.Test.YtehbbghobagkjaaDoorRef2
import Derived.Test.YtehbbghobagkjaaDoorAwake1
import Derived.OpenShut
namespace Go.Proofs.YtehbbghobagkjaaDoor
open Go.RowKit
set_option linter.unusedVariables false

theorem below_d {B : Nat} {a w : World} (h : Below B a w) (q : Nat) : Below B a (w.drewN q) := ⟨h.os, h.tape, h.output, h.size, h.block⟩

/-- okN is a pair. -/
theorem okN_pair (n : Nat) : ∃ (b : ByteArray) (v : Int), okN n = .tuple #[.string b, .int .i64 v] := by
  unfold okN; split
  · exact ⟨_, _, rfl⟩
  · exact ⟨_, _, rfl⟩
theorem subN_pair (n m : Nat) : ∃ (b : ByteArray) (v : Int), subN n m = .tuple #[.string b, .int .i64 v] := by
  unfold subN; split
  · exact ⟨_, _, rfl⟩
  · exact ⟨_, _, rfl⟩

theorem lt_nbits' (n : Nat) : n < 2 ^ nbits n := by
  unfold nbits; split
  · simp_all
  · rename_i h; exact Nat.lt_log2_self
theorem bit_above' {n k : Nat} (h : nbits n ≤ k) : n.testBit k = false :=
  Nat.testBit_lt_two_pow (Nat.lt_of_lt_of_le (lt_nbits' n) (Nat.pow_le_pow_right (by omega) h))

/-! ### Few -/
/-- A row of strings. -/
def Strs (w : World) (g n : Nat) (f : Nat → ByteArray) : Prop := ∀ j, j < n → w.cell? ⟨g, j, none⟩ = some (.string (f j))

end Go.Proofs.YtehbbghobagkjaaDoor
