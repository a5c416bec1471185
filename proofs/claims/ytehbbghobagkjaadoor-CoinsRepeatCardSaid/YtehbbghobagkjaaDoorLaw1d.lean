/-
  The walks of NaturalReads and NaturalAdds.
-/
import Derived.Test.YtehbbghobagkjaaDoorRef3
namespace Go.Proofs.YtehbbghobagkjaaDoor
open Go.RowKit
set_option linter.unusedVariables false

theorem bb_eq (b : Bool) : (b == b) = true := by simp
theorem l_beq (b : ByteArray) : (b.toList == b.toList) = true := by simp
theorem i_beq (a : Int) : (a == a) = true := by simp
theorem str1 (w : World) (s : ByteArray) (t : TypeId) : Strs (w.alloc (.cells #[.string s] t)) w.heap.size 1 (fun _ => s) := by
  intro j hj
  obtain rfl : j = 0 := by omega
  rw [World.cell?_alloc_new]; rfl
theorem str2 (w : World) (s u : ByteArray) (t : TypeId) : Strs (w.alloc (.cells #[.string s, .string u] t)) w.heap.size 2 (fun j => if j = 0 then s else u) := by
  intro j hj
  have : j = 0 ∨ j = 1 := by omega
  rcases this with rfl | rfl <;> (rw [World.cell?_alloc_new]; rfl)

theorem valid_agree (s : ByteArray) : ∃ b : Bool,
    (∀ w, Calls Tryd.prog 17 #[.string s] w fun e w' => e = .returned (.bool b) ∧ w = w') ∧
    (∀ w, Calls Tryd.prog 37 #[.string s] w fun e w' => e = .returned (.bool b) ∧ w = w') := by
  by_cases h : Can s
  · exact ⟨true, fun w => valid_yes s w h, fun w => rvalid_yes s w h⟩
  · exact ⟨false, fun w => valid_no s w h, fun w => rvalid_no s w h⟩
theorem okN_code (n : Nat) : ∃ (b : ByteArray) (v : Nat), okN n = .tuple #[.string b, .int .i64 v] ∧ v ≤ 100 := by
  unfold okN; split
  · exact ⟨_, 0, rfl, by omega⟩
  · exact ⟨_, 5, rfl, by omega⟩
theorem subN_code (n m : Nat) : ∃ (b : ByteArray) (v : Nat), subN n m = .tuple #[.string b, .int .i64 v] ∧ v ≤ 100 := by
  unfold subN; split
  · exact ⟨_, 0, rfl, by omega⟩
  · exact ⟨_, 2, rfl, by omega⟩
theorem same_below {e : Ending} {w w' : World} {v : Value} {B : Nat} (h : e = .returned v ∧ w = w') : e = .returned v ∧ Below B w w' := ⟨h.1, h.2 ▸ Below.refl _ _⟩
end Go.Proofs.YtehbbghobagkjaaDoor
