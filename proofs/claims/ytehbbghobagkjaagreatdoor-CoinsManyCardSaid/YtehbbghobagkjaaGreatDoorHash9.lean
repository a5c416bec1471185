/-
  Contracts of package hash, the ninth part: Hex.
-/
import Derived.Test.YtehbbghobagkjaaGreatDoorHash8
namespace Go.Proofs.YtehbbghobagkjaaGreatDoor
open Go.RowKit Go.Deep
set_option linter.unusedVariables false

theorem make_lies (c : Nat) (hc : c ≤ 100000000000000) (w : World) (base : Nat) (hb : base ≤ w.heap.size) : Lies (w.alloc (.cells (madeCells #[.int .u8 0] c) 5)) base (.slice (some ⟨w.heap.size, 0, none⟩) 0 c) [] := by
  have hr := World.rowIs_made w (.int .u8 0) c 5
  exact ⟨w.heap.size, c, rfl, hb, by simp, Nat.zero_le _, fun j hj => absurd hj (by simp), fun j hj => ⟨by rw [hr.cell hj]; rfl, hr.frozen j⟩⟩
theorem new_lies (m : List UInt8) (c : Array Value) (hc : c = (bvals m).toArray) (w : World) (base : Nat) (hb : base ≤ w.heap.size) (n : Nat) (hn : n = m.length) : Lies (w.alloc (.cells c 5)) base (.slice (some ⟨w.heap.size, 0, none⟩) n n) m := by
  subst hc hn
  refine ⟨w.heap.size, m.length, rfl, hb, by simp, Nat.le_refl _, fun j hj => ?_, fun j hj => ⟨?_, ?_⟩⟩
  · rw [cell_of_row _ _ _ _ _ _ (heap_alloc_last w _), List.getElem?_toArray, bvals_get m j hj]
  · rw [cell_of_row _ _ _ _ _ _ (heap_alloc_last w _), List.getElem?_toArray, bvals_get m j hj]; rfl
  · rw [World.frozen?, heap_alloc_last]; simp
theorem hexL_snoc (l : List UInt8) (c : UInt8) : hexL (l ++ [c]) = hexL l ++ [hd (c.toNat / 16), hd (c.toNat % 16)] := by simp [hexL]
/-- What the loop of Hex knows. -/
def HexR (s : ByteArray) (w : World) (v i : Value) (wr : World) : Prop :=
  ∃ k : Nat, k ≤ s.size ∧ i = .int .i64 k ∧ Lies wr w.heap.size v (hexL (s.data.toList.take k)) ∧ w.heap.size ≤ wr.heap.size ∧ Below w.heap.size w wr
theorem hex_index (a : Nat) (h : a < 16) (w : World) : (Instr.index 9 (.string ⟨#[48, 49, 50, 51, 52, 53, 54, 55, 56, 57, 97, 98, 99, 100, 101, 102]⟩) (.int .u8 (a : Int))).run Tryz.prog w = .ok (.int .u8 ((hd a).toNat : Int)) w := by
  have hk : a = 0 ∨ a = 1 ∨ a = 2 ∨ a = 3 ∨ a = 4 ∨ a = 5 ∨ a = 6 ∨ a = 7 ∨ a = 8 ∨ a = 9 ∨ a = 10 ∨ a = 11 ∨ a = 12 ∨ a = 13 ∨ a = 14 ∨ a = 15 := by omega
  rcases hk with rfl | rfl | rfl | rfl | rfl | rfl | rfl | rfl | rfl | rfl | rfl | rfl | rfl | rfl | rfl | rfl
  all_goals (show _ = _; kernel_rfl)
theorem and15 (c : Nat) (h : c < 256) : bits .and .u8 (c : Int) 15 = ((c % 16 : Nat) : Int) := by
  have := u8_and_nat c 15 h (by omega)
  rw [show (15 : Int) = ((15 : Nat) : Int) from rfl, this, show (15 : Nat) = 2 ^ 4 - 1 from rfl, Nat.and_two_pow_sub_one_eq_mod]
end Go.Proofs.YtehbbghobagkjaaGreatDoor
