/-
  The walks of NaturalReads and NaturalAdds.
-/
import Derived.Test.YtogmgfdihmacpaaGreatDoorRef3
namespace Go.Proofs.YtogmgfdihmacpaaGreatDoor
open Go.RowKit
set_option linter.unusedVariables false

theorem bb_eq (b : Bool) : (b == b) = true := by simp
theorem l_beq (b : ByteArray) : (b.toList == b.toList) = true := by simp
theorem i_beq (a : Int) : (a == a) = true := by simp
theorem str1 (w : World) (s : ByteArray) (t : TypeId) : Strs (w.alloc (.cells #[.string s] t)) w.heap.size 1 (fun _ => s) := by
  intro j hj
  obtain rfl : j = 0 := by omega
  rw [World.cell?_alloc_new]; rfl
theorem str2 (w : World) (s u : ByteArray) (t : TypeId) : Strs (w.alloc (.cells #[.string s, .string u] t)) w.heap.size 2 (fun j => if j = 0 then s else u) := by
  intro j hj
  have : j = 0 ∨ j = 1 := by omega
  rcases this with rfl | rfl <;> (rw [World.cell?_alloc_new]; rfl)

theorem valid_agree (s : ByteArray) : ∃ b : Bool,
    (∀ w, Calls Tryz.prog 34 #[.string s] w fun e w' => e = .returned (.bool b) ∧ w = w') ∧
    (∀ w, Calls Tryz.prog 38 #[.string s] w fun e w' => e = .returned (.bool b) ∧ w = w') := by
  by_cases h : Can s
  · exact ⟨true, fun w => valid_yes s w h, fun w => rvalid_yes s w h⟩
  · exact ⟨false, fun w => valid_no s w h, fun w => rvalid_no s w h⟩
theorem bits_agree (s : ByteArray) : ∃ n : Nat,
    (∀ w, Calls Tryz.prog 52 #[.string s] w fun e w' => e = .returned (.int .i64 n) ∧ w = w') ∧
    (∀ w, Calls Tryz.prog 54 #[.string s] w fun e w' => e = .returned (.int .i64 n) ∧ w = w') := by
  by_cases h : Can s
  · exact ⟨nbits (V s), fun w => bits_yes s w h, fun w => rbitsv_yes s w h⟩
  · exact ⟨0, fun w => bits_no s w h, fun w => rbitsv_no s w h⟩
theorem bit_agree (s : ByteArray) (i : Int) (hi : i ≤ 9223372036854775807) : ∃ b : Bool,
    (∀ w, Calls Tryz.prog 63 #[.string s, .int .i64 i] w fun e w' => e = .returned (.bool b) ∧ w = w') ∧
    (∀ w, Calls Tryz.prog 132 #[.string s, .int .i64 i] w fun e w' => e = .returned (.bool b) ∧ w = w') := by
  by_cases h : ¬ Can s ∨ i < 0
  · exact ⟨false, fun w => bit_no s i w h, fun w => rbit_no s i w h⟩
  · have hc : Can s := Classical.byContradiction fun q => h (.inl q)
    have h0 : 0 ≤ i := by
      have : ¬ i < 0 := fun q => h (.inr q)
      omega
    obtain ⟨n, rfl⟩ := Int.eq_ofNat_of_zero_le h0
    exact ⟨(V s).testBit n, fun w => bit_yes s n w hc (by omega), fun w => rbit_yes s n w hc (by omega)⟩
theorem cmp_agree (s t : ByteArray) : ∃ c : Int,
    (∀ w, Calls Tryz.prog 61 #[.string s, .string t] w fun e w' => e = .returned (.int .i64 c) ∧ w = w') ∧
    (∀ w, Calls Tryz.prog 163 #[.string s, .string t] w fun e w' => e = .returned (.int .i64 c) ∧ ∃ q, w.drewN q = w') := by
  by_cases h : Can s ∧ Can t
  · exact ⟨sgn (V s) (V t), fun w => cmp_yes s t w h.1 h.2, fun w => rcmp_yes s t w h.1 h.2⟩
  · exact ⟨0, fun w => cmp_no s t w h, fun w => (rcmp_no s t w h).mono fun e w' q => ⟨q.1, 0, q.2⟩⟩
theorem okN_code (n : Nat) : ∃ (b : ByteArray) (v : Nat), okN n = .tuple #[.string b, .int .i64 v] ∧ v ≤ 100 := by
  unfold okN; split
  · exact ⟨_, 0, rfl, by omega⟩
  · exact ⟨_, 5, rfl, by omega⟩
theorem subN_code (n m : Nat) : ∃ (b : ByteArray) (v : Nat), subN n m = .tuple #[.string b, .int .i64 v] ∧ v ≤ 100 := by
  unfold subN; split
  · exact ⟨_, 0, rfl, by omega⟩
  · exact ⟨_, 2, rfl, by omega⟩
theorem same_below {e : Ending} {w w' : World} {v : Value} {B : Nat} (h : e = .returned v ∧ w = w') : e = .returned v ∧ Below B w w' := ⟨h.1, h.2 ▸ Below.refl _ _⟩
theorem add_agree (s t : ByteArray) : ∃ (b : ByteArray) (v : Nat), v ≤ 100 ∧
    (∀ w, Calls Tryz.prog 30 #[.string s, .string t] w fun e w' => e = .returned (.tuple #[.string b, .int .i64 v]) ∧ Below w.heap.size w w') ∧
    (∀ w, Calls Tryz.prog 161 #[.string s, .string t] w fun e w' => e = .returned (.tuple #[.string b, .int .i64 v]) ∧ Below w.heap.size w w') := by
  by_cases h : Can s ∧ Can t
  · obtain ⟨b, v, hv, hl⟩ := okN_code (V s + V t)
    exact ⟨b, v, hl, fun w => hv ▸ add_yes s t w h.1 h.2, fun w => hv ▸ radd_yes s t w h.1 h.2⟩
  · exact ⟨E 0, 3, by omega, fun w => (add_no s t w h).mono fun _ _ => same_below, fun w => (radd_no s t w h).mono fun _ _ => same_below⟩
theorem sub_agree (s t : ByteArray) : ∃ (b : ByteArray) (v : Nat), v ≤ 100 ∧
    (∀ w, Calls Tryz.prog 62 #[.string s, .string t] w fun e w' => e = .returned (.tuple #[.string b, .int .i64 v]) ∧ Below w.heap.size w w') ∧
    (∀ w, Calls Tryz.prog 162 #[.string s, .string t] w fun e w' => e = .returned (.tuple #[.string b, .int .i64 v]) ∧ Below w.heap.size w w') := by
  by_cases h : Can s ∧ Can t
  · obtain ⟨b, v, hv, hl⟩ := subN_code (V s) (V t)
    exact ⟨b, v, hl, fun w => hv ▸ sub_yes s t w h.1 h.2, fun w => hv ▸ rsub_yes s t w h.1 h.2⟩
  · exact ⟨E 0, 3, by omega, fun w => (sub_no s t w h).mono fun _ _ => same_below, fun w => (rsub_no s t w h).mono fun _ _ => same_below⟩

end Go.Proofs.YtogmgfdihmacpaaGreatDoor
