/-
  The examples of layer 1's statements hold.
-/
import Derived.Test.YtogmgfdihmacpaaGreatDoorND
namespace Go.Proofs.YtogmgfdihmacpaaGreatDoor
open Go.RowKit
set_option linter.unusedVariables false

theorem bnext {w a b : World} (h : Below w.heap.size w a) (k : Below a.heap.size a b) : Below w.heap.size w b := h.trans (k.mono h.size)
theorem of_lit (n : Nat) (b : ByteArray) (w : World) (hn : n < 18446744073709551616) (h : E n = b) :
    Calls Tryz.prog 28 #[.int .u64 n] w fun e w' => e = .returned (.string b) ∧ Below w.heap.size w w' := by
  rw [← h]; exact of_any n w hn
theorem small_lim {n : Nat} (h : n < 18446744073709551616) : n < Lim := by
  have : 18446744073709551616 ≤ Lim := lim_eq ▸ (by decide +kernel)
  omega
theorem E_can {n : Nat} (b : ByteArray) (h : n < 18446744073709551616) (e : E n = b) : Can b ∧ V b = n := by
  rw [← e]; exact ⟨can_E' (small_lim h), V_E n⟩
theorem l_65535 : E 65535 = ⟨#[255, 255]⟩ := by kernel_rfl
theorem l_65537 : E 65537 = ⟨#[1, 0, 1]⟩ := by kernel_rfl
theorem l_m : E 4294967295 = ⟨#[255, 255, 255, 255]⟩ := by kernel_rfl
theorem l_1000 : E 1000 = ⟨#[3, 232]⟩ := by kernel_rfl
theorem l_7 : E 7 = ⟨#[7]⟩ := by kernel_rfl
theorem l_142 : E 142 = ⟨#[142]⟩ := by kernel_rfl
theorem l_6 : E 6 = ⟨#[6]⟩ := by kernel_rfl
theorem l_84 : E 84 = ⟨#[84]⟩ := by kernel_rfl
theorem l_36 : E 36 = ⟨#[36]⟩ := by kernel_rfl
theorem l_12 : E 12 = ⟨#[12]⟩ := by kernel_rfl
theorem l_99 : E 99 = ⟨#[99]⟩ := by kernel_rfl
theorem l_9 : E 9 = ⟨#[9]⟩ := by kernel_rfl
theorem l_1 : E 1 = ⟨#[1]⟩ := by kernel_rfl
theorem l_2 : E 2 = ⟨#[2]⟩ := by kernel_rfl
theorem l_258 : E 258 = ⟨#[1, 2]⟩ := by kernel_rfl
theorem l_t258 : T 258 = ⟨#[50, 53, 56]⟩ := by kernel_rfl
theorem l_0 : E 0 = ⟨#[]⟩ := by kernel_rfl
theorem m_mul : okN (65535 * 65537) = .tuple #[.string ⟨#[255, 255, 255, 255]⟩, .int .i64 0] := by
  rw [okN_yes (small_lim (by omega)), show 65535 * 65537 = 4294967295 by rfl, l_m]
theorem m_div : divN 1000 7 = .tuple #[.string ⟨#[142]⟩, .string ⟨#[6]⟩, .int .i64 0] := by
  rw [divN_pos (by omega), show 1000 / 7 = 142 by rfl, show 1000 % 7 = 6 by rfl, l_142, l_6]
theorem m_sub : subN 1 2 = .tuple #[.string ⟨#[]⟩, .int .i64 2] := by rw [subN_no (by omega), l_0]
theorem m_sq : isq 99 = 9 := by kernel_rfl

end Go.Proofs.YtogmgfdihmacpaaGreatDoor
