/-
  The examples of layer 1's statements hold.
-/
import Derived.Test.YthiinmfelkhakaaNat14
namespace Go.Proofs.Ythiinmfelkhakaa
open Go.RowKit
set_option linter.unusedVariables false

theorem bnext {w a b : World} (h : Below w.heap.size w a) (k : Below a.heap.size a b) : Below w.heap.size w b := h.trans (k.mono h.size)
theorem of_lit (n : Nat) (b : ByteArray) (w : World) (hn : n < 18446744073709551616) (h : E n = b) :
    Calls Try.prog 25 #[.int .u64 n] w fun e w' => e = .returned (.string b) ∧ Below w.heap.size w w' := by
  rw [← h]; exact of_any n w hn
theorem small_lim {n : Nat} (h : n < 18446744073709551616) : n < Lim := by
  have : 18446744073709551616 ≤ Lim := lim_eq ▸ (by decide +kernel)
  omega
theorem E_can {n : Nat} (b : ByteArray) (h : n < 18446744073709551616) (e : E n = b) : Can b ∧ V b = n := by
  rw [← e]; exact ⟨can_E' (small_lim h), V_E n⟩
theorem l_65535 : E 65535 = ⟨#[255, 255]⟩ := by kernel_rfl
theorem l_65537 : E 65537 = ⟨#[1, 0, 1]⟩ := by kernel_rfl
theorem l_m : E 4294967295 = ⟨#[255, 255, 255, 255]⟩ := by kernel_rfl
theorem l_1000 : E 1000 = ⟨#[3, 232]⟩ := by kernel_rfl
theorem l_7 : E 7 = ⟨#[7]⟩ := by kernel_rfl
theorem l_142 : E 142 = ⟨#[142]⟩ := by kernel_rfl
theorem l_6 : E 6 = ⟨#[6]⟩ := by kernel_rfl
theorem l_84 : E 84 = ⟨#[84]⟩ := by kernel_rfl
theorem l_36 : E 36 = ⟨#[36]⟩ := by kernel_rfl
theorem l_12 : E 12 = ⟨#[12]⟩ := by kernel_rfl
theorem l_99 : E 99 = ⟨#[99]⟩ := by kernel_rfl
theorem l_9 : E 9 = ⟨#[9]⟩ := by kernel_rfl
theorem l_1 : E 1 = ⟨#[1]⟩ := by kernel_rfl
theorem l_2 : E 2 = ⟨#[2]⟩ := by kernel_rfl
theorem l_258 : E 258 = ⟨#[1, 2]⟩ := by kernel_rfl
theorem l_t258 : T 258 = ⟨#[50, 53, 56]⟩ := by kernel_rfl
theorem l_0 : E 0 = ⟨#[]⟩ := by kernel_rfl
theorem m_mul : okN (65535 * 65537) = .tuple #[.string ⟨#[255, 255, 255, 255]⟩, .int .i64 0] := by
  rw [okN_yes (small_lim (by omega)), show 65535 * 65537 = 4294967295 by rfl, l_m]
theorem m_div : divN 1000 7 = .tuple #[.string ⟨#[142]⟩, .string ⟨#[6]⟩, .int .i64 0] := by
  rw [divN_pos (by omega), show 1000 / 7 = 142 by rfl, show 1000 % 7 = 6 by rfl, l_142, l_6]
theorem m_sub : subN 1 2 = .tuple #[.string ⟨#[]⟩, .int .i64 2] := by rw [subN_no (by omega), l_0]
theorem m_sq : isq 99 = 9 := by kernel_rfl

set_option maxHeartbeats 2000000 in
set_option maxRecDepth 20000 in
theorem awake1 (w : World) : Calls Try.prog 16 #[] w fun e w' => e = .returned (.bool true) ∧ Below w.heap.size w w' := by
  have k1 := Lib.hid (E_can _ (by omega) l_65535)
  have k2 := Lib.hid (E_can _ (by omega) l_65537)
  have k3 := Lib.hid (E_can _ (by omega) l_1000)
  have k4 := Lib.hid (E_can _ (by omega) l_7)
  have k5 := Lib.hid (E_can _ (by omega) l_84)
  have k6 := Lib.hid (E_can _ (by omega) l_36)
  have k7 := Lib.hid (E_can _ (by omega) l_99)
  have k8 := Lib.hid (E_can _ (by omega) l_1)
  have k9 := Lib.hid (E_can _ (by omega) l_2)
  have k10 := Lib.hid (E_can _ (by omega) l_258)
  go_enter Try.func16, Try.ntmps16
  go_wp2_with fail
  refine (of_lit 65535 _ _ (by omega) l_65535).mono ?_
  rintro e w1 ⟨rfl, b1⟩
  go_wp2_with fail
  refine (of_lit 65537 _ _ (by omega) l_65537).mono ?_
  rintro e w2 ⟨rfl, b2⟩
  have b2 := bnext b1 b2; clear b1
  go_wp2_with fail
  refine (mul_yes _ _ _ k1.out.1 k2.out.1).mono ?_
  rintro e w3 ⟨rfl, b3⟩
  rw [k1.out.2, k2.out.2, m_mul]
  have b3 := bnext b2 b3; clear b2
  go_wp2_with fail
  refine (of_lit 1000 _ _ (by omega) l_1000).mono ?_
  rintro e w4 ⟨rfl, b4⟩
  have b4 := bnext b3 b4; clear b3
  go_wp2_with fail
  refine (of_lit 7 _ _ (by omega) l_7).mono ?_
  rintro e w5 ⟨rfl, b5⟩
  have b5 := bnext b4 b5; clear b4
  go_wp2_with fail
  refine (divMod_yes _ _ _ k3.out.1 k4.out.1).mono ?_
  rintro e w6 ⟨rfl, b6⟩
  rw [k3.out.2, k4.out.2, m_div]
  have b6 := bnext b5 b6; clear b5
  go_wp2_with fail
  refine (of_lit 84 _ _ (by omega) l_84).mono ?_
  rintro e w7 ⟨rfl, b7⟩
  have b7 := bnext b6 b7; clear b6
  go_wp2_with fail
  refine (of_lit 36 _ _ (by omega) l_36).mono ?_
  rintro e w8 ⟨rfl, b8⟩
  have b8 := bnext b7 b8; clear b7
  go_wp2_with fail
  refine (gcd_yes _ _ _ k5.out.1 k6.out.1).mono ?_
  rintro e w9 ⟨rfl, b9⟩
  rw [k5.out.2, k6.out.2, show Nat.gcd 84 36 = 12 by decide, l_12]
  have b9 := bnext b8 b9; clear b8
  go_wp2_with fail
  refine (of_lit 99 _ _ (by omega) l_99).mono ?_
  rintro e w10 ⟨rfl, b10⟩
  have b10 := bnext b9 b10; clear b9
  go_wp2_with fail
  refine (sqrt_yes _ _ k7.out.1).mono ?_
  rintro e w11 ⟨rfl, b11⟩
  rw [k7.out.2, m_sq, l_9]
  have b11 := bnext b10 b11; clear b10
  go_wp2_with fail
  refine (of_lit 1 _ _ (by omega) l_1).mono ?_
  rintro e w12 ⟨rfl, b12⟩
  have b12 := bnext b11 b12; clear b11
  go_wp2_with fail
  refine (of_lit 2 _ _ (by omega) l_2).mono ?_
  rintro e w13 ⟨rfl, b13⟩
  have b13 := bnext b12 b13; clear b12
  go_wp2_with fail
  refine (sub_yes _ _ _ k8.out.1 k9.out.1).mono ?_
  rintro e w14 ⟨rfl, b14⟩
  rw [k8.out.2, k9.out.2, m_sub]
  have b14 := bnext b13 b14; clear b13
  go_wp2_with fail
  refine (of_lit 258 _ _ (by omega) l_258).mono ?_
  rintro e w15 ⟨rfl, b15⟩
  have b15 := bnext b14 b15; clear b14
  go_wp2_with fail
  refine (text_yes _ _ k10.out.1).mono ?_
  rintro e w16 ⟨rfl, b16⟩
  rw [k10.out.2, l_t258]
  have b16 := bnext b15 b16; clear b15
  go_wp2_with fail
  refine (of_lit 258 _ _ (by omega) l_258).mono ?_
  rintro e w17 ⟨rfl, b17⟩
  have b17 := bnext b16 b17; clear b16
  go_wp2_with fail
  refine (of_lit 142 _ _ (by omega) l_142).mono ?_
  rintro e w18 ⟨rfl, b18⟩
  have b18 := bnext b17 b18; clear b17
  go_wp2_with fail
  refine (of_lit 6 _ _ (by omega) l_6).mono ?_
  rintro e w19 ⟨rfl, b19⟩
  have b19 := bnext b18 b19; clear b18
  go_wp2_with fail
  refine (of_lit 12 _ _ (by omega) l_12).mono ?_
  rintro e w20 ⟨rfl, b20⟩
  have b20 := bnext b19 b20; clear b19
  go_wp2_with fail
  refine (of_lit 9 _ _ (by omega) l_9).mono ?_
  rintro e w21 ⟨rfl, b21⟩
  have b21 := bnext b20 b21; clear b20
  go_wp2
  go_ret
  exact ⟨rfl, b21⟩
end Go.Proofs.Ythiinmfelkhakaa
