/-
  Layer 3's statements: the chapter's examples.
-/
import Derived.Test.YtjbcicgbemepbaaGreatDoorMC
import Derived.Test.YtjbcicgbemepbaaGreatDoorMD
import Derived.Test.YtjbcicgbemepbaaGreatDoorRef1
namespace Go.Proofs.YtjbcicgbemepbaaGreatDoor
open Go.RowKit
set_option linter.unusedVariables false

set_option maxHeartbeats 400000 in
theorem num3 (n : Nat) (w : World) (hn : n < 18446744073709551616) :
    Calls Tryz.prog 25 #[.int .u64 n] w fun e w' => e = .returned (.string (E n)) ∧ Below w.heap.size w w' := by
  go_enter Tryz.func25, Tryz.ntmps25
  go_wp2_with fail
  refine (rof_any n _ hn).mono ?_
  rintro e w1 ⟨rfl, b1⟩
  go_wp2
  go_ret
  exact ⟨rfl, b1⟩
theorem cs (n : Nat) (h : n < 18446744073709551616) : Can (E n) := can_E' (small_lim h)
theorem cp (n : Nat) (h : n ≠ 0) : 0 < (E n).size := Nat.pos_of_ne_zero (E_size_ne h)
theorem ex3_sub (w : World) : Calls Tryz.prog 14 #[.string (E 2), .string (E 5), .string (E 7)] w fun e w' => e = .returned (.tuple #[.string (E 4), .int .i64 0]) ∧ Below w.heap.size w w' := by
  have h := msub_ok (E 2) (E 5) (E 7) w (cs 2 (by omega)) (cs 5 (by omega)) (cs 7 (by omega)) (cp 7 (by omega))
  rw [V_E, V_E, V_E, show subM 2 5 7 = 4 by decide] at h
  exact h
theorem ex3_exp (w : World) : Calls Tryz.prog 18 #[.string (E 3), .string (E 4), .string (E 7)] w fun e w' => e = .returned (.tuple #[.string (E 4), .int .i64 0]) ∧ Below w.heap.size w w' := by
  have h := mexp_ok (E 3) (E 4) (E 7) w (cs 3 (by omega)) (cs 4 (by omega)) (cs 7 (by omega)) (cp 7 (by omega))
  rw [V_E, V_E, V_E, show 3 ^ 4 % 7 = 4 by decide] at h
  exact h
theorem ex3_inv (w : World) : Calls Tryz.prog 22 #[.string (E 10), .string (E 7)] w fun e w' => e = .returned (.tuple #[.string (E 5), .int .i64 0]) ∧ Below w.heap.size w w' := by
  have h := minv_yes (E 10) (E 7) w (cs 10 (by omega)) (cs 7 (by omega)) (cp 7 (by omega)) (by rw [V_E, V_E]; decide)
  rw [V_E, V_E] at h
  refine h.mono ?_
  rintro e w' ⟨⟨x, rfl, h1, h2⟩, hb⟩
  have : x = 5 := by
    have : x = 0 ∨ x = 1 ∨ x = 2 ∨ x = 3 ∨ x = 4 ∨ x = 5 ∨ x = 6 := by omega
    rcases this with rfl | rfl | rfl | rfl | rfl | rfl | rfl <;> first | rfl | (exact absurd h2 (by decide))
  subst this
  exact ⟨rfl, hb⟩
theorem ex3_join (w : World) : Calls Tryz.prog 26 #[.string (E 1), .string (E 4), .string (E 3), .string (E 6)] w fun e w' => e = .returned (.tuple #[.string (E 9), .string (E 12), .int .i64 0]) ∧ Below w.heap.size w w' := by
  have h := mjoin_ok (E 1) (E 4) (E 3) (E 6) w (cs 1 (by omega)) (cs 4 (by omega)) (cs 3 (by omega)) (cs 6 (by omega)) (cp 4 (by omega)) (cp 6 (by omega)) (by simp only [V_E]; decide) (by simp only [V_E]; exact small_lim (n := 12) (by omega))
  refine h.mono ?_
  rintro e w' ⟨⟨x, rfl, h1, h2, h3⟩, hb⟩
  simp only [V_E] at h1 h2 h3 ⊢
  rw [show 4 * (6 / Nat.gcd 4 6) = 12 by decide] at h3 ⊢
  have : x = 9 := by omega
  subst this
  exact ⟨rfl, hb⟩
theorem ex3_none (w : World) : Calls Tryz.prog 26 #[.string (E 1), .string (E 4), .string (E 2), .string (E 6)] w fun e w' => e = .returned (.tuple #[.string ⟨#[]⟩, .string ⟨#[]⟩, .int .i64 9]) ∧ Below w.heap.size w w' :=
  mjoin_none (E 1) (E 4) (E 2) (E 6) w (cs 1 (by omega)) (cs 4 (by omega)) (cs 2 (by omega)) (cs 6 (by omega)) (cp 4 (by omega)) (cp 6 (by omega)) (by simp only [V_E]; decide)
theorem ex3_jac (w : World) : Calls Tryz.prog 28 #[.string (E 2), .string (E 5)] w fun e w' => e = .returned (.tuple #[.int .i64 (-1), .int .i64 0]) ∧ Below w.heap.size w w' := by
  have h := mjac_ok (E 2) (E 5) w (cs 2 (by omega)) (cs 5 (by omega)) (cp 5 (by omega)) (by rw [V_E])
  rw [V_E, V_E] at h
  have ht : twos 5 1 2 = (1, -1) := by
    rw [twos_step (by omega) (by omega)]
    rw [show flip2 5 1 = -1 by decide, show 2 / 2 = 1 from rfl]
    exact twos_odd (by omega)
  have e : jacN (2 % 5) 5 1 = -1 := by
    rw [show 2 % 5 = 2 from rfl, jacN_step (by omega) ht, show flip4 1 5 (-1) = -1 by decide, show 5 % 1 = 0 from rfl, jacN_zero]
    rfl
  rw [e] at h
  exact h

set_option maxHeartbeats 2000000 in
set_option maxRecDepth 20000 in
theorem awake3 (w : World) : Calls Tryz.prog 11 #[] w fun e w' => e = .returned (.bool true) ∧ Below w.heap.size w w' := by
  go_enter Tryz.func11, Tryz.ntmps11
  go_wp2_with fail
  refine (num3 2 _ (by omega)).mono ?_; rintro e w1 ⟨rfl, b1⟩
  have B1 := Lib.hid b1; clear b1
  go_wp2_with fail
  refine (num3 5 _ (by omega)).mono ?_; rintro e w2 ⟨rfl, b2⟩
  have B2 := Lib.hid (bnext B1.out b2); clear b2 B1
  go_wp2_with fail
  refine (num3 7 _ (by omega)).mono ?_; rintro e w3 ⟨rfl, b3⟩
  have B3 := Lib.hid (bnext B2.out b3); clear b3 B2
  go_wp2_with fail
  refine (ex3_sub _).mono ?_; rintro e w4 ⟨rfl, b4⟩
  have B4 := Lib.hid (bnext B3.out b4); clear b4 B3
  go_wp2_with fail
  refine (num3 3 _ (by omega)).mono ?_; rintro e w5 ⟨rfl, b5⟩
  have B5 := Lib.hid (bnext B4.out b5); clear b5 B4
  go_wp2_with fail
  refine (num3 4 _ (by omega)).mono ?_; rintro e w6 ⟨rfl, b6⟩
  have B6 := Lib.hid (bnext B5.out b6); clear b6 B5
  go_wp2_with fail
  refine (num3 7 _ (by omega)).mono ?_; rintro e w7 ⟨rfl, b7⟩
  have B7 := Lib.hid (bnext B6.out b7); clear b7 B6
  go_wp2_with fail
  refine (ex3_exp _).mono ?_; rintro e w8 ⟨rfl, b8⟩
  have B8 := Lib.hid (bnext B7.out b8); clear b8 B7
  go_wp2_with fail
  refine (num3 10 _ (by omega)).mono ?_; rintro e w9 ⟨rfl, b9⟩
  have B9 := Lib.hid (bnext B8.out b9); clear b9 B8
  go_wp2_with fail
  refine (num3 7 _ (by omega)).mono ?_; rintro e w10 ⟨rfl, b10⟩
  have B10 := Lib.hid (bnext B9.out b10); clear b10 B9
  go_wp2_with fail
  refine (ex3_inv _).mono ?_; rintro e w11 ⟨rfl, b11⟩
  have B11 := Lib.hid (bnext B10.out b11); clear b11 B10
  go_wp2_with fail
  refine (num3 1 _ (by omega)).mono ?_; rintro e w12 ⟨rfl, b12⟩
  have B12 := Lib.hid (bnext B11.out b12); clear b12 B11
  go_wp2_with fail
  refine (num3 4 _ (by omega)).mono ?_; rintro e w13 ⟨rfl, b13⟩
  have B13 := Lib.hid (bnext B12.out b13); clear b13 B12
  go_wp2_with fail
  refine (num3 3 _ (by omega)).mono ?_; rintro e w14 ⟨rfl, b14⟩
  have B14 := Lib.hid (bnext B13.out b14); clear b14 B13
  go_wp2_with fail
  refine (num3 6 _ (by omega)).mono ?_; rintro e w15 ⟨rfl, b15⟩
  have B15 := Lib.hid (bnext B14.out b15); clear b15 B14
  go_wp2_with fail
  refine (ex3_join _).mono ?_; rintro e w16 ⟨rfl, b16⟩
  have B16 := Lib.hid (bnext B15.out b16); clear b16 B15
  go_wp2_with fail
  refine (num3 1 _ (by omega)).mono ?_; rintro e w17 ⟨rfl, b17⟩
  have B17 := Lib.hid (bnext B16.out b17); clear b17 B16
  go_wp2_with fail
  refine (num3 4 _ (by omega)).mono ?_; rintro e w18 ⟨rfl, b18⟩
  have B18 := Lib.hid (bnext B17.out b18); clear b18 B17
  go_wp2_with fail
  refine (num3 2 _ (by omega)).mono ?_; rintro e w19 ⟨rfl, b19⟩
  have B19 := Lib.hid (bnext B18.out b19); clear b19 B18
  go_wp2_with fail
  refine (num3 6 _ (by omega)).mono ?_; rintro e w20 ⟨rfl, b20⟩
  have B20 := Lib.hid (bnext B19.out b20); clear b20 B19
  go_wp2_with fail
  refine (ex3_none _).mono ?_; rintro e w21 ⟨rfl, b21⟩
  have B21 := Lib.hid (bnext B20.out b21); clear b21 B20
  go_wp2_with fail
  refine (num3 2 _ (by omega)).mono ?_; rintro e w22 ⟨rfl, b22⟩
  have B22 := Lib.hid (bnext B21.out b22); clear b22 B21
  go_wp2_with fail
  refine (num3 5 _ (by omega)).mono ?_; rintro e w23 ⟨rfl, b23⟩
  have B23 := Lib.hid (bnext B22.out b23); clear b23 B22
  go_wp2_with fail
  refine (ex3_jac _).mono ?_; rintro e w24 ⟨rfl, b24⟩
  have B24 := Lib.hid (bnext B23.out b24); clear b24 B23
  go_wp2_with fail
  refine (num3 4 _ (by omega)).mono ?_; rintro e w25 ⟨rfl, b25⟩
  have B25 := Lib.hid (bnext B24.out b25); clear b25 B24
  go_wp2_with fail
  refine (num3 4 _ (by omega)).mono ?_; rintro e w26 ⟨rfl, b26⟩
  have B26 := Lib.hid (bnext B25.out b26); clear b26 B25
  go_wp2_with fail
  refine (num3 5 _ (by omega)).mono ?_; rintro e w27 ⟨rfl, b27⟩
  have B27 := Lib.hid (bnext B26.out b27); clear b27 B26
  go_wp2_with fail
  refine (num3 9 _ (by omega)).mono ?_; rintro e w28 ⟨rfl, b28⟩
  have B28 := Lib.hid (bnext B27.out b28); clear b28 B27
  go_wp2_with fail
  refine (num3 12 _ (by omega)).mono ?_; rintro e w29 ⟨rfl, b29⟩
  have B29 := Lib.hid (bnext B28.out b29); clear b29 B28
  go_wp2
  go_ret
  exact ⟨rfl, B29.out⟩
end Go.Proofs.YtjbcicgbemepbaaGreatDoor
