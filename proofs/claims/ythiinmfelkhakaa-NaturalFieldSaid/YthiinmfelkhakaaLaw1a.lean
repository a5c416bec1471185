/-
  The walks of the statements of layer 1 that name no reference.
-/
import Derived.Test.YthiinmfelkhakaaAwake1
import Derived.OpenShut
namespace Go.Proofs.Ythiinmfelkhakaa
open Go.RowKit
set_option linter.unusedVariables false

theorem E_beq_yes (n : Nat) : ((E n).toList == (E n).toList) = true := by simp
theorem E_beq_no {n m : Nat} (h : n ≠ m) : ((E n).toList == (E m).toList) = false := by
  rw [beq_eq_false_iff_ne]
  intro e
  rw [ByteArray.toList_eq, ByteArray.toList_eq, E_data, E_data] at e
  exact h (enc_inj e)
theorem small_E {n : Nat} (h : n < 18446744073709551616) : SmallC (E n) :=
  ⟨can_E' (small_lim h), by rw [E_size_le]; omega⟩
theorem sgn_lt {a b : Nat} (h : a < b) : sgn a b = -1 := by unfold sgn; rw [if_pos h]
theorem sgn_gt {a b : Nat} (h : b < a) : sgn a b = 1 := by unfold sgn; rw [if_neg (by omega), if_pos h]
theorem sgn_eq (a : Nat) : sgn a a = 0 := by unfold sgn; rw [if_neg (by omega), if_neg (by omega)]

set_option maxHeartbeats 2000000 in
set_option maxRecDepth 20000 in
theorem naturalWrites_walk (n m : Nat) (w : World) (hn : n < 18446744073709551616) (hm : m < 18446744073709551616) :
    Calls Try.prog 4 #[.int .u64 n, .int .u64 m] w fun e w' => e = .returned (.bool true) ∧ Below w.heap.size w w' := by
  have hsn := small_E hn
  have hsm := small_E hm
  have HSN := Lib.hid hsn; clear hsn
  have HSM := Lib.hid hsm; clear hsm
  have hyes := fun n => E_beq_yes n
  have HYES := Lib.hid hyes; clear hyes
  rcases Nat.lt_trichotomy n m with h | h | h
  · have hs := Lib.hid (sgn_lt h)
    have hb := E_beq_no (show n ≠ m by omega)
    have e1 : ((n : Int) == (m : Int)) = false := by rw [beq_eq_false_iff_ne]; omega
    go_enter Try.func4, Try.ntmps4
    go_wp2_with fail
    refine (of_any n _ hn).mono ?_
    rintro e w1 ⟨rfl, b1⟩
    go_wp2_with fail
    refine (of_any m _ hm).mono ?_
    rintro e w2 ⟨rfl, b2⟩
    have b2 := bnext b1 b2; clear b1
    go_wp2_with fail
    refine (small_yes (E n) _ HSN.out).mono ?_
    rintro e w3 ⟨rfl, rfl⟩
    rw [V_E]
    go_wp2_with fail
    refine (awake1 _).mono ?_
    rintro e w3 ⟨rfl, b3⟩
    have b3 := bnext b2 b3; clear b2
    go_wp2_with fail
    refine (valid_yes _ _ HSN.out.1).mono ?_
    rintro e w4 ⟨rfl, rfl⟩
    go_wp2_with fail
    refine (cmp_yes _ _ _ HSN.out.1 HSM.out.1).mono ?_
    rintro e w4 ⟨rfl, rfl⟩
    rw [V_E, V_E, hs.out]
    go_wp2
    go_ret
    exact ⟨rfl, b3⟩
  · subst h
    have hb := E_beq_yes n
    have hs := Lib.hid (sgn_eq n)
    go_enter Try.func4, Try.ntmps4
    go_wp2_with fail
    refine (of_any n _ hn).mono ?_
    rintro e w1 ⟨rfl, b1⟩
    go_wp2_with fail
    refine (of_any n _ hm).mono ?_
    rintro e w2 ⟨rfl, b2⟩
    have b2 := bnext b1 b2; clear b1
    go_wp2_with fail
    refine (small_yes (E n) _ HSN.out).mono ?_
    rintro e w3 ⟨rfl, rfl⟩
    rw [V_E]
    go_wp2_with fail
    refine (awake1 _).mono ?_
    rintro e w3 ⟨rfl, b3⟩
    have b3 := bnext b2 b3; clear b2
    go_wp2_with fail
    refine (valid_yes _ _ HSN.out.1).mono ?_
    rintro e w4 ⟨rfl, rfl⟩
    go_wp2_with fail
    refine (cmp_yes _ _ _ HSN.out.1 HSM.out.1).mono ?_
    rintro e w4 ⟨rfl, rfl⟩
    rw [V_E, hs.out]
    go_wp2
    go_ret
    exact ⟨rfl, b3⟩
  · have hs := Lib.hid (sgn_gt h)
    have hb := E_beq_no (show n ≠ m by omega)
    have e1 : ((n : Int) == (m : Int)) = false := by rw [beq_eq_false_iff_ne]; omega
    go_enter Try.func4, Try.ntmps4
    go_wp2_with fail
    refine (of_any n _ hn).mono ?_
    rintro e w1 ⟨rfl, b1⟩
    go_wp2_with fail
    refine (of_any m _ hm).mono ?_
    rintro e w2 ⟨rfl, b2⟩
    have b2 := bnext b1 b2; clear b1
    go_wp2_with fail
    refine (small_yes (E n) _ HSN.out).mono ?_
    rintro e w3 ⟨rfl, rfl⟩
    rw [V_E]
    go_wp2_with fail
    refine (awake1 _).mono ?_
    rintro e w3 ⟨rfl, b3⟩
    have b3 := bnext b2 b3; clear b2
    go_wp2_with fail
    refine (valid_yes _ _ HSN.out.1).mono ?_
    rintro e w4 ⟨rfl, rfl⟩
    go_wp2_with fail
    refine (cmp_yes _ _ _ HSN.out.1 HSM.out.1).mono ?_
    rintro e w4 ⟨rfl, rfl⟩
    rw [V_E, V_E, hs.out]
    go_wp2
    go_ret
    exact ⟨rfl, b3⟩

theorem law_NaturalWrites (a0 a1 : Int) (w0 : (Lit.int .u64 a0).wf = true) (w1 : (Lit.int .u64 a1).wf = true) (w : World) :
    Calls Try.prog 4 #[.int .u64 a0, .int .u64 a1] w fun e w' => e = .returned (.bool true) ∧ Below w.heap.size w w' := by
  have b0 := bounds_u64 w0
  have b1 := bounds_u64 w1
  obtain ⟨n, rfl⟩ := Int.eq_ofNat_of_zero_le b0.1
  obtain ⟨m, rfl⟩ := Int.eq_ofNat_of_zero_le b1.1
  exact naturalWrites_walk n m w (by omega) (by omega)
end Go.Proofs.Ythiinmfelkhakaa
