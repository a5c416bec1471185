/-
  Contracts of package integer and of its reference: Of, Small; the reference's From.
-/
import Derived.Test.YtjbcicgbemepbaaGreatDoorInt3
import Derived.Test.YtjbcicgbemepbaaGreatDoorInt8
namespace Go.Proofs.YtjbcicgbemepbaaGreatDoor
open Go.RowKit
set_option linter.unusedVariables false

theorem below1 {w w' : World} {c0 c1 : Value} {t : TypeId} (b : Below (w.alloc (.cells #[c0, c1] t)).heap.size (w.alloc (.cells #[c0, c1] t)) w') : Below w.heap.size w w' :=
  ((Below.refl w.heap.size w).alloc (Nat.le_refl _) _).trans (b.mono (by simp))
set_option maxHeartbeats 400000 in
set_option maxRecDepth 20000 in
theorem iof_neg (m : Nat) (w : World) (h0 : 0 < m) (h : m < 9223372036854775808) :
    Calls Tryz.prog 78 #[.int .i64 (-(m : Int))] w fun e w' => e = .returned (Z (-(m : Int))) ∧ Below w.heap.size w w' := by
  have hn : m < 18446744073709551616 := by omega
  have hz : Z (-(m : Int)) = .agg #[.bool true, .string (E m)] := by
    unfold Z ZG ZS; rw [Int.natAbs_neg, Int.natAbs_natCast]; simp; omega
  rw [hz]; clear hz
  have hl : -(m : Int) < 0 := by omega
  have hw : IntKind.i64.wrap (m : Int) = m := IntWalk.i64_in _ (by omega)
  go_enter Tryz.func78, Tryz.ntmps78
  go_wp2_with fail
  refine (of_any m _ hn).mono ?_; rintro e w' ⟨rfl, b1⟩
  obtain ⟨hc0, hc1, hf0, hf1⟩ := var_after b1
  go_wp2
  refine bodyPost_ret (v := .agg #[.bool true, .string (E m)]) (by simp [results, Tryz.results78, go_sem, hc0, hc1]) rfl ⟨rfl, ?_⟩
  exact bset (below1 b1) (Nat.le_refl _)
set_option maxHeartbeats 400000 in
set_option maxRecDepth 20000 in
theorem iof_min (m : Nat) (w : World) (hm : m = 9223372036854775808) :
    Calls Tryz.prog 78 #[.int .i64 (-(m : Int))] w fun e w' => e = .returned (Z (-(m : Int))) ∧ Below w.heap.size w w' := by
  have hn : m < 18446744073709551616 := by omega
  have hz : Z (-(m : Int)) = .agg #[.bool true, .string (E m)] := by
    unfold Z ZG ZS; rw [Int.natAbs_neg, Int.natAbs_natCast]; simp; omega
  rw [hz]; clear hz
  have hl : -(m : Int) < 0 := by omega
  have HW := Lib.hid (show IntKind.u64.wrap (wrap64 (m : Int)) = m by subst hm; decide +kernel)
  clear hm
  go_enter Tryz.func78, Tryz.ntmps78
  go_wp2_with fail
  rw [HW.out]
  refine (of_any m _ hn).mono ?_; rintro e w' ⟨rfl, b1⟩
  obtain ⟨hc0, hc1, hf0, hf1⟩ := var_after b1
  go_wp2
  refine bodyPost_ret (v := .agg #[.bool true, .string (E m)]) (by simp [results, Tryz.results78, go_sem, hc0, hc1]) rfl ⟨rfl, ?_⟩
  exact bset (below1 b1) (Nat.le_refl _)
theorem iof_any (n : Int) (w : World) (h1 : -9223372036854775808 ≤ n) (h2 : n ≤ 9223372036854775807) :
    Calls Tryz.prog 78 #[.int .i64 n] w fun e w' => e = .returned (Z n) ∧ Below w.heap.size w w' := by
  by_cases h0 : 0 ≤ n
  · obtain ⟨m, rfl⟩ := Int.eq_ofNat_of_zero_le h0
    exact iof_pos m w (by omega)
  · by_cases hm : n = -9223372036854775808
    · subst hm; exact iof_min 9223372036854775808 w rfl
    · obtain ⟨m, hm'⟩ := Int.eq_ofNat_of_zero_le (a := -n) (by omega)
      obtain rfl : n = -(m : Int) := by omega
      exact iof_neg m w (by omega) (by omega)

set_option maxHeartbeats 400000 in
set_option maxRecDepth 20000 in
theorem riof_neg (m : Nat) (w : World) (h : m < 9223372036854775808) :
    Calls Tryz.prog 31 #[.int .i64 (-(m : Int) - 1)] w fun e w' => e = .returned (Z (-(m : Int) - 1)) ∧ Below w.heap.size w w' := by
  have hn : m + 1 < 18446744073709551616 := by omega
  have hz : Z (-(m : Int) - 1) = Z (sg true (m + 1)) := by rw [sg_t]; congr 1; omega
  have hm := fun w => make_n true (m + 1) w
  rw [hz]; clear hz
  obtain ⟨G, S, hc⟩ := Z_code (sg true (m + 1))
  rw [hc] at hm ⊢
  have HM := Lib.hid hm
  clear hm hc
  have hl : -(m : Int) - 1 < 0 := by omega
  have E2 := Lib.hid (show (m : Int) + 1 = (m + 1 : Nat) by omega)
  go_enter Tryz.func31, Tryz.ntmps31
  go_wp2_with fail
  rw [E2.out]
  refine (rof_any (m + 1) _ hn).mono ?_; rintro e w1 ⟨rfl, b1⟩
  obtain ⟨T1, k1⟩ := after1 b1
  go_wp2_with fail
  refine (HM.out _).mono ?_; rintro e w2 ⟨rfl, b2⟩
  have k2 := bnextW k1 b2 k1.size
  have T1 := T1.below b2 rfl
  obtain ⟨q1, q2, q3, q4, q5⟩ := T1
  go_wp2
  refine bodyPost_ret (v := .agg #[.bool G, .string S]) (by simp [results, Tryz.results31, go_sem, q1, q2]) rfl ⟨rfl, ?_⟩
  exact bset k2 (Nat.le_refl _)
set_option maxHeartbeats 400000 in
set_option maxRecDepth 20000 in
theorem riof_pos (m : Nat) (w : World) (h : m < 9223372036854775808) :
    Calls Tryz.prog 31 #[.int .i64 (m : Int)] w fun e w' => e = .returned (Z (m : Int)) ∧ Below w.heap.size w w' := by
  have hn : m < 18446744073709551616 := by omega
  have hz : Z (m : Int) = Z (sg false m) := by rw [sg_f]
  have hm := fun w => make_n false m w
  rw [hz]; clear hz
  obtain ⟨G, S, hc⟩ := Z_code (sg false m)
  rw [hc] at hm ⊢
  have HM := Lib.hid hm
  clear hm hc
  go_enter Tryz.func31, Tryz.ntmps31
  go_wp2_with fail
  refine (rof_any m _ hn).mono ?_; rintro e w1 ⟨rfl, b1⟩
  obtain ⟨T1, k1⟩ := after1 b1
  go_wp2_with fail
  refine (HM.out _).mono ?_; rintro e w2 ⟨rfl, b2⟩
  have k2 := bnextW k1 b2 k1.size
  have T1 := T1.below b2 rfl
  obtain ⟨q1, q2, q3, q4, q5⟩ := T1
  go_wp2
  refine bodyPost_ret (v := .agg #[.bool G, .string S]) (by simp [results, Tryz.results31, go_sem, q1, q2]) rfl ⟨rfl, ?_⟩
  exact bset k2 (Nat.le_refl _)
theorem riof_any (n : Int) (w : World) (h1 : -9223372036854775808 ≤ n) (h2 : n ≤ 9223372036854775807) :
    Calls Tryz.prog 31 #[.int .i64 n] w fun e w' => e = .returned (Z n) ∧ Below w.heap.size w w' := by
  by_cases h0 : 0 ≤ n
  · obtain ⟨m, rfl⟩ := Int.eq_ofNat_of_zero_le h0
    exact riof_pos m w (by omega)
  · obtain ⟨m, hm'⟩ := Int.eq_ofNat_of_zero_le (a := -n - 1) (by omega)
    obtain rfl : n = -(m : Int) - 1 := by omega
    exact riof_neg m w (by omega)

set_option maxHeartbeats 400000 in
set_option maxRecDepth 20000 in
theorem rfrom_yes (s : ByteArray) (w : World) (h : Can s) :
    Calls Tryz.prog 83 #[.string s] w fun e w' => e = .returned (Z (V s : Nat)) ∧ Below w.heap.size w w' := by
  have HC := Lib.hid h
  have hm := fun w => make_s false s w h
  rw [sg_f] at hm
  clear h
  obtain ⟨G, S, hc⟩ := Z_code (V s : Nat)
  rw [hc] at hm ⊢
  have HM := Lib.hid hm
  clear hm hc
  go_enter Tryz.func83, Tryz.ntmps83
  go_wp2_with fail
  refine (rvalid_yes s _ HC.out).mono ?_; rintro e w' ⟨rfl, rfl⟩
  go_wp2_with fail
  refine (HM.out _).mono ?_; rintro e w1 ⟨rfl, b1⟩
  obtain ⟨T1, k1⟩ := after1 b1
  obtain ⟨q1, q2, q3, q4, q5⟩ := T1
  go_wp2
  refine bodyPost_ret (v := .agg #[.bool G, .string S]) (by simp [results, Tryz.results83, go_sem, q1, q2]) rfl ⟨rfl, ?_⟩
  exact bset k1 (Nat.le_refl _)
set_option maxHeartbeats 400000 in
set_option maxRecDepth 20000 in
theorem rfrom_no (s : ByteArray) (w : World) (h : ¬ Can s) :
    Calls Tryz.prog 83 #[.string s] w fun e w' => e = .returned (Z 0) ∧ Below w.heap.size w w' := by
  have HC := Lib.hid h; clear h
  rw [Z_zero]
  go_enter Tryz.func83, Tryz.ntmps83
  go_wp2_with fail
  refine (rvalid_no s _ HC.out).mono ?_; rintro e w' ⟨rfl, rfl⟩
  go_wp2
  refine bodyPost_ret (v := .agg #[.bool false, .string ⟨#[]⟩]) (by simp [results, Tryz.results83, go_sem]) rfl ⟨rfl, ?_⟩
  exact (Below.refl _ _).alloc (Nat.le_refl _) _

theorem ret_ib {a b : Int} {c : Bool} (h : a = b) : Ending.returned (.tuple #[.int .i64 a, .bool c]) = .returned (.tuple #[.int .i64 b, .bool c]) := by rw [h]
theorem small_of {g : Bool} {s : ByteArray} (h : IVal g s) (h1 : -9223372036854775808 ≤ IZ g s) (h2 : IZ g s ≤ 9223372036854775807) : SmallC s := by
  refine ⟨h.1, ?_⟩
  have hv : V s ≤ 9223372036854775808 := by
    have := sg_natAbs g (V s)
    unfold IZ at h1 h2
    omega
  have := E_V h.1
  rw [← this]
  exact E_size_le.2 (by have : (256 : Nat) ^ 8 = 18446744073709551616 := by decide
                        omega)
theorem smallC_can {s : ByteArray} (h : SmallC s) : Can s := h.1

end Go.Proofs.YtjbcicgbemepbaaGreatDoor
