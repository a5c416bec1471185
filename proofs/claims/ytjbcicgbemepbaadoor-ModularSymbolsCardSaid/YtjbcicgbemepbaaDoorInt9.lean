/-
  Contracts of package integer and of its reference: Of, Small; the reference's From.
-/
import Derived.Test.YtjbcicgbemepbaaDoorInt3
import Derived.Test.YtjbcicgbemepbaaDoorInt8
namespace Go.Proofs.YtjbcicgbemepbaaDoor
open Go.RowKit
set_option linter.unusedVariables false

theorem below1 {w w' : World} {c0 c1 : Value} {t : TypeId} (b : Below (w.alloc (.cells #[c0, c1] t)).heap.size (w.alloc (.cells #[c0, c1] t)) w') : Below w.heap.size w w' :=
  ((Below.refl w.heap.size w).alloc (Nat.le_refl _) _).trans (b.mono (by simp))
set_option maxHeartbeats 400000 in
set_option maxRecDepth 20000 in
theorem iof_neg (m : Nat) (w : World) (h0 : 0 < m) (h : m < 9223372036854775808) :
    Calls Tryd.prog 42 #[.int .i64 (-(m : Int))] w fun e w' => e = .returned (Z (-(m : Int))) ∧ Below w.heap.size w w' := by
  have hn : m < 18446744073709551616 := by omega
  have hz : Z (-(m : Int)) = .agg #[.bool true, .string (E m)] := by
    unfold Z ZG ZS; rw [Int.natAbs_neg, Int.natAbs_natCast]; simp; omega
  rw [hz]; clear hz
  have hl : -(m : Int) < 0 := by omega
  have hw : IntKind.i64.wrap (m : Int) = m := IntWalk.i64_in _ (by omega)
  go_enter Tryd.func42, Tryd.ntmps42
  go_wp2_with fail
  refine (of_any m _ hn).mono ?_; rintro e w' ⟨rfl, b1⟩
  obtain ⟨hc0, hc1, hf0, hf1⟩ := var_after b1
  go_wp2
  refine bodyPost_ret (v := .agg #[.bool true, .string (E m)]) (by simp [results, Tryd.results42, go_sem, hc0, hc1]) rfl ⟨rfl, ?_⟩
  exact bset (below1 b1) (Nat.le_refl _)
set_option maxHeartbeats 400000 in
set_option maxRecDepth 20000 in
theorem iof_min (m : Nat) (w : World) (hm : m = 9223372036854775808) :
    Calls Tryd.prog 42 #[.int .i64 (-(m : Int))] w fun e w' => e = .returned (Z (-(m : Int))) ∧ Below w.heap.size w w' := by
  have hn : m < 18446744073709551616 := by omega
  have hz : Z (-(m : Int)) = .agg #[.bool true, .string (E m)] := by
    unfold Z ZG ZS; rw [Int.natAbs_neg, Int.natAbs_natCast]; simp; omega
  rw [hz]; clear hz
  have hl : -(m : Int) < 0 := by omega
  have HW := Lib.hid (show IntKind.u64.wrap (wrap64 (m : Int)) = m by subst hm; decide +kernel)
  clear hm
  go_enter Tryd.func42, Tryd.ntmps42
  go_wp2_with fail
  rw [HW.out]
  refine (of_any m _ hn).mono ?_; rintro e w' ⟨rfl, b1⟩
  obtain ⟨hc0, hc1, hf0, hf1⟩ := var_after b1
  go_wp2
  refine bodyPost_ret (v := .agg #[.bool true, .string (E m)]) (by simp [results, Tryd.results42, go_sem, hc0, hc1]) rfl ⟨rfl, ?_⟩
  exact bset (below1 b1) (Nat.le_refl _)
theorem iof_any (n : Int) (w : World) (h1 : -9223372036854775808 ≤ n) (h2 : n ≤ 9223372036854775807) :
    Calls Tryd.prog 42 #[.int .i64 n] w fun e w' => e = .returned (Z n) ∧ Below w.heap.size w w' := by
  by_cases h0 : 0 ≤ n
  · obtain ⟨m, rfl⟩ := Int.eq_ofNat_of_zero_le h0
    exact iof_pos m w (by omega)
  · by_cases hm : n = -9223372036854775808
    · subst hm; exact iof_min 9223372036854775808 w rfl
    · obtain ⟨m, hm'⟩ := Int.eq_ofNat_of_zero_le (a := -n) (by omega)
      obtain rfl : n = -(m : Int) := by omega
      exact iof_neg m w (by omega) (by omega)

theorem ret_ib {a b : Int} {c : Bool} (h : a = b) : Ending.returned (.tuple #[.int .i64 a, .bool c]) = .returned (.tuple #[.int .i64 b, .bool c]) := by rw [h]
theorem small_of {g : Bool} {s : ByteArray} (h : IVal g s) (h1 : -9223372036854775808 ≤ IZ g s) (h2 : IZ g s ≤ 9223372036854775807) : SmallC s := by
  refine ⟨h.1, ?_⟩
  have hv : V s ≤ 9223372036854775808 := by
    have := sg_natAbs g (V s)
    unfold IZ at h1 h2
    omega
  have := E_V h.1
  rw [← this]
  exact E_size_le.2 (by have : (256 : Nat) ^ 8 = 18446744073709551616 := by decide
                        omega)
theorem smallC_can {s : ByteArray} (h : SmallC s) : Can s := h.1

end Go.Proofs.YtjbcicgbemepbaaDoor
