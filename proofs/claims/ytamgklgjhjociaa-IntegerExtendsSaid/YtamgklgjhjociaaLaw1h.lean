/-
  The walk of NaturalTexts.
-/
import Derived.Test.YtamgklgjhjociaaLaw1g
namespace Go.Proofs.Ytamgklgjhjociaa
open Go.RowKit
set_option linter.unusedVariables false

theorem dig_byte {d : Nat} (h : d < 10) : (UInt8.ofNat (48 + d)).toNat = 48 + d := by
  have := ofNat_mod_toNat (48 + d)
  rwa [Nat.mod_eq_of_lt (by omega)] at this
theorem dval_go (l : List UInt8) : ∀ a, l.foldl (fun n c => n * 10 + (c.toNat - 48)) a = a * 10 ^ l.length + dval l := by
  induction l with
  | nil => intro a; simp [dval]
  | cons c l ih =>
    intro a
    have e : dval (c :: l) = (0 * 10 + (c.toNat - 48)) * 10 ^ l.length + dval l := ih _
    rw [List.foldl_cons, ih, e, List.length_cons, Nat.pow_succ, Nat.zero_mul, Nat.zero_add, Nat.add_mul, Nat.mul_assoc, Nat.mul_comm 10]
    omega
theorem dval_cons (c : UInt8) (l : List UInt8) : dval (c :: l) = (c.toNat - 48) * 10 ^ l.length + dval l := by
  have := dval_go l (0 * 10 + (c.toNat - 48))
  rw [Nat.zero_mul, Nat.zero_add] at this
  rw [← this]
  unfold dval
  rw [List.foldl_cons, Nat.zero_mul, Nat.zero_add]
theorem dval_low (n : Nat) : ∀ k, dval (lowT n k) = n % 10 ^ k
  | 0 => by rw [Nat.pow_zero, Nat.mod_one]; rfl
  | k + 1 => by
    rw [lowT_succ, dval_cons, lowT_len, dig_byte (dd_lt n k), dval_low n k, Nat.pow_succ, Nat.mod_mul, Nat.mul_comm (10 ^ k)]
    show (48 + dd n k - 48) * 10 ^ k + _ = _ + dd n k * 10 ^ k
    rw [Nat.add_sub_cancel_left]; omega
theorem T_list {n : Nat} (h : n ≠ 0) : (T n).data.toList = lowT n (ndec n) := by rw [T_low h]
theorem T_size {n : Nat} (h : n ≠ 0) : (T n).size = ndec n := by rw [size_eq, T_list h, lowT_len]
theorem T_get {n : Nat} (h : n ≠ 0) (i : Nat) (hi : i < (T n).size) : ((T n)[i]'hi).toNat = 48 + dd n (ndec n - 1 - i) := by
  rw [get_eq]
  have e : ∀ (l : List UInt8) (hl : l = lowT n (ndec n)) (q : i < l.length), (l[i]'q).toNat = 48 + dd n (ndec n - 1 - i) := by
    intro l hl q
    subst hl
    simp only [lowT, List.getElem_map, List.getElem_range]
    exact dig_byte (dd_lt _ _)
  exact e _ (T_list h) _
theorem T_zero : T 0 = ⟨#[48]⟩ := rfl
theorem T_dec (n : Nat) : DecS (T n) := by
  by_cases h : n = 0
  · subst h
    rw [T_zero]
    refine ⟨fun i hi => ?_, by decide, fun _ _ => rfl⟩
    have : i = 0 := by have : i < 1 := hi; omega
    subst this
    show (48 : Nat) ≤ 48 ∧ (48 : Nat) ≤ 57
    omega
  · have hp := ndec_lo (n := n) (by omega)
    refine ⟨fun i hi => ?_, by rw [T_size h]; exact hp.2, fun h0 h48 => ?_⟩
    · rw [T_get h]
      have := dd_lt n (ndec n - 1 - i)
      omega
    · rw [T_get h] at h48
      have := dd_top (n := n) (by omega)
      rw [Nat.sub_zero] at h48
      omega
theorem T_pv (n : Nat) : pv (T n) (T n).size = n := by
  by_cases h : n = 0
  · subst h; rfl
  · unfold pv
    rw [T_list h, T_size h, List.take_of_length_le (by rw [lowT_len]; exact Nat.le_refl _), dval_low, Nat.mod_eq_of_lt (ndec_hi n)]
theorem T_small {n : Nat} (h : n < Lim) : (T n).size ≤ 1000 := by
  by_cases h0 : n = 0
  · subst h0; decide
  · rw [T_size h0]; have := ndec_lim h; omega
theorem l_bne (b : ByteArray) : (b.toList != b.toList) = false := by simp
theorem i_bne (a : Int) : (a != a) = false := by simp

end Go.Proofs.Ytamgklgjhjociaa
