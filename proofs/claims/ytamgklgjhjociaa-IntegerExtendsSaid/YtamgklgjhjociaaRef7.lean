/-
  Contracts of the reference of layer 1: twos, Sqrt.
-/
import Derived.Test.YtamgklgjhjociaaRef6
namespace Go.Proofs.Ytamgklgjhjociaa
open Go.RowKit
set_option linter.unusedVariables false

/-- What twos' row holds. -/
def tw (k j : Nat) : Nat := if j = 0 then 2 ^ k else 0
theorem two_pow_lt {m : Nat} (h : m < 8) : 2 ^ m < 256 := by
  have : m = 0 ∨ m = 1 ∨ m = 2 ∨ m = 3 ∨ m = 4 ∨ m = 5 ∨ m = 6 ∨ m = 7 := by omega
  rcases this with rfl | rfl | rfl | rfl | rfl | rfl | rfl | rfl <;> decide
theorem tw_dig {p m : Nat} (hm : m < 8) (j : Nat) (hj : j < p + 1) : tw m j = dig (2 ^ (8 * p + m)) (p + 1 - 1 - j) := by
  have e : 2 ^ (8 * p + m) = 256 ^ p * 2 ^ m := by rw [Nat.pow_add, pow256]
  unfold tw
  rw [e]
  by_cases h : j = 0
  · subst h
    rw [if_pos rfl, show p + 1 - 1 - 0 = p by omega]
    unfold dig
    rw [Nat.mul_div_cancel_left _ (p256 p), Nat.mod_eq_of_lt (two_pow_lt hm)]
  · rw [if_neg h]
    have e2 : 256 ^ p = 256 ^ (p + 1 - 1 - j) * (256 * 256 ^ (j - 1)) := by rw [← Nat.pow_succ', ← Nat.pow_add]; congr 1; omega
    rw [e2]
    unfold dig
    rw [dig_none]
theorem tw_bytes {w : World} {g p m : Nat} (hm : m < 8) (h : w.rowIs g 5 (p + 1) (fun j => .int .u8 (tw m j : Nat))) : Bytes w g 0 (beN (p + 1) (2 ^ (8 * p + m))) := by
  refine part_done (t := 5) (World.rowIs.congr h fun j hj => ?_)
  unfold partB
  rw [if_pos (by omega), tw_dig hm j hj]
theorem tw_E {p m : Nat} (hm : m < 8) : (⟨(beN (p + 1) (2 ^ (8 * p + m))).toArray⟩ : ByteArray) = E (2 ^ (8 * p + m)) := by
  have e : 2 ^ (8 * p + m) = 256 ^ p * 2 ^ m := by rw [Nat.pow_add, pow256]
  have hlt : 2 ^ (8 * p + m) < 256 ^ (p + 1) := by
    rw [e, Nat.pow_succ]; exact Nat.mul_lt_mul_of_pos_left (two_pow_lt hm) (p256 p)
  have hpos : 0 < 2 ^ m := Nat.pow_pos (by omega)
  rw [← E_beN hlt]
  congr 2
  refine (strip_can ?_).symm
  have hg := beN_get (p + 1) (2 ^ (8 * p + m)) 0 (by omega)
  rw [show p + 1 - 1 - 0 = p by omega, e, Nat.mul_div_cancel_left _ (p256 p), Nat.mod_eq_of_lt (two_pow_lt hm)] at hg
  rw [← e] at hg
  cases hl : beN (p + 1) (2 ^ (8 * p + m)) with
  | nil => exact can_nil
  | cons c l =>
    rw [hl] at hg
    simp at hg
    intro hc
    have hcz : c = 0 := by simpa using hc
    rw [hcz] at hg
    have h2 := congrArg UInt8.toNat hg
    have h3 : (UInt8.ofNat (2 ^ m)).toNat = 2 ^ m := by
      have := ofNat_mod_toNat (2 ^ m)
      rwa [Nat.mod_eq_of_lt (two_pow_lt hm)] at this
    rw [h3] at h2
    have : (0 : UInt8).toNat = 0 := rfl
    omega

theorem sq_top {n k : Nat} (h : isq n < 2 ^ k) : isq n / 2 ^ k * 2 ^ k = 0 := by rw [Nat.div_eq_of_lt h, Nat.zero_mul]
/-- The square root's digits above k. -/
def sk (n k : Nat) : Nat := isq n / 2 ^ k * 2 ^ k
theorem sk_zero (n : Nat) : sk n 0 = isq n := by unfold sk; rw [Nat.pow_zero, Nat.div_one, Nat.mul_one]
theorem sk_le (n k : Nat) : sk n k ≤ isq n := Nat.div_mul_le_self _ _
theorem sk_step (n i : Nat) : ((sk n (i + 1) + 2 ^ i) * (sk n (i + 1) + 2 ^ i) ≤ n → sk n i = sk n (i + 1) + 2 ^ i) ∧ (¬ (sk n (i + 1) + 2 ^ i) * (sk n (i + 1) + 2 ^ i) ≤ n → sk n i = sk n (i + 1)) := by
  have hp : 0 < 2 ^ i := Nat.pow_pos (by omega)
  have e : sk n (i + 1) = isq n / 2 ^ i / 2 * 2 * 2 ^ i := by
    unfold sk
    rw [Nat.pow_succ, ← Nat.div_div_eq_div_mul, Nat.mul_comm (2 ^ i) 2, Nat.mul_assoc]
  have e2 : sk n i = isq n / 2 ^ i * 2 ^ i := rfl
  have hle : ∀ y, y * y ≤ n ↔ y ≤ isq n := fun y => ⟨le_isq, fun h => Nat.le_trans (Nat.mul_le_mul h h) (isq_spec n).1⟩
  rw [hle, e, e2]
  have hdiv : ∀ q, q * 2 ^ i ≤ isq n ↔ q ≤ isq n / 2 ^ i := fun q => (Nat.le_div_iff_mul_le hp).symm
  have e3 : isq n / 2 ^ i / 2 * 2 * 2 ^ i + 2 ^ i = (isq n / 2 ^ i / 2 * 2 + 1) * 2 ^ i := by rw [Nat.add_mul, Nat.one_mul]
  rw [e3, hdiv]
  generalize isq n / 2 ^ i = u
  constructor
  · intro h
    have : u = u / 2 * 2 + 1 := by omega
    rw [← this]
  · intro h
    have : u = u / 2 * 2 := by omega
    rw [← this]
theorem sq_start {n : Nat} (hn : n < Lim) : sk n ((nbits n + 1) / 2 + 1) = 0 ∧ (nbits n + 1) / 2 ≤ 512 ∧ isq n ≤ 2 ^ ((nbits n + 1) / 2) := by
  rcases Nat.eq_zero_or_pos n with rfl | h0
  · refine ⟨?_, by decide, by decide⟩
    have : isq 0 = 0 := rfl
    unfold sk; rw [this, Nat.zero_div, Nat.zero_mul]
  · have h := first_guess hn h0
    refine ⟨?_, by omega, h.1⟩
    apply sq_top
    have : 2 ^ ((nbits n + 1) / 2) < 2 ^ ((nbits n + 1) / 2 + 1) := Nat.pow_lt_pow_right (by omega) (by omega)
    omega
theorem sq_size {n i c : Nat} (hc : c ≤ 512) (hi : i ≤ c) (hs : isq n ≤ 2 ^ c) (k : Nat) : sk n k + 2 ^ i < 256 ^ 65 := by
  have h1 := Nat.le_trans (sk_le n k) hs
  have h2 : 2 ^ i ≤ 2 ^ c := Nat.pow_le_pow_right (by omega) hi
  have h3 : 2 ^ (c + 2) ≤ 256 ^ 65 := pow_le_bytes (by omega)
  have h4 : 0 < 2 ^ c := Nat.pow_pos (by omega)
  have h5 : 2 ^ (c + 2) = 4 * 2 ^ c := by rw [Nat.pow_add, Nat.mul_comm]
  omega

end Go.Proofs.Ytamgklgjhjociaa
