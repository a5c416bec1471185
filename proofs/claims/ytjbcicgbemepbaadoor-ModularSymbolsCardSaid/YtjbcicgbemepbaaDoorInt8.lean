/-
  Contracts of package integer and of its reference: DivMod.
-/
import Derived.Test.YtjbcicgbemepbaaDoorInt7
namespace Go.Proofs.YtjbcicgbemepbaaDoor
open Go.RowKit
set_option linter.unusedVariables false

/-- A quotient and a remainder, or ErrZero. -/
def zdivN (a b : Int) : Value := if b = 0 then .tuple #[Z 0, .string (E 0), .int .i64 11] else .tuple #[Z (a / b), .string (E (a % b).toNat), .int .i64 0]
theorem zdivN_zero (a : Int) : zdivN a 0 = .tuple #[Z 0, .string (E 0), .int .i64 11] := by unfold zdivN; rw [if_pos rfl]
theorem zdivN_code (a b : Int) : ∃ (g : Bool) (s t : ByteArray) (v : Int), zdivN a b = .tuple #[.agg #[.bool g, .string s], .string t, .int .i64 v] := by
  unfold zdivN; split
  · exact ⟨_, _, _, _, rfl⟩
  · exact ⟨_, _, _, _, rfl⟩
theorem euclid {a b q r : Int} (hb : b ≠ 0) (h : a = q * b + r) (h0 : 0 ≤ r) (h1 : r < b.natAbs) : a / b = q ∧ a % b = r := by
  rcases Int.lt_or_lt_of_ne hb with hn | hp
  · have := (Int.ediv_emod_unique (a := a) (b := -b) (r := r) (q := -q) (by omega)).2 ⟨by rw [Int.neg_mul_neg, h, Int.mul_comm]; omega, h0, by omega⟩
    rw [Int.ediv_neg, Int.emod_neg] at this
    omega
  · exact (Int.ediv_emod_unique hp).2 ⟨by rw [h, Int.mul_comm]; omega, h0, by omega⟩
theorem sg_ne (g : Bool) {n : Nat} (h : n ≠ 0) : sg g n ≠ 0 := by cases g <;> simp [sg] <;> omega
theorem sg_div (g1 g2 : Bool) (m n : Nat) (hn : n ≠ 0) (hc : g1 = false ∨ m % n = 0) : sg g1 m / sg g2 n = sg (g1 != g2) (m / n) ∧ sg g1 m % sg g2 n = (m % n : Nat) := by
  have e : (m : Int) = n * (m / n : Nat) + (m % n : Nat) := by exact_mod_cast (Nat.div_add_mod m n).symm
  have l : m % n < n := Nat.mod_lt _ (by omega)
  refine euclid (sg_ne g2 hn) ?_ (by omega) (by rw [sg_natAbs]; omega)
  have hc' : g1 = false ∨ ((m % n : Nat) : Int) = 0 := by rcases hc with q | q; exact .inl q; exact .inr (by rw [q]; rfl)
  generalize ((m % n : Nat) : Int) = r at *
  generalize (m / n : Nat) = q at *
  have e' : (m : Int) = q * n + r := by rw [Int.mul_comm]; exact e
  clear e hc
  cases g1 <;> cases g2
  · exact e'
  · show (m : Int) = -(q : Int) * -(n : Int) + r
    rw [Int.neg_mul_neg]; exact e'
  · rcases hc' with h | h
    · cases h
    · show -(m : Int) = -(q : Int) * (n : Int) + r
      rw [Int.neg_mul]; omega
  · rcases hc' with h | h
    · cases h
    · show -(m : Int) = (q : Int) * -(n : Int) + r
      rw [Int.mul_neg]; omega
theorem sg_div' (g2 : Bool) (m n : Nat) (hn : n ≠ 0) (hc : m % n ≠ 0) : sg true m / sg g2 n = sg (true != g2) (m / n + 1) ∧ sg true m % sg g2 n = (n - m % n : Nat) := by
  have e : (m : Int) = n * (m / n : Nat) + (m % n : Nat) := by exact_mod_cast (Nat.div_add_mod m n).symm
  have l : m % n < n := Nat.mod_lt _ (by omega)
  have e2 : ((n - m % n : Nat) : Int) = n - (m % n : Nat) := by omega
  refine euclid (sg_ne g2 hn) ?_ (by omega) (by rw [sg_natAbs]; omega)
  rw [e2]
  generalize (m % n : Nat) = r at *
  generalize (m / n : Nat) = q at *
  have e3 : (n : Int) * (q + 1 : Nat) = n * q + n := by rw [Int.natCast_add, Int.mul_add]; simp
  have e4 : ((q + 1 : Nat) : Int) * n = n * q + n := by rw [Int.mul_comm]; exact e3
  cases g2
  · show -(m : Int) = -((q + 1 : Nat) : Int) * (n : Int) + _
    rw [Int.neg_mul, e4]; omega
  · show -(m : Int) = ((q + 1 : Nat) : Int) * -(n : Int) + _
    rw [Int.mul_neg, e4]; omega
/-- The two numbers that DivMod's results are made of. -/
theorem quot_lim {m n : Nat} (h : m < Lim) (hn : n ≠ 0) (hc : m % n ≠ 0) : m / n + 1 < Lim := by
  have h2 : 2 ≤ n := by
    rcases Nat.lt_or_ge n 2 with q | q
    · have : n = 1 := by omega
      subst this; exact absurd (Nat.mod_one m) hc
    · exact q
  have h1 : m / n ≤ m / 2 := Nat.div_le_div_left h2 (by omega)
  have h3 : m ≠ 0 := by intro q; subst q; exact hc (Nat.zero_mod n)
  omega

end Go.Proofs.YtjbcicgbemepbaaDoor
