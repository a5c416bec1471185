/-
  Contracts of package natural, the twelfth part: Gcd, powerOfTwo, Sqrt.
-/
import Derived.Test.YtamgklgjhjociaaNat11
import Derived.Deep.LoopGhost
namespace Go.Proofs.Ytamgklgjhjociaa
open Go.RowKit
set_option linter.unusedVariables false

/-- What the loop of Gcd knows. -/
def GcdR (A B : Nat) (w : World) (b : Nat) (u v : Value) (wr : World) : Prop :=
  ∃ a, Sl wr u (nd a) a ∧ Sl wr v (nd b) b ∧ a.gcd b = A.gcd B ∧ nd a ≤ 100 ∧ nd b ≤ 100 ∧ a < Lim ∧ b < Lim ∧ Below w.heap.size w wr

/-! ### powerOfTwo -/
theorem bval_zeros (n : Nat) : bval (List.replicate n 0) = 0 := by
  induction n with
  | zero => rfl
  | succ n ih => rw [List.replicate_succ, bval_cons, ih]; simp
theorem pow_bytes (q r : Nat) (hr : r < 8) : (⟨(UInt8.ofNat (2 ^ r) :: List.replicate q 0).toArray⟩ : ByteArray) = E (2 ^ (8 * q + r)) := by
  have hp : 2 ^ r < 256 := by
    have : 2 ^ r ≤ 2 ^ 7 := Nat.pow_le_pow_right (by omega) (by omega)
    omega
  have h1 : (UInt8.ofNat (2 ^ r)).toNat = 2 ^ r := by rw [UInt8.toNat_ofNat']; exact Nat.mod_eq_of_lt hp
  have hb : bval (UInt8.ofNat (2 ^ r) :: List.replicate q 0) = 2 ^ (8 * q + r) := by
    rw [bval_cons, bval_zeros, h1, List.length_replicate, Nat.pow_add, pow256, Nat.mul_comm]; omega
  have hc : can (UInt8.ofNat (2 ^ r) :: List.replicate q 0) := by
    simp only [can, List.head?_cons, ne_eq, Option.some.injEq]
    intro e
    have := congrArg UInt8.toNat e
    rw [h1] at this
    have h2 := Nat.pow_pos (n := r) (show 0 < 2 by omega)
    have h3 : 2 ^ r = 0 := this
    omega
  unfold E
  rw [← hb, enc_bval hc]

/-! ### Sqrt -/
/-- The square root, rounded down. -/
def isq : Nat → Nat
  | 0 => 0
  | n + 1 => if (isq n + 1) * (isq n + 1) ≤ n + 1 then isq n + 1 else isq n
theorem isq_spec (n : Nat) : isq n * isq n ≤ n ∧ n < (isq n + 1) * (isq n + 1) := by
  induction n with
  | zero => simp [isq]
  | succ n ih =>
    unfold isq
    split
    · rename_i h
      refine ⟨h, ?_⟩
      have : (isq n + 1 + 1) * (isq n + 1 + 1) = (isq n + 1) * (isq n + 1) + (isq n + 1) + (isq n + 1) + 1 := by
        rw [Nat.add_mul (isq n + 1) 1, Nat.mul_add]; omega
      omega
    · rename_i h
      exact ⟨by omega, by omega⟩
theorem isq_unique {n r : Nat} (h1 : r * r ≤ n) (h2 : n < (r + 1) * (r + 1)) : r = isq n := by
  have ⟨h3, h4⟩ := isq_spec n
  rcases Nat.lt_trichotomy r (isq n) with h | h | h
  · have := Nat.mul_le_mul (show r + 1 ≤ isq n from h) (show r + 1 ≤ isq n from h)
    omega
  · exact h
  · have := Nat.mul_le_mul (show isq n + 1 ≤ r from h) (show isq n + 1 ≤ r from h)
    omega
theorem le_isq {n x : Nat} (h : x * x ≤ n) : x ≤ isq n := by
  rcases Nat.lt_or_ge (isq n) x with h1 | h1
  · have := Nat.mul_le_mul (show isq n + 1 ≤ x from h1) (show isq n + 1 ≤ x from h1)
    have := (isq_spec n).2
    omega
  · exact h1
theorem isq_le_newton {n x : Nat} (hx : 0 < x) : isq n ≤ (x + n / x) / 2 := by
  have ⟨h3, _⟩ := isq_spec n
  generalize isq n = r at *
  rw [Nat.le_div_iff_mul_le (by omega)]
  rcases Nat.lt_or_ge (r * 2) x with h | h
  · generalize n / x = z
    omega
  · have : r * 2 - x ≤ n / x := by
      rw [Nat.le_div_iff_mul_le hx]
      refine Nat.le_trans ?_ h3
      rw [Nat.sub_mul]
      rcases Nat.le_total r x with h5 | h5
      · obtain ⟨d, rfl⟩ : ∃ d, x = r + d := ⟨x - r, by omega⟩
        have : r * 2 * (r + d) = r * r + (r + d) * r + r * d := by
          rw [Nat.mul_add, Nat.add_mul, Nat.mul_comm d r, Nat.mul_right_comm r 2 r, Nat.mul_right_comm r 2 d]; omega
        have h6 : (r + d) * (r + d) = (r + d) * r + (r + d) * d := Nat.mul_add _ _ _
        have h7 : (r + d) * d = r * d + d * d := Nat.add_mul _ _ _
        omega
      · obtain ⟨d, rfl⟩ : ∃ d, r = x + d := ⟨r - x, by omega⟩
        have h6 : (x + d) * 2 * x = x * x + x * x + d * x + d * x := by
          rw [Nat.mul_right_comm, Nat.add_mul]; omega
        have h7 : (x + d) * (x + d) = x * x + d * x + (d * x + d * d) := by
          rw [Nat.add_mul, Nat.mul_add, Nat.mul_add, Nat.mul_comm x d]
        omega
    omega
theorem newton_stop {n x : Nat} (hx : 0 < x) (h : x ≤ (x + n / x) / 2) : x * x ≤ n := by
  have : x ≤ n / x := by omega
  exact (Nat.le_div_iff_mul_le hx).1 this

/-- A bound of the first number of Newton's method. -/
def Half : Nat := 256 ^ 64
theorem newton_sum {n x : Nat} (hn : n < Lim) (hx : 0 < x) (hh : x ≤ Half) (hr : isq n ≤ x) : x + n / x < Lim := by
  have ⟨_, h4⟩ := isq_spec n
  have h6 : Lim = 2 * (128 * 256 ^ 127) := lim_eq.trans (by decide +kernel)
  have h7 : Half + 1 ≤ 128 * 256 ^ 127 := by unfold Half; decide +kernel
  have h8 : 100 ≤ 128 * 256 ^ 127 := by decide +kernel
  rw [h6] at hn ⊢
  clear h6
  generalize 128 * 256 ^ 127 = Q at *
  generalize Half = R at *
  rcases Nat.lt_or_ge x 2 with h | h
  · obtain rfl : x = 1 := by omega
    have h5 := Nat.mul_le_mul (show isq n + 1 ≤ 2 by omega) (show isq n + 1 ≤ 2 by omega)
    rw [Nat.div_one]
    omega
  · have h5 : n / x ≤ n / 2 := Nat.div_le_div_left h (by omega)
    generalize n / x = z at *
    omega
theorem log2_lt_bytes {n k : Nat} (h0 : n ≠ 0) (h : n < 256 ^ k) : Nat.log2 n < 8 * k := (Nat.log2_lt h0).2 (by rw [pow256]; exact h)
theorem pow_le_bytes {m k : Nat} (h : m ≤ 8 * k) : 2 ^ m ≤ 256 ^ k := by rw [← pow256]; exact Nat.pow_le_pow_right (by omega) h
theorem first_guess {n : Nat} (hn : n < Lim) (h0 : 0 < n) : isq n ≤ 2 ^ ((nbits n + 1) / 2) ∧ 2 ^ ((nbits n + 1) / 2) ≤ Half ∧ 0 < 2 ^ ((nbits n + 1) / 2) ∧ nbits n ≤ 1024 := by
  have hb : nbits n = Nat.log2 n + 1 := by unfold nbits; rw [if_neg (by omega)]
  have hlt : n < 2 ^ nbits n := by rw [hb]; exact (Nat.log2_lt (by omega)).1 (by omega)
  have hle : nbits n ≤ 1024 := by
    have h1 : Nat.log2 n < 8 * 128 := log2_lt_bytes (Nat.pos_iff_ne_zero.1 h0) hn
    omega
  refine ⟨?_, ?_, Nat.pow_pos (by omega), hle⟩
  · rcases Nat.lt_or_ge (2 ^ ((nbits n + 1) / 2)) (isq n) with h | h
    · have h1 := Nat.mul_le_mul (Nat.le_of_lt h) (Nat.le_of_lt h)
      have h2 := (isq_spec n).1
      rw [← Nat.pow_add] at h1
      have h3 : 2 ^ nbits n ≤ 2 ^ ((nbits n + 1) / 2 + (nbits n + 1) / 2) := Nat.pow_le_pow_right (by omega) (by omega)
      omega
    · exact h
  · exact pow_le_bytes (by omega)

/-- What the loop of Sqrt knows. -/
def SqrtR (n : Nat) (w : World) (x : Nat) (v : Value) (wr : World) : Prop := v = .string (E x) ∧ isq n ≤ x ∧ 0 < x ∧ x ≤ Half ∧ Below w.heap.size w wr
theorem half_lim {x : Nat} (h : x ≤ Half) : x < Lim := by
  have : Half < Lim := by rw [lim_eq]; unfold Half; decide +kernel
  omega
theorem two_lim : 2 < Lim := by rw [lim_eq]; decide +kernel
theorem divN_pos {a b : Nat} (h : 0 < b) : divN a b = .tuple #[.string (E (a / b)), .string (E (a % b)), .int .i64 0] := by unfold divN; rw [if_neg (by omega)]

end Go.Proofs.Ytamgklgjhjociaa
