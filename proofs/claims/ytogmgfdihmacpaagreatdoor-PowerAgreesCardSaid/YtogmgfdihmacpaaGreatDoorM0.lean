/-
  Numbers in words of 64 bits: what the digits, the carries and the borrows are.
-/
import Derived.Test.YtogmgfdihmacpaaGreatDoorNB
namespace Go.Proofs.YtogmgfdihmacpaaGreatDoor
set_option linter.unusedVariables false

/-! ### Words of 64 bits -/
def B64 : Nat := 18446744073709551616
theorem b64_eq : B64 = 18446744073709551616 := rfl
theorem b64_pow : B64 = 256 ^ 8 := rfl
theorem b64_pos (k : Nat) : 0 < B64 ^ k := Nat.pow_pos (by decide)
/-- Word i. -/
def wq (n i : Nat) : Nat := n / B64 ^ i % B64
theorem wq_lt (n i : Nat) : wq n i < 18446744073709551616 := by unfold wq; exact Nat.mod_lt _ (by decide)
theorem b64_powj (j : Nat) : B64 ^ j = 256 ^ (8 * j) := by rw [b64_pow, ← Nat.pow_mul]
theorem wq_zero (j : Nat) : wq 0 j = 0 := by simp [wq]
theorem wq_small {n j : Nat} (h : n < B64 ^ j) : wq n j = 0 := by unfold wq; rw [Nat.div_eq_of_lt h]; rfl
theorem wq_low_at (v q r : Nat) (hr : r < 8) : wq (low v (8 * q + r)) q = v / 256 ^ (8 * q) % 256 ^ r := by
  unfold wq
  rw [b64_powj, low_div _ _ _ (by omega), show 8 * q + r - 8 * q = r by omega]
  apply Nat.mod_eq_of_lt
  exact Nat.lt_of_lt_of_le (Nat.mod_lt _ (Nat.pow_pos (by omega))) (by rw [b64_pow]; exact Nat.pow_le_pow_right (by omega) (by omega))
theorem wq_step_at (v k q r : Nat) (hq : q = k / 8) (hr : r = k % 8) :
    wq (low v k) q < 2 ^ (8 * r) ∧ wq (low v (k + 1)) q = dig v k * 2 ^ (8 * r) + wq (low v k) q ∧ dig v k * 2 ^ (8 * r) < 18446744073709551616 := by
  have hk : k = 8 * q + r := by omega
  have hr4 : r < 8 := by omega
  subst hk
  rw [pow256, wq_low_at v q r hr4]
  have hd : dig v (8 * q + r) = v / 256 ^ (8 * q) / 256 ^ r % 256 := by unfold dig; rw [Nat.pow_add, Nat.div_div_eq_div_mul]
  have hdl : dig v (8 * q + r) < 256 := Nat.mod_lt _ (by omega)
  refine ⟨Nat.mod_lt _ (Nat.pow_pos (by omega)), ?_, ?_⟩
  · rcases Nat.lt_or_ge r 7 with h3 | h3
    · rw [Nat.add_assoc, wq_low_at v q (r + 1) (by omega), hd, Nat.pow_succ, Nat.mod_mul, Nat.mul_comm (256 ^ r)]; omega
    · obtain rfl : r = 7 := by omega
      unfold wq
      rw [b64_powj, low_div _ _ _ (by omega), show 8 * q + 7 + 1 - 8 * q = 7 + 1 by omega, hd, Nat.pow_succ, Nat.mod_mul, Nat.mul_comm (256 ^ 7)]
      rw [Nat.mod_eq_of_lt]
      · omega
      · have h1 : v / 256 ^ (8 * q) % 256 ^ 7 < 256 ^ 7 := Nat.mod_lt _ (by decide)
        have h2 : v / 256 ^ (8 * q) / 256 ^ 7 % 256 < 256 := Nat.mod_lt _ (by decide)
        have h3 : B64 = 256 ^ 7 * 256 := rfl
        omega
  · have : 256 ^ r ≤ 256 ^ 7 := Nat.pow_le_pow_right (by omega) (by omega)
    have h4 := Nat.mul_le_mul (show dig v (8 * q + r) ≤ 255 by omega) this
    omega
theorem wq_step_other (v k q j : Nat) (hq : q = k / 8) (hj : j ≠ q) : wq (low v (k + 1)) j = wq (low v k) j := by
  rcases Nat.lt_or_ge j q with h | h
  · unfold wq
    rw [b64_powj, low_div _ _ _ (by omega), low_div _ _ _ (by omega)]
    have e1 : 256 ^ (k + 1 - 8 * j) = B64 * 256 ^ (k + 1 - 8 * j - 8) := by rw [b64_pow, ← Nat.pow_add]; congr 1; omega
    have e2 : 256 ^ (k - 8 * j) = B64 * 256 ^ (k - 8 * j - 8) := by rw [b64_pow, ← Nat.pow_add]; congr 1; omega
    rw [e1, e2, Nat.mod_mul_right_mod, Nat.mod_mul_right_mod]
  · rw [wq_small (Nat.lt_of_lt_of_le (low_lt v (k + 1)) (by rw [b64_powj]; exact Nat.pow_le_pow_right (by omega) (by omega))), wq_small (Nat.lt_of_lt_of_le (low_lt v k) (by rw [b64_powj]; exact Nat.pow_le_pow_right (by omega) (by omega)))]
theorem hiq_step (n j : Nat) : n / B64 ^ j = n / B64 ^ (j + 1) * B64 + wq n j := by
  unfold wq
  rw [Nat.pow_succ, ← Nat.div_div_eq_div_mul]
  have := Nat.div_add_mod (n / B64 ^ j) B64
  rw [Nat.mul_comm] at this
  omega
/-- The first i words. -/
def loq (n i : Nat) : Nat := n % B64 ^ i
theorem loq_succ (n i : Nat) : loq n (i + 1) = loq n i + wq n i * B64 ^ i := by
  unfold loq wq
  rw [Nat.pow_succ, Nat.mod_mul, Nat.mul_comm (B64 ^ i)]
theorem loq_lt (n i : Nat) : loq n i < B64 ^ i := Nat.mod_lt _ (b64_pos i)
theorem loq_zero (n : Nat) : loq n 0 = 0 := by simp [loq, Nat.mod_one]
theorem loq_all {n m : Nat} (h : n < B64 ^ m) : loq n m = n := Nat.mod_eq_of_lt h
theorem wq_shift (n o j : Nat) : wq n (o + j) = wq (n / B64 ^ o) j := by unfold wq; rw [Nat.pow_add, Nat.div_div_eq_div_mul]
theorem wq_loq (n m j : Nat) (h : j < m) : wq (loq n m) j = wq n j := by
  unfold wq loq
  have e : B64 ^ m = B64 ^ j * (B64 * B64 ^ (m - j - 1)) := by rw [← Nat.pow_succ', ← Nat.pow_add]; congr 1; omega
  rw [e, Nat.mod_mul_right_div_self, Nat.mod_mul_right_mod]
theorem wq_add_low (p q o i : Nat) (h : i < o) : wq (p + q * B64 ^ o) i = wq p i := by
  have e : (p + q * B64 ^ o) % B64 ^ o = p % B64 ^ o := by rw [Nat.mul_comm, Nat.add_mul_mod_self_left]
  rw [← wq_loq _ o i h, ← wq_loq p o i h]
  unfold loq; rw [e]
theorem hiq_add (p q o : Nat) : (p + q * B64 ^ o) / B64 ^ o = p / B64 ^ o + q := by rw [Nat.mul_comm, Nat.add_mul_div_left _ _ (b64_pos o)]
theorem wq_top {n m : Nat} (h : n < B64 ^ (m + 1)) : wq n m = n / B64 ^ m := by
  unfold wq
  exact Nat.mod_eq_of_lt (Nat.div_lt_of_lt_mul (by rw [Nat.pow_succ] at h; exact h))
/-! A row of a product: c + d y. -/
def carQ (c d y j : Nat) : Nat := (c % B64 ^ j + d * (y % B64 ^ j)) / B64 ^ j
theorem carQ_zero (c d y : Nat) : carQ c d y 0 = 0 := by simp [carQ, Nat.mod_one]
theorem carQ_lt (c d y j : Nat) (hd : d < B64) : carQ c d y j < B64 := by
  unfold carQ
  have h := b64_pos j
  have h1 := Nat.mod_lt c h
  have h2 := Nat.mod_lt y h
  refine Nat.div_lt_of_lt_mul ?_
  have h3 := Nat.mul_le_mul (show d ≤ B64 - 1 by omega) (show y % B64 ^ j ≤ B64 ^ j - 1 by omega)
  generalize B64 ^ j = z at *
  obtain ⟨z, rfl⟩ : ∃ q, z = q + 1 := ⟨z - 1, by omega⟩
  rw [Nat.add_sub_cancel] at h3
  have e : (z + 1) * B64 = z * B64 + B64 := by rw [Nat.add_mul, Nat.one_mul]
  rw [e]
  have e2 : (B64 - 1) * z + z = B64 * z := by rw [show B64 = B64 - 1 + 1 by rfl, Nat.add_mul, Nat.one_mul]; rfl
  have := Nat.mul_comm B64 z
  have hB : 0 < B64 := by decide
  omega
theorem carQ_all (c d y j : Nat) : carQ c d y j + (wq c j + d * wq y j) = (c % B64 ^ (j + 1) + d * (y % B64 ^ (j + 1))) / B64 ^ j := by
  unfold carQ wq
  have h := b64_pos j
  rw [Nat.pow_succ, Nat.mod_mul, Nat.mod_mul, Nat.mul_add, Nat.mul_left_comm]
  rw [show c % B64 ^ j + B64 ^ j * (c / B64 ^ j % B64) + (d * (y % B64 ^ j) + B64 ^ j * (d * (y / B64 ^ j % B64))) = B64 ^ j * (c / B64 ^ j % B64 + d * (y / B64 ^ j % B64)) + (c % B64 ^ j + d * (y % B64 ^ j)) by rw [Nat.mul_add]; omega, Nat.mul_add_div h]
  omega
theorem carQ_next (c d y j : Nat) : (carQ c d y j + (wq c j + d * wq y j)) / B64 = carQ c d y (j + 1) := by
  rw [carQ_all, Nat.div_div_eq_div_mul, ← Nat.pow_succ]; rfl
theorem mod_lin (c d y z : Nat) : (c % z + d * (y % z)) % z = (c + d * y) % z := by
  have h1 : d * (y % z) % z = d * y % z := by rw [Nat.mul_mod, Nat.mod_mod, ← Nat.mul_mod]
  rw [Nat.add_mod, Nat.mod_mod, h1, ← Nat.add_mod]
theorem carQ_word (c d y j : Nat) : (carQ c d y j + (wq c j + d * wq y j)) % B64 = wq (c + d * y) j := by
  rw [carQ_all]
  unfold wq
  have e : (c + d * y) / B64 ^ j % B64 = ((c + d * y) % B64 ^ (j + 1)) / B64 ^ j := by rw [Nat.pow_succ, Nat.mod_mul_right_div_self]
  rw [e, ← mod_lin, Nat.pow_succ, ← Nat.mod_mul_right_div_self]
/-- Addition: the carry behind j words of p + m. -/
def adQ (p m j : Nat) : Nat := (p % B64 ^ j + m % B64 ^ j) / B64 ^ j
theorem adQ_carQ (p m j : Nat) : adQ p m j = carQ p 1 m j := by unfold adQ carQ; rw [Nat.one_mul]
theorem adQ_zero (p m : Nat) : adQ p m 0 = 0 := by simp [adQ, Nat.mod_one]
theorem adQ_le (p m j : Nat) : adQ p m j ≤ 1 := by
  unfold adQ
  have h := b64_pos j
  have h1 := Nat.mod_lt p h
  have h2 := Nat.mod_lt m h
  have : (p % B64 ^ j + m % B64 ^ j) / B64 ^ j < 2 := Nat.div_lt_of_lt_mul (by omega)
  omega
theorem adQ_word (p m j : Nat) : (wq p j + wq m j + adQ p m j) % B64 = wq (p + m) j := by
  have := carQ_word p 1 m j
  rw [← adQ_carQ, Nat.one_mul, Nat.one_mul] at this
  rw [← this]; congr 1; omega
theorem adQ_next (p m j : Nat) : (wq p j + wq m j + adQ p m j) / B64 = adQ p m (j + 1) := by
  have := carQ_next p 1 m j
  rw [← adQ_carQ, ← adQ_carQ, Nat.one_mul] at this
  rw [← this]; congr 1; omega
/-! Subtraction. -/
/-- The borrow behind j words of p - z. -/
def boQ (p z j : Nat) : Nat := if p % B64 ^ j < z % B64 ^ j then 1 else 0
theorem boQ_zero (p z : Nat) : boQ p z 0 = 0 := by simp [boQ, Nat.mod_one]
theorem boQ_le (p z j : Nat) : boQ p z j ≤ 1 := by unfold boQ; split <;> omega
/-- p - z with n words. -/
def diQ (p z n : Nat) : Nat := (p + B64 ^ n - z % B64 ^ n) % B64 ^ n
theorem modq_succ (p j : Nat) : p % B64 ^ (j + 1) = p % B64 ^ j + B64 ^ j * wq p j := by unfold wq; rw [Nat.pow_succ, Nat.mod_mul]
theorem boQ_next (p z j : Nat) : boQ p z (j + 1) = if wq p j < wq z j + boQ p z j then 1 else 0 := by
  unfold boQ
  rw [modq_succ, modq_succ]
  have h := b64_pos j
  have h1 := Nat.mod_lt p h
  have h2 := Nat.mod_lt z h
  generalize B64 ^ j = b at *
  generalize p % b = x at *
  generalize z % b = y at *
  generalize wq p j = u
  generalize wq z j = v
  rcases Nat.lt_trichotomy u v with e | e | e
  · obtain ⟨k, rfl⟩ : ∃ k, v = u + 1 + k := ⟨v - u - 1, by omega⟩
    rw [if_pos (by rw [Nat.mul_add, Nat.mul_add]; omega), if_pos (by omega)]
  · subst e
    by_cases hxy : x < y
    · rw [if_pos (by omega), if_pos (by rw [if_pos hxy]; omega)]
    · rw [if_neg (by omega), if_neg (by rw [if_neg hxy]; omega)]
  · obtain ⟨k, rfl⟩ : ∃ k, u = v + 1 + k := ⟨u - v - 1, by omega⟩
    rw [if_neg (by rw [Nat.mul_add, Nat.mul_add]; omega), if_neg (by split <;> omega)]
theorem diQ_aux (p Z q bn bk x y s t : Nat) (hd : bn = q * bk) (a1 : q * t + x = p) (a2 : q * s + y = Z) (hs : s < bk) (hy : y ≤ q) : (p + bn - Z) % q = (x + q - y) % q := by
  obtain ⟨r, rfl⟩ : ∃ r, bk = s + 1 + r := ⟨bk - (s + 1), by omega⟩
  have e : p + bn - Z = (x + q - y) + q * (t + r) := by
    subst hd a1 a2
    rw [Nat.mul_add, Nat.mul_add, Nat.mul_add]
    omega
  rw [e, Nat.add_mul_mod_self_left]
theorem diQ_aux2 (x y q : Nat) (hx : x < q) (hy : y < q) : (x + q - y) % q = x + (if x < y then 1 else 0) * q - y := by
  by_cases h : x < y
  · rw [if_pos h, Nat.one_mul, Nat.mod_eq_of_lt (by omega)]
  · rw [if_neg h, Nat.zero_mul, Nat.add_zero, show x + q - y = (x - y) + q by omega, Nat.add_mod_right, Nat.mod_eq_of_lt (by omega)]
theorem diQ_aux3 (x y q u v b d : Nat) (h : 0 < q) (_h1 : x < q) (h2 : y < q) (w1 : u < 18446744073709551616) (w2 : v < 18446744073709551616) (w3 : d < 18446744073709551616) (hbv : b = if x < y then 1 else 0)
    (k1 : (x + b * q - y) + q * d = x + q * u + (if u < v + b then 1 else 0) * (q * 18446744073709551616) - (y + q * v)) :
    (u + 18446744073709551616 - (v + b)) % 18446744073709551616 = d := by
  have hx : x + b * q - y + y = x + b * q := by
    refine Nat.sub_add_cancel ?_
    by_cases hxy : x < y
    · rw [if_pos hxy] at hbv; subst hbv; omega
    · omega
  have hb : b ≤ 1 := by subst hbv; split <;> omega
  by_cases hc : u < v + b
  · rw [if_pos hc] at k1
    have hle : y + q * v ≤ x + q * u + 1 * (q * 18446744073709551616) := by
      have := Nat.mul_le_mul_left q (show v + 1 ≤ 18446744073709551616 by omega)
      rw [Nat.mul_add, Nat.mul_one] at this
      omega
    have e : q * d + (q * v + q * b) = q * u + q * 18446744073709551616 := by
      have : q * b = b * q := Nat.mul_comm _ _
      omega
    rw [← Nat.mul_add, ← Nat.mul_add, ← Nat.mul_add] at e
    have e' := Nat.eq_of_mul_eq_mul_left h e
    rw [Nat.mod_eq_of_lt (by omega)]
    omega
  · rw [if_neg hc] at k1
    have hle : y + q * v ≤ x + q * u := by
      have h3 := Nat.mul_le_mul_left q (show v + b ≤ u by omega)
      rw [Nat.mul_add] at h3
      by_cases hxy : x < y
      · rw [if_pos hxy] at hbv; subst hbv; omega
      · rw [if_neg hxy] at hbv; subst hbv; omega
    have e : q * d + (q * v + q * b) = q * u := by
      have : q * b = b * q := Nat.mul_comm _ _
      omega
    rw [← Nat.mul_add, ← Nat.mul_add] at e
    have e' := Nat.eq_of_mul_eq_mul_left h e
    rw [show u + 18446744073709551616 - (v + b) = (u - (v + b)) + 18446744073709551616 by omega, Nat.add_mod_right, Nat.mod_eq_of_lt (by omega)]
    omega
theorem diQ_word (p z n j : Nat) (hj : j < n) : (wq p j + B64 - (wq z j + boQ p z j)) % B64 = wq (diQ p z n) j := by
  have hB : B64 = 18446744073709551616 := rfl
  -- both sides are word j of a number that is congruent to p - z
  have key : ∀ i, i ≤ n → diQ p z n % B64 ^ i = p % B64 ^ i + boQ p z i * B64 ^ i - z % B64 ^ i := by
    intro i hi
    have hp := b64_pos i
    have hd : B64 ^ n = B64 ^ i * B64 ^ (n - i) := by rw [← Nat.pow_add]; congr 1; omega
    have e1 : diQ p z n % B64 ^ i = (p + B64 ^ n - z % B64 ^ n) % B64 ^ i := by unfold diQ; rw [hd, Nat.mod_mul_right_mod]
    have h1 := Nat.mod_lt p hp
    have h2 := Nat.mod_lt z hp
    have hz := Nat.mod_lt z (b64_pos n)
    have hz2 : z % B64 ^ n % B64 ^ i = z % B64 ^ i := by rw [hd, Nat.mod_mul_right_mod]
    have e2 : (p + B64 ^ n - z % B64 ^ n) % B64 ^ i = (p % B64 ^ i + B64 ^ i - z % B64 ^ i) % B64 ^ i := by
      have a1 := Nat.div_add_mod p (B64 ^ i)
      have a2 := Nat.div_add_mod (z % B64 ^ n) (B64 ^ i)
      rw [hz2] at a2
      have hq : z % B64 ^ n / B64 ^ i < B64 ^ (n - i) := Nat.div_lt_of_lt_mul (by rw [← hd]; exact hz)
      exact diQ_aux _ _ _ _ _ _ _ _ _ hd a1 a2 hq (Nat.le_of_lt h2)
    rw [e1, e2]
    exact diQ_aux2 _ _ _ h1 h2
  have k1 := key (j + 1) hj
  have k0 := key j (by omega)
  rw [modq_succ, modq_succ, modq_succ, k0, boQ_next, Nat.pow_succ] at k1
  exact diQ_aux3 _ _ _ _ _ _ _ (b64_pos j) (Nat.mod_lt p (b64_pos j)) (Nat.mod_lt z (b64_pos j)) (wq_lt p j) (wq_lt z j) (wq_lt (diQ p z n) j) rfl k1
/-! The quotient of three half words by two (the steps of a division of 128 bits by 64). -/
def H32 : Nat := 4294967296
/-- While qh and rh are so, qh is not below the quotient. -/
def DIn (u u1 y1 y0 qh rh : Nat) : Prop := qh * y1 + rh = u ∧ (u * 4294967296 + u1) / (y1 * 4294967296 + y0) ≤ qh ∧ qh ≤ 4294967297
theorem din_first (u u1 y1 y0 : Nat) (hy : 2147483648 ≤ y1) (hy0 : y0 < 4294967296) (hu : u < y1 * 4294967296 + y0) (hu1 : u1 < 4294967296) : DIn u u1 y1 y0 (u / y1) (u - u / y1 * y1) := by
  have hm : u / y1 * y1 ≤ u := Nat.div_mul_le_self u y1
  refine ⟨by omega, ?_, ?_⟩
  · have hpos : 0 < y1 * 4294967296 + y0 := by omega
    rw [Nat.div_le_iff_le_mul_add_pred hpos]
    have h := Nat.lt_div_mul_add (a := u) (show 0 < y1 by omega)
    -- u < (u/y1 + 1) * y1
    generalize u / y1 = k at *
    have h2 : (y1 * 4294967296 + y0) * k = k * y1 * 4294967296 + y0 * k := by rw [Nat.add_mul]; congr 1; rw [Nat.mul_right_comm, Nat.mul_comm y1 k]
    rw [h2]
    omega
  · rw [Nat.div_le_iff_le_mul_add_pred (by omega)]
    have : y1 * 4294967297 = y1 * 4294967296 + y1 := by omega
    omega
theorem din_step {u u1 y1 y0 qh rh : Nat} (h : DIn u u1 y1 y0 qh rh) (hy : 2147483648 ≤ y1) (hy0 : y0 < 4294967296) (hu : u < y1 * 4294967296 + y0) (hu1 : u1 < 4294967296) (hc : 4294967296 ≤ qh ∨ 4294967296 * rh + u1 < qh * y0) : 0 < qh ∧ DIn u u1 y1 y0 (qh - 1) (rh + y1) := by
  obtain ⟨e, l, m⟩ := h
  have hpos : 0 < y1 * 4294967296 + y0 := by omega
  have hq : (u * 4294967296 + u1) / (y1 * 4294967296 + y0) < qh := by
    rcases hc with hc | hc
    · have : (u * 4294967296 + u1) / (y1 * 4294967296 + y0) < 4294967296 := by
        rw [Nat.div_lt_iff_lt_mul hpos]
        have := Nat.mul_le_mul_left 4294967296 (show u + 1 ≤ y1 * 4294967296 + y0 by omega)
        omega
      omega
    · rw [Nat.div_lt_iff_lt_mul hpos, Nat.mul_add, ← Nat.mul_assoc]
      have : u * 4294967296 = qh * y1 * 4294967296 + rh * 4294967296 := by rw [← e, Nat.add_mul]
      omega
  have hq0 : 0 < qh := Nat.lt_of_le_of_lt (Nat.zero_le _) hq
  refine ⟨hq0, ?_, Nat.le_sub_one_of_lt hq, by omega⟩
  have : (qh - 1) * y1 + y1 = qh * y1 := by rw [Nat.sub_mul, Nat.one_mul]; exact Nat.sub_add_cancel (Nat.le_mul_of_pos_left y1 hq0)
  omega
/-- Where the loop ends, qh is the quotient. -/
theorem din_end {u u1 y1 y0 qh rh : Nat} (h : DIn u u1 y1 y0 qh rh) (hy : 2147483648 ≤ y1) (hy0 : y0 < 4294967296) (hu : u < y1 * 4294967296 + y0) (hu1 : u1 < 4294967296) (hc : 4294967296 ≤ rh ∨ ¬ (4294967296 ≤ qh ∨ 4294967296 * rh + u1 < qh * y0)) : qh = (u * 4294967296 + u1) / (y1 * 4294967296 + y0) := by
  obtain ⟨e, l, m⟩ := h
  have hpos : 0 < y1 * 4294967296 + y0 := by omega
  refine Nat.le_antisymm ?_ l
  rw [Nat.le_div_iff_mul_le hpos, Nat.mul_add, ← Nat.mul_assoc]
  have e2 : u * 4294967296 = qh * y1 * 4294967296 + rh * 4294967296 := by rw [← e, Nat.add_mul]
  have : qh * y0 ≤ 4294967296 * rh + u1 := by
    rcases hc with hc | hc
    · have hq : qh < 4294967296 := by
        apply Nat.lt_of_mul_lt_mul_right (a := y1)
        omega
      have := Nat.mul_le_mul (show qh ≤ 4294967296 by omega) (show y0 ≤ 4294967296 by omega)
      omega
    · omega
  omega
theorem din_q_lt {u u1 y1 y0 : Nat} (hy : 2147483648 ≤ y1) (hu : u < y1 * 4294967296 + y0) (hu1 : u1 < 4294967296) : (u * 4294967296 + u1) / (y1 * 4294967296 + y0) < 4294967296 := by
  rw [Nat.div_lt_iff_lt_mul (by omega)]
  have := Nat.mul_le_mul_left 4294967296 (show u + 1 ≤ y1 * 4294967296 + y0 by omega)
  omega
/-- The two digits of the quotient, one behind the other. -/
theorem two_digits (u a b y : Nat) (hy : 0 < y) : (u * 4294967296 + a) / y * 4294967296 + ((u * 4294967296 + a) % y * 4294967296 + b) / y = (u * 18446744073709551616 + a * 4294967296 + b) / y := by
  have h := Nat.div_add_mod (u * 4294967296 + a) y
  have e : u * 18446744073709551616 + a * 4294967296 + b = (u * 4294967296 + a) % y * 4294967296 + b + y * ((u * 4294967296 + a) / y * 4294967296) := by
    rw [← Nat.mul_assoc]
    generalize y * ((u * 4294967296 + a) / y) = A at *
    generalize (u * 4294967296 + a) % y = R at *
    omega
  exact (Nat.add_comm _ _).trans ((Nat.add_mul_div_left _ _ hy).symm.trans (congrArg (· / y) e.symm))
/-- The guess is not below the quotient, and at most 2 too large. b: the weight of the word below the last one; f: the divisor's last word. -/
theorem guess_ok (p m b f q : Nat) (hb : 0 < b) (hf : 9223372036854775808 ≤ f) (h1 : f * b ≤ m) (h2 : m < (f + 1) * b) (hp : p < m * 18446744073709551616)
    (hq : q = min 18446744073709551615 (p / b / f)) : p / m ≤ q ∧ q ≤ p / m + 2 := by
  have hm : 0 < m := Nat.lt_of_lt_of_le (Nat.mul_pos (by omega) hb) h1
  have hq1 : p / m ≤ 18446744073709551615 := by
    have : p / m < 18446744073709551616 := by rw [Nat.div_lt_iff_lt_mul hm, Nat.mul_comm]; exact hp
    omega
  have hq2 : p / m ≤ p / b / f := by
    rw [Nat.div_div_eq_div_mul, Nat.mul_comm b f]
    exact Nat.div_le_div_left h1 (Nat.mul_pos (by omega) hb)
  have hqd : q ≤ p / b / f := by rw [hq]; exact Nat.min_le_right _ _
  have hqm : q ≤ 18446744073709551615 := by rw [hq]; exact Nat.min_le_left _ _
  have hpm : p < (p / m + 1) * m := by rw [Nat.add_mul, Nat.one_mul]; exact Nat.lt_div_mul_add hm
  have hqf : q * f * b ≤ p := by
    have a1 : q * f ≤ p / b := Nat.le_trans (Nat.mul_le_mul_right f hqd) (Nat.div_mul_le_self _ _)
    exact Nat.le_trans (Nat.mul_le_mul_right b a1) (Nat.div_mul_le_self _ _)
  refine ⟨by rw [hq]; exact Nat.le_min.mpr ⟨hq1, hq2⟩, ?_⟩
  clear hq hqd hq1 hq2
  generalize p / m = k at *
  apply Nat.le_of_not_lt
  intro hbad
  have h3 : (k + 1) * m ≤ (q - 2) * m := Nat.mul_le_mul_right m (by omega)
  have h4 : q * m ≤ q * ((f + 1) * b) := Nat.mul_le_mul_left q (Nat.le_of_lt h2)
  have h5 : q * ((f + 1) * b) = q * f * b + q * b := by rw [← Nat.mul_assoc, Nat.mul_add, Nat.add_mul, Nat.mul_one]
  have h6 : (q - 2) * m + 2 * m = q * m := by rw [← Nat.add_mul]; congr 1; omega
  have h7 : q * b ≤ 18446744073709551615 * b := Nat.mul_le_mul_right b hqm
  have h8 : 9223372036854775808 * b ≤ f * b := Nat.mul_le_mul_right b hf
  omega
/-! One place of the long division: X is what the part's words hold, b the borrow that is still open. -/
def SInv (P M n q X b : Nat) : Prop := X + q * M = P + b * B64 ^ (n + 1) ∧ X < B64 ^ (n + 1) ∧ b ≤ 1 ∧ P / M ≤ q
theorem sinv_first {P M n q : Nat} (hP : P < B64 ^ (n + 1)) (hq : q * M < B64 ^ (n + 1)) (hg : P / M ≤ q) : SInv P M n q (diQ P (q * M) (n + 1)) (boQ P (q * M) (n + 1)) := by
  have h := b64_pos (n + 1)
  refine ⟨?_, Nat.mod_lt _ h, boQ_le _ _ _, hg⟩
  unfold diQ boQ
  rw [Nat.mod_eq_of_lt hq, Nat.mod_eq_of_lt hP, diQ_aux2 P (q * M) _ hP hq]
  refine Nat.sub_add_cancel ?_
  split <;> omega
theorem sinv_step {P M n q X : Nat} (h : SInv P M n q X 1) (hM : 0 < M) (hP : P < B64 ^ (n + 1)) (hMn : M < B64 ^ (n + 1)) : 0 < q ∧ SInv P M n (q - 1) ((X + M) % B64 ^ (n + 1)) (1 - (X + M) / B64 ^ (n + 1)) ∧ (X + M) / B64 ^ (n + 1) ≤ 1 := by
  obtain ⟨e, l, m, g⟩ := h
  have hp := b64_pos (n + 1)
  have hqM : P < q * M := by omega
  have hlt : P / M < q := by rw [Nat.div_lt_iff_lt_mul hM]; exact hqM
  have hq0 : 0 < q := Nat.lt_of_le_of_lt (Nat.zero_le _) hlt
  have hs : (q - 1) * M + M = q * M := by rw [Nat.sub_mul, Nat.one_mul]; exact Nat.sub_add_cancel (Nat.le_mul_of_pos_left M hq0)
  have hc : (X + M) / B64 ^ (n + 1) ≤ 1 := by
    have : (X + M) / B64 ^ (n + 1) < 2 := Nat.div_lt_of_lt_mul (by omega)
    omega
  refine ⟨hq0, ⟨?_, Nat.mod_lt _ hp, Nat.sub_le _ _, Nat.le_sub_one_of_lt hlt⟩, hc⟩
  have hd := Nat.div_add_mod (X + M) (B64 ^ (n + 1))
  generalize (X + M) % B64 ^ (n + 1) = r at *
  rcases Nat.le_one_iff_eq_zero_or_eq_one.mp hc with h0 | h0
  · rw [h0] at hd ⊢; omega
  · rw [h0] at hd ⊢; omega
theorem sinv_end {P M n q X : Nat} (h : SInv P M n q X 0) (hM : 0 < M) : X = P % M := by
  obtain ⟨e, l, m, g⟩ := h
  have : q ≤ P / M := by rw [Nat.le_div_iff_mul_le hM]; omega
  have hq : q = P / M := Nat.le_antisymm this g
  subst hq
  have := Nat.div_add_mod P M
  rw [Nat.mul_comm] at this
  omega
/-! All places: U is what the words hold, L how many there are. -/
def RInv (U0 M n L U : Nat) : Prop := U % M = U0 % M ∧ U < B64 ^ L ∧ (n < L → U / B64 ^ (L - n) < M)
theorem rinv_first {M n L U : Nat} (hn : 0 < n) (hM : B64 ^ (n - 1) ≤ M) (hL : 0 < L) (hU : U < B64 ^ (L - 1)) : RInv U M n L U := by
  refine ⟨rfl, Nat.lt_of_lt_of_le hU (Nat.pow_le_pow_right (by decide) (by omega)), fun h => Nat.lt_of_lt_of_le (Nat.div_lt_of_lt_mul ?_) hM⟩
  rw [← Nat.pow_add, show L - n + (n - 1) = L - 1 by omega]; exact hU
theorem rinv_part {U0 M n k U : Nat} (h : RInv U0 M n (n + 1 + k) U) : U / B64 ^ k < M * B64 ∧ U / B64 ^ k < B64 ^ (n + 1) := by
  obtain ⟨-, hU, hl⟩ := h
  have := hl (by omega)
  rw [show n + 1 + k - n = k + 1 by omega, Nat.pow_succ, ← Nat.div_div_eq_div_mul, Nat.div_lt_iff_lt_mul (by decide)] at this
  refine ⟨this, Nat.div_lt_of_lt_mul ?_⟩
  rw [← Nat.pow_add, Nat.add_comm]; exact hU
theorem rinv_step {U0 M n k U : Nat} (h : RInv U0 M n (n + 1 + k) U) (hM : 0 < M) (hMn : M < B64 ^ n) : RInv U0 M n (n + k) (U % B64 ^ k + U / B64 ^ k % M * B64 ^ k) := by
  obtain ⟨e, hU, hl⟩ := h
  have hr := Nat.mod_lt (U / B64 ^ k) hM
  have hk := b64_pos k
  have hlow := Nat.mod_lt U hk
  refine ⟨?_, ?_, fun _ => ?_⟩
  · rw [← e]
    have h1 := Nat.div_add_mod U (B64 ^ k)
    have h2 := Nat.div_add_mod (U / B64 ^ k) M
    have h3 : U = U % B64 ^ k + U / B64 ^ k % M * B64 ^ k + M * (U / B64 ^ k / M * B64 ^ k) := by
      have : B64 ^ k * (U / B64 ^ k) = M * (U / B64 ^ k / M * B64 ^ k) + U / B64 ^ k % M * B64 ^ k := by
        conv => lhs; rw [← h2]
        rw [Nat.mul_add, ← Nat.mul_assoc M, Nat.mul_comm (B64 ^ k), Nat.mul_comm (B64 ^ k)]
      rw [this] at h1
      omega
    conv => rhs; rw [h3, Nat.add_mul_mod_self_left]
  · have h4 : (U / B64 ^ k % M + 1) * B64 ^ k ≤ B64 ^ n * B64 ^ k := Nat.mul_le_mul_right _ (Nat.lt_trans hr hMn)
    rw [Nat.add_mul, Nat.one_mul] at h4
    rw [Nat.pow_add]; omega
  · rw [show n + k - n = k by omega, Nat.add_mul_div_right _ _ hk, Nat.div_eq_of_lt hlow, Nat.zero_add]; exact hr
/-! The carry of a row. -/
theorem carQ_end {c d y m : Nat} (hc : c < B64 ^ m) (hy : y < B64 ^ m) : carQ c d y m = (c + d * y) / B64 ^ m := by
  unfold carQ; rw [Nat.mod_eq_of_lt hc, Nat.mod_eq_of_lt hy]
theorem endQ_lt {c d y m : Nat} (hc : c < B64 ^ m) (hy : y < B64 ^ m) (hd : d < 18446744073709551616) : c + d * y < B64 ^ (m + 1) := by
  have h := b64_pos m
  have h3 := Nat.mul_le_mul (show d ≤ 18446744073709551615 by omega) (show y ≤ B64 ^ m - 1 by omega)
  have e : B64 ^ (m + 1) = 18446744073709551615 * B64 ^ m + B64 ^ m := by rw [Nat.pow_succ, b64_eq]; omega
  rw [Nat.mul_sub] at h3
  have h4 : 18446744073709551615 ≤ 18446744073709551615 * B64 ^ m := Nat.le_mul_of_pos_right _ h
  omega
theorem wq_end {N j : Nat} (h : N < B64 ^ (j + 1)) : wq N j = N / B64 ^ j := by
  unfold wq
  rw [Nat.mod_eq_of_lt]
  exact Nat.div_lt_of_lt_mul (by rw [← Nat.pow_succ]; exact h)
/-- Words i of P2 below place a, of P from there on. -/
def mixQ (P2 P a i : Nat) : Nat := if i < a then wq P2 i else wq P i
theorem shl_aux (x t c d : Nat) (hc : 0 < c) (hd : 0 < d) (ht : t < c) : (x * c + t) % (c * d) = x * c % (c * d) + t := by
  rw [Nat.mul_comm x c, Nat.mul_mod_mul_left]
  have h1 := Nat.div_add_mod x d
  have h2 := Nat.mod_lt x hd
  have e : c * x + t = c * (x % d) + t + c * d * (x / d) := by
    conv => lhs; rw [← h1]
    rw [Nat.mul_add, ← Nat.mul_assoc]; omega
  rw [e, Nat.add_mul_mod_self_left]
  refine Nat.mod_eq_of_lt ?_
  have := Nat.mul_le_mul_left c (show x % d + 1 ≤ d by omega)
  rw [Nat.mul_add] at this
  omega
theorem shl_aux2 (A c d : Nat) (hc : 0 < c) (hd : 0 < d) : A / d = A / (c * d) * c + A % (c * d) / d := by
  have h1 := Nat.div_add_mod A (c * d)
  have e : A = A % (c * d) + d * (A / (c * d) * c) := by
    have : d * (A / (c * d) * c) = c * d * (A / (c * d)) := by rw [Nat.mul_comm c d, Nat.mul_assoc, Nat.mul_comm c]
    omega
  conv => lhs; rw [e, Nat.add_mul_div_left _ _ hd]
  omega
/-- Word j of w, shifted by s bits to the left. -/
theorem shl_word (w j s : Nat) (hs : s ≤ 63) : wq (w * 2 ^ s) j = (wq w j * 2 ^ s) % B64 + (if j = 0 then 0 else wq w (j - 1) / 2 ^ (64 - s)) := by
  have h64 : B64 = 2 ^ s * 2 ^ (64 - s) := by rw [← Nat.pow_add, show s + (64 - s) = 64 by omega]; rfl
  have hp : 0 < 2 ^ s := Nat.pow_pos (by omega)
  have hq : 0 < 2 ^ (64 - s) := Nat.pow_pos (by omega)
  cases j with
  | zero => rw [if_pos rfl, Nat.add_zero]; unfold wq; rw [Nat.pow_zero, Nat.div_one, Nat.div_one, Nat.mod_mul_mod]
  | succ j =>
    rw [if_neg (by omega), Nat.add_sub_cancel]
    have e1 : w * 2 ^ s / B64 ^ (j + 1) = w / B64 ^ j / 2 ^ (64 - s) := by
      have : B64 ^ (j + 1) = 2 ^ s * (B64 ^ j * 2 ^ (64 - s)) := by rw [Nat.pow_succ, Nat.mul_left_comm, ← h64]
      rw [this, ← Nat.div_div_eq_div_mul, Nat.mul_div_cancel _ hp, Nat.div_div_eq_div_mul]
    unfold wq
    rw [e1, Nat.mod_mul_mod, Nat.pow_succ, ← Nat.div_div_eq_div_mul]
    rw [shl_aux2 (w / B64 ^ j) (2 ^ s) (2 ^ (64 - s)) hp hq, ← h64]
    conv => lhs; rw [h64]
    rw [shl_aux _ _ _ _ hp hq, ← h64]
    rw [Nat.div_lt_iff_lt_mul hq, ← h64]
    exact Nat.mod_lt _ (by decide)
end Go.Proofs.YtogmgfdihmacpaaGreatDoor
