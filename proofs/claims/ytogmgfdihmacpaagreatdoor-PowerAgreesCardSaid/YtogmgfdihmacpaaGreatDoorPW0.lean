/-
  Plain arithmetic of layer 13: inverses, powers with signed exponents, products of powers, groups of digits.
-/
namespace Go.Proofs.YtogmgfdihmacpaaGreatDoor
set_option linter.unusedVariables false

open Classical in
/-- The inverse modulo m, where there is one. -/
noncomputable def invN (a m : Nat) : Nat := if h : ∃ x, x < m ∧ a * x % m = 1 % m then Classical.choose h else 0
theorem invN_spec {a m : Nat} (h : ∃ x, x < m ∧ a * x % m = 1 % m) : invN a m < m ∧ a * invN a m % m = 1 % m := by
  unfold invN
  rw [dif_pos h]
  exact Classical.choose_spec h
theorem invN_eq {a m x : Nat} (h1 : x < m) (h2 : a * x % m = 1 % m) : invN a m = x := by
  obtain ⟨k1, k2⟩ := invN_spec ⟨x, h1, h2⟩
  generalize invN a m = y at k1 k2
  have e1 : y * (a * x) % m = y % m := by rw [Nat.mul_mod, h2, ← Nat.mul_mod, Nat.mul_one]
  have e2 : y * (a * x) % m = x % m := by
    rw [show y * (a * x) = a * y * x by rw [Nat.mul_left_comm, Nat.mul_assoc], Nat.mul_mod, k2, ← Nat.mul_mod, Nat.one_mul]
  rw [Nat.mod_eq_of_lt k1] at e1
  rw [Nat.mod_eq_of_lt h1] at e2
  omega
/-- A power with a signed exponent. -/
noncomputable def pwN (m x : Nat) (z : Int) : Nat := if 0 ≤ z then x ^ z.natAbs % m else invN x m ^ z.natAbs % m
theorem pwN_nat (m x n : Nat) : pwN m x (n : Int) = x ^ n % m := by
  unfold pwN; rw [if_pos (by omega)]; simp
theorem pwN_neg (m x n : Nat) (h : 0 < n) : pwN m x (-(n : Int)) = invN x m ^ n % m := by
  unfold pwN; rw [if_neg (by omega)]; simp
theorem pwN_lt {m x : Nat} {z : Int} (h : 0 < m) : pwN m x z < m := by
  unfold pwN; split <;> exact Nat.mod_lt _ h
/-- A unit. -/
def UnitN (m x : Nat) : Prop := ∃ y, y < m ∧ x * y % m = 1 % m
theorem UnitN.pos {m x : Nat} (h : UnitN m x) : 0 < m := by obtain ⟨y, h1, -⟩ := h; omega
theorem UnitN.inv {m x : Nat} (h : UnitN m x) : x * invN x m % m = 1 % m := (invN_spec h).2
theorem one_mod_pow (m n : Nat) : (1 % m) ^ n % m = 1 % m := by rw [← Nat.pow_mod, Nat.one_pow]
theorem UnitN.invpow {m x : Nat} (h : UnitN m x) (n : Nat) : x ^ n * invN x m ^ n % m = 1 % m := by
  rw [← Nat.mul_pow, Nat.pow_mod, h.inv, one_mod_pow]
theorem UnitN.pow {m x : Nat} (h : UnitN m x) (n : Nat) : UnitN m (x ^ n) := by
  refine ⟨invN x m ^ n % m, Nat.mod_lt _ h.pos, ?_⟩
  rw [Nat.mul_mod, Nat.mod_mod, ← Nat.mul_mod, h.invpow]
theorem UnitN.cancel {m x a b : Nat} (h : UnitN m x) (e : a * x % m = b * x % m) : a % m = b % m := by
  obtain ⟨y, h1, h2⟩ := h
  have k : ∀ c, c * x * y % m = c % m := fun c => by rw [Nat.mul_assoc, Nat.mul_mod, h2, ← Nat.mul_mod, Nat.mul_one]
  rw [← k a, ← k b, Nat.mul_mod, e, ← Nat.mul_mod]
theorem UnitN.of_pow {m x n : Nat} (h : 0 < n) (hm : 0 < m) (e : x ^ n % m = 1 % m) : UnitN m x := by
  obtain ⟨n, rfl⟩ : ∃ q, n = q + 1 := ⟨n - 1, by omega⟩
  refine ⟨x ^ n % m, Nat.mod_lt _ hm, ?_⟩
  rw [Nat.mul_mod, Nat.mod_mod, ← Nat.mul_mod, Nat.mul_comm, ← Nat.pow_succ, e]
theorem UnitN.mul {m x y : Nat} (hx : UnitN m x) (hy : UnitN m y) : UnitN m (x * y) := by
  obtain ⟨a, a1, a2⟩ := hx
  obtain ⟨b, b1, b2⟩ := hy
  refine ⟨a * b % m, Nat.mod_lt _ (by omega), ?_⟩
  rw [Nat.mul_mod, Nat.mod_mod, ← Nat.mul_mod, show x * y * (a * b) = x * a * (y * b) by rw [Nat.mul_assoc, Nat.mul_assoc, Nat.mul_left_comm y a b], Nat.mul_mod, a2, b2, ← Nat.mul_mod, Nat.mul_one]
theorem UnitN.mod {m x : Nat} (h : UnitN m x) : UnitN m (x % m) := by
  obtain ⟨a, a1, a2⟩ := h
  exact ⟨a, a1, by rw [Nat.mul_mod, Nat.mod_mod, ← Nat.mul_mod, a2]⟩
/-- A power with a signed exponent times enough of the base. -/
theorem pwN_up {m x : Nat} (h : UnitN m x) {z : Int} {n : Nat} (hz : 0 ≤ z + n) : pwN m x z * x ^ n % m = x ^ (z + n).toNat % m := by
  unfold pwN
  split
  · rw [Nat.mod_mul_mod, ← Nat.pow_add, show z.natAbs + n = (z + n).toNat by omega]
  · rw [Nat.mod_mul_mod]
    obtain ⟨k, hk⟩ : ∃ k, n = z.natAbs + k := ⟨n - z.natAbs, by omega⟩
    rw [show (z + n).toNat = k by omega, hk, Nat.pow_add, ← Nat.mul_assoc, Nat.mul_mod, Nat.mul_comm (invN x m ^ _), h.invpow, ← Nat.mul_mod, Nat.one_mul]
theorem pwN_add {m x : Nat} (h : UnitN m x) (a b : Int) : pwN m x a * pwN m x b % m = pwN m x (a + b) := by
  have h1 := pwN_up h (z := a) (n := a.natAbs) (by omega)
  have h2 := pwN_up h (z := b) (n := b.natAbs) (by omega)
  have h3 := pwN_up h (z := a + b) (n := a.natAbs + b.natAbs) (by omega)
  have hu := h.pow (a.natAbs + b.natAbs)
  have e : pwN m x a * pwN m x b * x ^ (a.natAbs + b.natAbs) % m = pwN m x (a + b) * x ^ (a.natAbs + b.natAbs) % m := by
    rw [h3, Nat.pow_add, show pwN m x a * pwN m x b * (x ^ a.natAbs * x ^ b.natAbs) = pwN m x a * x ^ a.natAbs * (pwN m x b * x ^ b.natAbs) by rw [Nat.mul_assoc, Nat.mul_assoc, Nat.mul_left_comm (pwN m x b)], Nat.mul_mod, h1, h2, ← Nat.mul_mod, ← Nat.pow_add]
    congr 2; omega
  have := hu.cancel e
  rw [this, Nat.mod_eq_of_lt (pwN_lt h.pos)]
/-- The remainder of the exponent modulo a number at which the power is 1. -/
theorem pwN_order {m x q : Nat} (hm : 0 < m) (hq : 0 < q) (h : x ^ q % m = 1 % m) (z : Int) : x ^ (z % (q : Int)).toNat % m = pwN m x z := by
  have hu := UnitN.of_pow hq hm h
  have hk : ∀ k : Nat, x ^ (q * k) % m = 1 % m := fun k => by rw [Nat.pow_mul, Nat.pow_mod, h, one_mod_pow]
  obtain ⟨r, hr⟩ : ∃ r : Nat, (z % (q : Int)).toNat = r := ⟨_, rfl⟩
  have hz0 : 0 ≤ z % (q : Int) := Int.emod_nonneg _ (by omega)
  have e := Int.mul_ediv_add_emod z q
  rw [hr]
  have hup := pwN_up hu (z := z) (n := z.natAbs * q) (by
    have : (z.natAbs : Int) ≤ (z.natAbs * q : Nat) := by exact_mod_cast Nat.le_mul_of_pos_right _ hq
    omega)
  obtain ⟨k, hk2⟩ : ∃ k : Nat, (z + (z.natAbs * q : Nat)).toNat = q * k + r := by
    have h1 : 0 ≤ z / (q : Int) + z.natAbs := by
      have := Int.natAbs_ediv_le_natAbs z q
      omega
    refine ⟨(z / (q : Int) + z.natAbs).toNat, ?_⟩
    have h2 : ((q * (z / (q : Int) + z.natAbs).toNat + r : Nat) : Int) = z + (z.natAbs * q : Nat) := by
      rw [Int.natCast_add, Int.natCast_mul, Int.toNat_of_nonneg h1, Int.mul_add, Int.natCast_mul, Int.mul_comm (z.natAbs : Int)]
      omega
    omega
  rw [hk2, Nat.mul_comm z.natAbs, Nat.mul_mod (pwN m x z), hk, ← Nat.mul_mod, Nat.mul_one, Nat.mod_eq_of_lt (pwN_lt hm), Nat.pow_add, Nat.mul_mod, hk, ← Nat.mul_mod, Nat.one_mul] at hup
  exact hup.symm
theorem pwN_one {m x : Nat} (h : 1 < m) (hx : x < m) : pwN m x 1 = x := by
  rw [show (1 : Int) = ((1 : Nat) : Int) from rfl, pwN_nat, Nat.pow_one, Nat.mod_eq_of_lt hx]
/-- The product of powers of k bases. -/
def prN (m : Nat) (x e : Nat → Nat) : Nat → Nat
  | 0 => 1 % m
  | k + 1 => prN m x e k * x k ^ e k % m
theorem prN_lt {m : Nat} (h : 0 < m) (x e : Nat → Nat) : ∀ k, prN m x e k < m
  | 0 => Nat.mod_lt _ h
  | k + 1 => Nat.mod_lt _ h
theorem prN_congr {m : Nat} {x e x' e' : Nat → Nat} : ∀ {k : Nat}, (∀ j, j < k → x j = x' j ∧ e j = e' j) → prN m x e k = prN m x' e' k
  | 0, _ => rfl
  | k + 1, h => by
    unfold prN
    rw [prN_congr (k := k) fun j hj => h j (by omega), (h k (by omega)).1, (h k (by omega)).2]
/-- Squared: all exponents are doubled. -/
theorem prN_sq (m : Nat) (x e : Nat → Nat) : ∀ k, prN m x e k * prN m x e k % m = prN m x (fun j => 2 * e j) k
  | 0 => by unfold prN; rw [← Nat.mul_mod]
  | k + 1 => by
    unfold prN
    rw [← Nat.mul_mod, show prN m x e k * x k ^ e k * (prN m x e k * x k ^ e k) = prN m x e k * prN m x e k * (x k ^ e k * x k ^ e k) by rw [Nat.mul_assoc, Nat.mul_assoc, Nat.mul_left_comm (x k ^ e k)], Nat.mul_mod, prN_sq m x e k, ← Nat.pow_add, ← Nat.two_mul, Nat.mul_mod_mod]
/-- One exponent more. -/
theorem prN_bump {m : Nat} {x e e' : Nat → Nat} {j : Nat} (h : e' j = e j + 1) (ho : ∀ l, l ≠ j → e' l = e l) : ∀ {k : Nat}, j < k → prN m x e k * x j % m = prN m x e' k
  | 0, hj => absurd hj (by omega)
  | k + 1, hj => by
    unfold prN
    by_cases hk : j = k
    · subst hk
      rw [h, prN_congr (x := x) (e := e) (x' := x) (e' := e') (k := j) fun l hl => ⟨rfl, (ho l (by omega)).symm⟩, Nat.mod_mul_mod, Nat.pow_succ, Nat.mul_assoc]
    · rw [ho k (fun q => hk q.symm), Nat.mod_mul_mod, Nat.mul_right_comm, ← prN_bump h ho (k := k) (by omega), Nat.mod_mul_mod]
/-- The exponents in the middle of a round: the first j have their next digit. -/
def midE (e : Nat → Nat) (d j : Nat) : Nat → Nat := fun l => if l < j then e l / 2 ^ d else 2 * (e l / 2 ^ (d + 1))
theorem midE_zero (m : Nat) (x e : Nat → Nat) (d k : Nat) : prN m x (fun l => e l / 2 ^ (d + 1)) k * prN m x (fun l => e l / 2 ^ (d + 1)) k % m = prN m x (midE e d 0) k := by
  rw [prN_sq]
  exact prN_congr fun j _ => ⟨rfl, by simp [midE]⟩
theorem midE_end (m : Nat) (x e : Nat → Nat) (d k : Nat) : prN m x (midE e d k) k = prN m x (fun l => e l / 2 ^ d) k :=
  prN_congr fun j hj => ⟨rfl, by simp [midE, hj]⟩
theorem half_bit (n d : Nat) : n / 2 ^ d = 2 * (n / 2 ^ (d + 1)) + (n.testBit d).toNat := by
  rw [Nat.testBit_eq_decide_div_mod_eq, Nat.pow_succ, ← Nat.div_div_eq_div_mul]
  by_cases h : n / 2 ^ d % 2 = 1
  · simp [h]; omega
  · simp [h]; omega
theorem midE_yes {m : Nat} {x e : Nat → Nat} {d j k : Nat} (hj : j < k) (hb : (e j).testBit d = true) : prN m x (midE e d j) k * x j % m = prN m x (midE e d (j + 1)) k := by
  refine prN_bump ?_ ?_ hj
  · have := half_bit (e j) d
    rw [hb] at this
    simp [midE]; simpa using this
  · intro l hl
    unfold midE
    by_cases h : l < j
    · rw [if_pos h, if_pos (by omega)]
    · rw [if_neg h, if_neg (by omega)]
theorem midE_no {m : Nat} {x e : Nat → Nat} {d j k : Nat} (hb : (e j).testBit d = false) : prN m x (midE e d j) k = prN m x (midE e d (j + 1)) k := by
  refine prN_congr fun l _ => ⟨rfl, ?_⟩
  unfold midE
  by_cases h : l < j
  · rw [if_pos h, if_pos (by omega)]
  · rw [if_neg h]
    by_cases hl : l = j
    · subst hl
      rw [if_pos (by omega)]
      have := half_bit (e l) d
      rw [hb] at this
      simp at this
      exact this.symm
    · rw [if_neg (by omega)]
/-- All digits are above the exponents: the product is 1. -/
theorem prN_top {m : Nat} (x e : Nat → Nat) (D : Nat) : ∀ (k : Nat), (∀ j, j < k → e j < 2 ^ D) → prN m x (fun l => e l / 2 ^ D) k = 1 % m
  | 0, _ => rfl
  | k + 1, h => by
    unfold prN
    rw [prN_top x e D k (fun j hj => h j (by omega)), Nat.div_eq_of_lt (h k (by omega)), Nat.pow_zero, Nat.mul_one, Nat.mod_mod]
/-- The product as the reference takes it: of the powers with signed exponents. -/
noncomputable def prZ (m : Nat) (x : Nat → Nat) (z : Nat → Int) : Nat → Nat
  | 0 => 1 % m
  | k + 1 => prZ m x z k * pwN m (x k) (z k) % m
theorem prZ_lt {m : Nat} (h : 0 < m) (x : Nat → Nat) (z : Nat → Int) : ∀ k, prZ m x z k < m
  | 0 => Nat.mod_lt _ h
  | k + 1 => Nat.mod_lt _ h
theorem prZ_congr {m : Nat} {x : Nat → Nat} {z : Nat → Int} {x' : Nat → Nat} {z' : Nat → Int} : ∀ {k : Nat}, (∀ j, j < k → x j = x' j ∧ z j = z' j) → prZ m x z k = prZ m x' z' k
  | 0, _ => rfl
  | k + 1, h => by
    unfold prZ
    rw [prZ_congr (k := k) fun j hj => h j (by omega), (h k (by omega)).1, (h k (by omega)).2]
theorem prN_prZ {m : Nat} {x e y : Nat → Nat} {z : Nat → Int} : ∀ {k : Nat}, (∀ j, j < k → x j ^ e j % m = pwN m (y j) (z j)) → prN m x e k = prZ m y z k
  | 0, _ => rfl
  | k + 1, h => by
    unfold prN prZ
    rw [prN_prZ (k := k) fun j hj => h j (by omega), ← h k (by omega), Nat.mul_mod_mod]
/-- The product taken from the other end. -/
theorem prZ_cons (m : Nat) (x : Nat → Nat) (z : Nat → Int) : ∀ k, prZ m x z (k + 1) = pwN m (x 0) (z 0) * prZ m (fun j => x (j + 1)) (fun j => z (j + 1)) k % m
  | 0 => by
    unfold prZ
    show prZ m x z 0 * _ % m = _
    unfold prZ
    rw [Nat.mod_mul_mod, Nat.one_mul, Nat.mul_mod_mod, Nat.mul_one]
  | k + 1 => by
    show prZ m x z (k + 1) * pwN m (x (k + 1)) (z (k + 1)) % m = _ * (prZ m (fun j => x (j + 1)) (fun j => z (j + 1)) k * pwN m (x (k + 1)) (z (k + 1)) % m) % m
    rw [prZ_cons m x z k, Nat.mod_mul_mod, Nat.mul_mod_mod, Nat.mul_assoc]
theorem prZ_rev (m : Nat) : ∀ (k : Nat) (x : Nat → Nat) (z : Nat → Int), prZ m (fun j => x (k - 1 - j)) (fun j => z (k - 1 - j)) k = prZ m x z k
  | 0, _, _ => rfl
  | k + 1, x, z => by
    rw [prZ_cons]
    show pwN m (x (k + 1 - 1 - 0)) (z (k + 1 - 1 - 0)) * prZ m (fun j => x (k + 1 - 1 - (j + 1))) (fun j => z (k + 1 - 1 - (j + 1))) k % m = prZ m x z k * pwN m (x k) (z k) % m
    rw [show k + 1 - 1 - 0 = k by omega, Nat.mul_comm, ← prZ_rev m k x z]
    rw [prZ_congr (k := k) fun j hj => ⟨show x (k + 1 - 1 - (j + 1)) = x (k - 1 - j) by congr 1; omega, show z (k + 1 - 1 - (j + 1)) = z (k - 1 - j) by congr 1; omega⟩]
/-- The product over the first k groups of four binary digits of e of the powers of a base. -/
def tabN (m b e : Nat) : Nat → Nat
  | 0 => 1 % m
  | k + 1 => tabN m b e k * (b ^ (16 ^ k * (e / 16 ^ k % 16)) % m) % m
theorem tabN_eq (m b e : Nat) : ∀ k, tabN m b e k = b ^ (e % 16 ^ k) % m
  | 0 => by simp [tabN, Nat.mod_one]
  | k + 1 => by
    unfold tabN
    rw [tabN_eq m b e k, Nat.mul_mod_mod, Nat.mod_mul_mod, ← Nat.pow_add, Nat.pow_succ, Nat.mod_mul]
theorem tabN_all {m b e k bits : Nat} (h : e < 2 ^ bits) (hk : bits ≤ 4 * k) : tabN m b e k = b ^ e % m := by
  have : e < 16 ^ k := by
    refine Nat.lt_of_lt_of_le h ?_
    rw [show (16 : Nat) = 2 ^ 4 from rfl, ← Nat.pow_mul]
    exact Nat.pow_le_pow_right (by omega) hk
  rw [tabN_eq, Nat.mod_eq_of_lt this]
/-- The value of a group of four binary digits. -/
theorem four_bits (e i : Nat) : e / 16 ^ i % 16 = (e.testBit (4 * i)).toNat + 2 * (e.testBit (4 * i + 1)).toNat + 4 * (e.testBit (4 * i + 2)).toNat + 8 * (e.testBit (4 * i + 3)).toNat := by
  have h0 := half_bit e (4 * i)
  have h1 := half_bit e (4 * i + 1)
  have h2 := half_bit e (4 * i + 2)
  have h3 := half_bit e (4 * i + 3)
  rw [show 4 * i + 1 + 1 = 4 * i + 2 from rfl] at h1
  rw [show 4 * i + 2 + 1 = 4 * i + 3 from rfl] at h2
  rw [show (16 : Nat) ^ i = 2 ^ (4 * i) by rw [Nat.pow_mul]]
  have b0 : (e.testBit (4 * i)).toNat ≤ 1 := Bool.toNat_le _
  have b1 : (e.testBit (4 * i + 1)).toNat ≤ 1 := Bool.toNat_le _
  have b2 : (e.testBit (4 * i + 2)).toNat ≤ 1 := Bool.toNat_le _
  have b3 : (e.testBit (4 * i + 3)).toNat ≤ 1 := Bool.toNat_le _
  generalize (e.testBit (4 * i)).toNat = x0 at *
  generalize (e.testBit (4 * i + 1)).toNat = x1 at *
  generalize (e.testBit (4 * i + 2)).toNat = x2 at *
  generalize (e.testBit (4 * i + 3)).toNat = x3 at *
  generalize e / 2 ^ (4 * i) = y0 at *
  generalize e / 2 ^ (4 * i + 1) = y1 at *
  generalize e / 2 ^ (4 * i + 2) = y2 at *
  generalize e / 2 ^ (4 * i + 3) = y3 at *
  generalize e / 2 ^ (4 * i + 3 + 1) = y4 at *
  omega
end Go.Proofs.YtogmgfdihmacpaaGreatDoor
