/-
  Arithmetic of the reference's product: sums of products of digits, by columns.
-/
import Derived.Test.YtogmgfdihmacpaaGreatDoorRef3
namespace Go.Proofs.YtogmgfdihmacpaaGreatDoor
open Go.RowKit
set_option linter.unusedVariables false

/-- What row i has added to column j behind k columns of it. -/
def cell1 (a b i k j : Nat) : Nat := if i ≤ j ∧ j - i < k then dig a i * dig b (j - i) else 0
/-- What i rows have added to column j. -/
def rows (a b m : Nat) : Nat → Nat → Nat
  | 0, _ => 0
  | i + 1, j => rows a b m i j + cell1 a b i m j
def acc (a b m i k j : Nat) : Nat := rows a b m i j + cell1 a b i k j
theorem dig_lt (a i : Nat) : dig a i < 256 := Nat.mod_lt _ (by omega)
theorem dd_le (a i b k : Nat) : dig a i * dig b k ≤ 65025 := by
  have := Nat.mul_le_mul (Nat.le_of_lt_succ (dig_lt a i)) (Nat.le_of_lt_succ (dig_lt b k))
  omega
theorem cell1_zero (a b i j : Nat) : cell1 a b i 0 j = 0 := by unfold cell1; rw [if_neg (by omega)]
theorem cell1_succ (a b i k j : Nat) : cell1 a b i (k + 1) j = cell1 a b i k j + if j = i + k then dig a i * dig b k else 0 := by
  unfold cell1
  by_cases h : j = i + k
  · subst h
    rw [if_pos (by omega), if_neg (by omega), if_pos rfl, show i + k - i = k by omega, Nat.zero_add]
  · rw [if_neg h]
    by_cases h2 : i ≤ j ∧ j - i < k
    · rw [if_pos (show i ≤ j ∧ j - i < k + 1 by omega), if_pos h2]; omega
    · rw [if_neg (show ¬ (i ≤ j ∧ j - i < k + 1) by omega), if_neg h2]
theorem cell1_le (a b i k j : Nat) : cell1 a b i k j ≤ 65025 := by
  unfold cell1; split
  · exact dd_le _ _ _ _
  · omega
theorem rows_le (a b m : Nat) : ∀ i j, rows a b m i j ≤ i * 65025
  | 0, _ => by simp [rows]
  | i + 1, j => by
    have h1 := rows_le a b m i j
    have h2 := cell1_le a b i m j
    show rows a b m i j + cell1 a b i m j ≤ _
    rw [Nat.add_mul]; omega
theorem acc_le (a b m i k j : Nat) : acc a b m i k j ≤ i * 65025 + 65025 := by
  have h1 := rows_le a b m i j
  have h2 := cell1_le a b i k j
  unfold acc; omega
theorem acc_start (a b m j : Nat) : acc a b m 0 0 j = 0 := by unfold acc; rw [cell1_zero]; rfl
theorem acc_row (a b m i j : Nat) : acc a b m i 0 j = rows a b m i j := by unfold acc; rw [cell1_zero]; rfl
theorem acc_at (a b m i k : Nat) : acc a b m i (k + 1) (i + k) = acc a b m i k (i + k) + dig a i * dig b k := by
  unfold acc; rw [cell1_succ, if_pos rfl]; omega
theorem acc_other (a b m i k j : Nat) (h : j ≠ i + k) : acc a b m i (k + 1) j = acc a b m i k j := by
  unfold acc; rw [cell1_succ, if_neg h]; omega
theorem acc_end (a b m i j : Nat) : acc a b m i m j = acc a b m (i + 1) 0 j := by
  rw [acc_row]; rfl

/-- The number with the digits f 0, f 1, .. -/
def weigh (f : Nat → Nat) : Nat → Nat
  | 0 => 0
  | n + 1 => weigh f n + f n * 256 ^ n
theorem weigh_congr {f g : Nat → Nat} : ∀ n, (∀ j, f j = g j) → weigh f n = weigh g n
  | 0, _ => rfl
  | n + 1, h => by show weigh f n + _ = weigh g n + _; rw [weigh_congr n h, h n]
theorem weigh_add (f g : Nat → Nat) : ∀ n, weigh (fun j => f j + g j) n = weigh f n + weigh g n
  | 0 => rfl
  | n + 1 => by
    show weigh (fun j => f j + g j) n + (f n + g n) * 256 ^ n = weigh f n + f n * 256 ^ n + (weigh g n + g n * 256 ^ n)
    rw [weigh_add f g n, Nat.add_mul]; omega
theorem weigh_none {f : Nat → Nat} : ∀ n, (∀ j, j < n → f j = 0) → weigh f n = 0
  | 0, _ => rfl
  | n + 1, h => by show weigh f n + f n * 256 ^ n = 0; rw [weigh_none n (fun j q => h j (by omega)), h n (by omega)]; omega
theorem weigh_single (p v : Nat) : ∀ n, p < n → weigh (fun j => if j = p then v else 0) n = v * 256 ^ p
  | 0, h => absurd h (by omega)
  | n + 1, h => by
    show weigh (fun j => if j = p then v else 0) n + (if n = p then v else 0) * 256 ^ n = _
    by_cases e : n = p
    · subst e
      rw [if_pos rfl, weigh_none n (fun j q => by rw [if_neg (by omega)])]; omega
    · rw [if_neg e, weigh_single p v n (by omega)]; omega
theorem weigh_cell1 (a b i n : Nat) : ∀ k, i + k ≤ n → weigh (cell1 a b i k) n = dig a i * 256 ^ i * low b k
  | 0, h => by rw [weigh_none n (fun j _ => cell1_zero a b i j), low_zero]; rfl
  | k + 1, h => by
    rw [weigh_congr n (cell1_succ a b i k), weigh_add, weigh_cell1 a b i n k (by omega), weigh_single _ _ n (by omega), low_succ, Nat.mul_add, Nat.pow_add]
    congr 1
    rw [Nat.mul_assoc, Nat.mul_assoc]
    congr 1
    rw [Nat.mul_left_comm, Nat.mul_comm (dig b k)]
theorem weigh_rows (a b m n : Nat) : ∀ i, i + m ≤ n + 1 → weigh (rows a b m i) n = low a i * low b m
  | 0, h => by rw [weigh_none (f := rows a b m 0) n (fun j _ => rfl), low_zero, Nat.zero_mul]
  | i + 1, h => by
    show weigh (fun j => rows a b m i j + cell1 a b i m j) n = _
    rw [weigh_add, weigh_rows a b m n i (by omega), weigh_cell1 a b i n m (by omega), low_succ, Nat.add_mul, Nat.mul_comm (dig a i)]
theorem weigh_split (f : Nat → Nat) (i : Nat) : ∀ n, i < n → ∃ R, weigh f n = weigh f i + f i * 256 ^ i + 256 ^ (i + 1) * R
  | 0, h => absurd h (by omega)
  | n + 1, h => by
    by_cases e : n = i
    · subst e; exact ⟨0, by show weigh f n + f n * 256 ^ n = _; omega⟩
    · obtain ⟨R, hR⟩ := weigh_split f i n (by omega)
      refine ⟨R + f n * 256 ^ (n - (i + 1)), ?_⟩
      show weigh f n + f n * 256 ^ n = _
      have : 256 ^ n = 256 ^ (i + 1) * 256 ^ (n - (i + 1)) := by rw [← Nat.pow_add]; congr 1; omega
      rw [hR, this, Nat.mul_add, Nat.mul_left_comm]; omega
def carryW (f : Nat → Nat) (i : Nat) : Nat := weigh f i / 256 ^ i
theorem carryW_zero (f : Nat → Nat) : carryW f 0 = 0 := by simp [carryW, weigh]
theorem p256 (i : Nat) : 0 < 256 ^ i := Nat.pow_pos (by omega)
theorem carryW_div (f : Nat → Nat) (i : Nat) : (f i + carryW f i) / 256 = carryW f (i + 1) := by
  unfold carryW
  show _ = (weigh f i + f i * 256 ^ i) / 256 ^ (i + 1)
  rw [Nat.pow_succ, ← Nat.div_div_eq_div_mul, Nat.add_mul_div_right _ _ (p256 i), Nat.add_comm]
theorem carryW_mod (f : Nat → Nat) {i n : Nat} (h : i < n) : (f i + carryW f i) % 256 = dig (weigh f n) i := by
  obtain ⟨R, hR⟩ := weigh_split f i n h
  unfold carryW dig
  rw [hR, Nat.pow_succ, Nat.mul_assoc, Nat.add_mul_div_left _ _ (p256 i), Nat.add_mul_div_right _ _ (p256 i)]
  omega
theorem weigh_le {f : Nat → Nat} {M : Nat} (h : ∀ j, f j ≤ M) : ∀ i, weigh f i ≤ M * 256 ^ i
  | 0 => by simp [weigh]
  | i + 1 => by
    show weigh f i + f i * 256 ^ i ≤ _
    have h1 := weigh_le h i
    have h2 := Nat.mul_le_mul_right (256 ^ i) (h i)
    have h3 : M * 256 ^ (i + 1) = 256 * (M * 256 ^ i) := by rw [Nat.pow_succ, ← Nat.mul_assoc, Nat.mul_comm]
    omega
theorem carryW_le {f : Nat → Nat} {M : Nat} (h : ∀ j, f j ≤ M) (i : Nat) : carryW f i ≤ M := by
  unfold carryW
  exact Nat.div_le_of_le_mul (by rw [Nat.mul_comm]; exact weigh_le h i)
theorem prod_lt (s t : ByteArray) : V s * V t < 256 ^ (s.size + t.size) := by
  rw [Nat.pow_add]
  exact Nat.mul_lt_mul'' (V_lt s) (V_lt t)
theorem weigh_prod (s t : ByteArray) : weigh (rows (V s) (V t) t.size s.size) (s.size + t.size) = V s * V t := by
  rw [weigh_rows _ _ _ _ _ (by omega), low_all, low_all]
theorem prod_small {s t : ByteArray} (h : s.size + t.size ≤ 8) : V s * V t < 18446744073709551616 :=
  Nat.lt_of_lt_of_le (prod_lt s t) (Nat.le_trans (Nat.pow_le_pow_right (by omega) h) (by decide))
end Go.Proofs.YtogmgfdihmacpaaGreatDoor
