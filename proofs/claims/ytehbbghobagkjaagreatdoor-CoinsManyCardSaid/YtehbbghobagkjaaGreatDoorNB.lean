/-
  Several parts in one text (NB).
-/
import Derived.Test.YtehbbghobagkjaaGreatDoorNA
import Derived.Deep.RegionWith
import Derived.StillTailTactics
/-
  Contracts of package natural, the fourth part: load, trim, store.
-/
namespace Go.Proofs.YtehbbghobagkjaaGreatDoor
open Go.RowKit
set_option linter.unusedVariables false

theorem flip_w {P : Program} {f : FuncId} {args : Array Value} {w : World} {v : Ending} (h : Calls P f args w fun e w' => e = v ∧ w = w') : Calls P f args w fun e w' => e = v ∧ w' = w :=
  h.mono fun _ _ ⟨a, b⟩ => ⟨a, b.symm⟩
theorem shl_u32 {d r : Nat} (h : d * 2 ^ (8 * r) < 4294967296) : IntKind.u32.wrap ((d : Int) * 2 ^ (8 * (r : Int)).toNat) = ((d * 2 ^ (8 * r) : Nat) : Int) := by
  have e : (d : Int) * 2 ^ (8 * (r : Int)).toNat = ((d * 2 ^ (8 * r) : Nat) : Int) := by
    rw [show (8 * (r : Int)).toNat = 8 * r by omega]; simp
  rw [e]
  exact IntWalk.u32_in _ (by omega)
/-- The base of the digits. -/
def B32 : Nat := 4294967296
theorem b32_eq : B32 = 4294967296 := rfl
theorem b32_pow : B32 = 256 ^ 4 := rfl
/-- Digit i to the base 2^32. -/
def wd (n i : Nat) : Nat := n / B32 ^ i % B32
theorem wd_lt (n i : Nat) : wd n i < 4294967296 := by unfold wd; exact Nat.mod_lt _ (by decide)

/-- The part of a number that lies in its first k bytes. -/
def low (n k : Nat) : Nat := n % 256 ^ k

theorem b32_powj (j : Nat) : B32 ^ j = 256 ^ (4 * j) := by rw [b32_pow, ← Nat.pow_mul]
theorem low_div (v k m : Nat) (h : m ≤ k) : low v k / 256 ^ m = v / 256 ^ m % 256 ^ (k - m) := by
  unfold low
  have : 256 ^ k = 256 ^ m * 256 ^ (k - m) := by rw [← Nat.pow_add]; congr 1; omega
  rw [this, Nat.mod_mul_right_div_self]
theorem low_succ (v k : Nat) : low v (k + 1) = low v k + 256 ^ k * dig v k := by
  unfold low dig; rw [Nat.pow_succ, Nat.mod_mul]
theorem low_lt (v k : Nat) : low v k < 256 ^ k := Nat.mod_lt _ (Nat.pow_pos (by omega))
theorem low_zero (v : Nat) : low v 0 = 0 := by simp [low, Nat.mod_one]
theorem low_all {s : ByteArray} : low (V s) s.size = V s := Nat.mod_eq_of_lt (V_lt s)
theorem wd_zero (j : Nat) : wd 0 j = 0 := by simp [wd]
theorem wd_small {n j : Nat} (h : n < 256 ^ (4 * j)) : wd n j = 0 := by
  unfold wd; rw [b32_powj, Nat.div_eq_of_lt h]; rfl
/-- The digit that holds byte k. -/
theorem wd_low_at (v q r : Nat) (hr : r < 4) : wd (low v (4 * q + r)) q = v / 256 ^ (4 * q) % 256 ^ r := by
  unfold wd
  rw [b32_powj, low_div _ _ _ (by omega), show 4 * q + r - 4 * q = r by omega]
  apply Nat.mod_eq_of_lt
  exact Nat.lt_of_lt_of_le (Nat.mod_lt _ (Nat.pow_pos (by omega))) (by rw [b32_pow]; exact Nat.pow_le_pow_right (by omega) (by omega))
theorem wd_step_at (v k q r : Nat) (hq : q = k / 4) (hr : r = k % 4) :
    wd (low v k) q < 2 ^ (8 * r) ∧ wd (low v (k + 1)) q = dig v k * 2 ^ (8 * r) + wd (low v k) q ∧ dig v k * 2 ^ (8 * r) < 4294967296 := by
  have hk : k = 4 * q + r := by omega
  have hr4 : r < 4 := by omega
  subst hk
  rw [pow256, wd_low_at v q r hr4]
  have hd : dig v (4 * q + r) = v / 256 ^ (4 * q) / 256 ^ r % 256 := by unfold dig; rw [Nat.pow_add, Nat.div_div_eq_div_mul]
  have hdl : dig v (4 * q + r) < 256 := Nat.mod_lt _ (by omega)
  refine ⟨Nat.mod_lt _ (Nat.pow_pos (by omega)), ?_, ?_⟩
  · rcases Nat.lt_or_ge r 3 with h3 | h3
    · rw [Nat.add_assoc, wd_low_at v q (r + 1) (by omega), hd, Nat.pow_succ, Nat.mod_mul, Nat.mul_comm (256 ^ r)]; omega
    · obtain rfl : r = 3 := by omega
      unfold wd
      rw [b32_powj, low_div _ _ _ (by omega), show 4 * q + 3 + 1 - 4 * q = 3 + 1 by omega, hd, Nat.pow_succ, Nat.mod_mul, Nat.mul_comm (256 ^ 3)]
      rw [Nat.mod_eq_of_lt]
      · omega
      · have h1 : v / 256 ^ (4 * q) % 256 ^ 3 < 256 ^ 3 := Nat.mod_lt _ (by decide)
        have h2 : v / 256 ^ (4 * q) / 256 ^ 3 % 256 < 256 := Nat.mod_lt _ (by decide)
        have h3 : B32 = 256 ^ 3 * 256 := rfl
        omega
  · have : 256 ^ r ≤ 256 ^ 3 := Nat.pow_le_pow_right (by omega) (by omega)
    have h4 := Nat.mul_le_mul (show dig v (4 * q + r) ≤ 255 by omega) this
    omega
theorem wd_step_other (v k q j : Nat) (hq : q = k / 4) (hj : j ≠ q) : wd (low v (k + 1)) j = wd (low v k) j := by
  rcases Nat.lt_or_ge j q with h | h
  · unfold wd
    rw [b32_powj, low_div _ _ _ (by omega), low_div _ _ _ (by omega)]
    have e1 : 256 ^ (k + 1 - 4 * j) = B32 * 256 ^ (k + 1 - 4 * j - 4) := by rw [b32_pow, ← Nat.pow_add]; congr 1; omega
    have e2 : 256 ^ (k - 4 * j) = B32 * 256 ^ (k - 4 * j - 4) := by rw [b32_pow, ← Nat.pow_add]; congr 1; omega
    rw [e1, e2, Nat.mod_mul_right_mod, Nat.mod_mul_right_mod]
  · rw [wd_small (Nat.lt_of_lt_of_le (low_lt v (k + 1)) (Nat.pow_le_pow_right (by omega) (by omega))), wd_small (Nat.lt_of_lt_of_le (low_lt v k) (Nat.pow_le_pow_right (by omega) (by omega)))]

theorem set_row {w : World} {g t n : Nat} {f h : Nat → Nat} {k : IntKind} {i : Nat} {v : Int} (hrow : w.rowIs g t n (fun j => .int k (f j : Nat))) (hv : v = (h i : Nat)) (ho : ∀ j, j ≠ i → h j = f j) :
    (w.setCell ⟨g, i, none⟩ (.int k v)).rowIs g t n (fun j => .int k (h j : Nat)) := by
  refine (hrow.set i (.int k v)).congr fun j _ => ?_
  show (if j = i then _ else _) = _
  split
  · rename_i e; subst e; rw [hv]
  · rename_i e; rw [ho j e]

end Go.Proofs.YtehbbghobagkjaaGreatDoor


/-
  Contracts of package natural, the fifth part: trim, store.
-/
namespace Go.Proofs.YtehbbghobagkjaaGreatDoor
open Go.RowKit
set_option linter.unusedVariables false

/-- n cells from place o of block g on are the first n digits of N. -/
def Words (w : World) (g o n N : Nat) : Prop := ∀ j, j < n → w.cell? ⟨g, o + j, none⟩ = some (.int .u32 (wd N j : Nat))
/-- A slice of n digits that reads as the number N. -/
def Sl (w : World) (v : Value) (n N : Nat) : Prop :=
  ∃ A c, v = .slice A n c ∧ n ≤ c ∧ c ≤ 1000 ∧ (0 < n → ∃ g o, A = some ⟨g, o, none⟩ ∧ g < w.heap.size ∧ Words w g o n N)
theorem Words.below {w w' : World} {g o n N : Nat} (h : Words w g o n N) (hb : Below w.heap.size w w') (hg : g < w.heap.size) : Words w' g o n N :=
  fun j hj => (hb.cell (p := ⟨g, o + j, none⟩) hg).trans (h j hj)
theorem Sl.below {w w' : World} {v : Value} {n N : Nat} (h : Sl w v n N) (hb : Below w.heap.size w w') : Sl w' v n N := by
  obtain ⟨A, c, rfl, h1, h2, h3⟩ := h
  refine ⟨A, c, rfl, h1, h2, fun hn => ?_⟩
  obtain ⟨g, o, rfl, hg, hw⟩ := h3 hn
  exact ⟨g, o, rfl, Nat.lt_of_lt_of_le hg hb.size, hw.below hb hg⟩

/-- The number of digits. -/
def nd (n : Nat) : Nat := ((enc n).length + 3) / 4
theorem nd_le {n m : Nat} : nd n ≤ m ↔ n < B32 ^ m := by
  unfold nd
  rw [b32_powj, ← enc_length_le]
  omega
theorem nd_lt (n : Nat) : n < B32 ^ nd n := nd_le.1 (Nat.le_refl _)
theorem nd_zero : nd 0 = 0 := rfl
theorem nd_pos {n : Nat} (h : 0 < n) : 0 < nd n := by
  rcases Nat.eq_zero_or_pos (nd n) with e | e
  · have := nd_lt n; rw [e] at this; simp at this; omega
  · exact e
theorem nd_can {s : ByteArray} (h : Can s) : nd (V s) = (s.size + 3) / 4 := by
  unfold nd V; rw [enc_bval h.2, ← size_eq]
theorem b32_pos (k : Nat) : 0 < B32 ^ k := Nat.pow_pos (by decide)
/-- The highest digit is 0 exactly if one digit fewer is enough. -/
theorem wd_top {n m : Nat} (h : n < B32 ^ (m + 1)) : wd n m = 0 ↔ n < B32 ^ m := by
  unfold wd
  have h1 : n / B32 ^ m < B32 := Nat.div_lt_of_lt_mul (by rw [Nat.pow_succ] at h; exact h)
  rw [Nat.mod_eq_of_lt h1, Nat.div_eq_zero_iff]
  have := b32_pos m
  omega

theorem dig_of_wd {N k q r : Nat} (hq : q = k / 4) (hr : r = k % 4) : (wd N q : Int) / 2 ^ (8 * r) % 256 = (dig N k : Nat) := by
  have e : wd N q / 2 ^ (8 * r) % 256 = dig N k := by
    have hk : k = 4 * q + r := by omega
    have hr4 : r < 4 := by omega
    subst hk
    unfold wd dig
    rw [b32_powj, pow256, Nat.pow_add, ← Nat.div_div_eq_div_mul]
    generalize N / 256 ^ (4 * q) = x
    have : B32 = 256 ^ r * 256 ^ (4 - r) := by rw [b32_pow, ← Nat.pow_add]; congr 1; omega
    rw [this, Nat.mod_mul_right_div_self]
    have h4 : 256 ^ (4 - r) = 256 * 256 ^ (3 - r) := by rw [Nat.mul_comm, ← Nat.pow_succ]; congr 1; omega
    rw [h4, Nat.mod_mul_right_mod]
  rw [← e]
  simp

end Go.Proofs.YtehbbghobagkjaaGreatDoor

