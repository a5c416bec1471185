/-
  Contracts of package natural, the thirteenth part: slices.Reverse at bytes; decimal digits.
-/
import Derived.Test.YtjbcicgbemepbaaDoorNat12
namespace Go.Proofs.YtjbcicgbemepbaaDoor
open Go.RowKit
set_option linter.unusedVariables false

/-- The k outermost pairs of n places exchanged. -/
def rev (n k : Nat) (h : Nat → Nat) (j : Nat) : Nat := if j < n ∧ (j < k ∨ n - 1 - j < k) then h (n - 1 - j) else h j
/-- Block g has L cells, the first n of which are the bytes h. -/
def RowB (w : World) (g tt L n : Nat) (h : Nat → Nat) : Prop := ∃ f : Nat → Value, w.rowIs g tt L f ∧ ∀ j, j < n → f j = .int .u8 (h j : Nat)
theorem RowB.cell {w : World} {g tt L n : Nat} {h : Nat → Nat} (hr : RowB w g tt L n h) {j : Nat} (hj : j < n) (hL : n ≤ L) : w.cell? ⟨g, j, none⟩ = some (.int .u8 (h j : Nat)) := by
  obtain ⟨f, h1, h2⟩ := hr
  rw [h1.cell (by omega), h2 j hj]
theorem RowB.frozen {w : World} {g tt L n : Nat} {h : Nat → Nat} (hr : RowB w g tt L n h) (j : Nat) : w.frozen? ⟨g, j, none⟩ = false := by
  obtain ⟨f, h1, h2⟩ := hr
  exact h1.frozen j
theorem RowB.swap {w : World} {g tt L n k : Nat} {h : Nat → Nat} (hr : RowB w g tt L n (rev n k h)) (hk : k < n - 1 - k) {a b : Int} (ha : a = (h (n - 1 - k) : Nat)) (hb : b = (h k : Nat)) :
    RowB ((w.setCell ⟨g, k, none⟩ (.int .u8 a)).setCell ⟨g, n - 1 - k, none⟩ (.int .u8 b)) g tt L n (rev n (k + 1) h) := by
  obtain ⟨f, h1, h2⟩ := hr
  refine ⟨_, (h1.set k _).set (n - 1 - k) _, fun j hj => ?_⟩
  have e := h2 j hj
  by_cases e1 : j = n - 1 - k
  · rw [if_pos e1, hb]
    unfold rev
    rw [if_pos (by omega), show n - 1 - j = k by omega]
  · rw [if_neg e1]
    by_cases e2 : j = k
    · rw [if_pos e2, ha]
      unfold rev
      rw [if_pos (by omega), e2]
    · rw [if_neg e2, e]
      unfold rev
      by_cases e3 : j < k ∨ n - 1 - j < k
      · rw [if_pos ⟨hj, e3⟩, if_pos (by omega)]
      · rw [if_neg (by omega), if_neg (by omega)]

/-! ### Decimal digits -/
/-- Decimal digit k. -/
def dd (n k : Nat) : Nat := n / 10 ^ k % 10
theorem dd_lt (n k : Nat) : dd n k < 10 := Nat.mod_lt _ (by omega)
/-- The number of decimal digits. -/
def dlen : Nat → Nat → Nat
  | 0, _ => 0
  | f + 1, n => if n = 0 then 0 else dlen f (n / 10) + 1
def ndec (n : Nat) : Nat := dlen n n
theorem dlen_spec : ∀ f n, n ≤ f → n < 10 ^ dlen f n ∧ (0 < n → 10 ^ (dlen f n - 1) ≤ n ∧ 0 < dlen f n) := by
  intro f
  induction f with
  | zero => intro n h; have : n = 0 := by omega
            subst this; simp [dlen]
  | succ f ih =>
    intro n h
    unfold dlen
    split
    · rename_i e; subst e; simp
    · rename_i e
      have ⟨h1, h2⟩ := ih (n / 10) (by omega)
      refine ⟨by rw [Nat.pow_succ]; omega, fun _ => ⟨?_, by omega⟩⟩
      rw [Nat.add_sub_cancel]
      rcases Nat.eq_zero_or_pos (n / 10) with h0 | h0
      · rw [h0] at h1 ⊢
        have : dlen f 0 = 0 := by cases f <;> simp [dlen]
        rw [this]; simp; omega
      · have ⟨h3, h4⟩ := h2 h0
        obtain ⟨k, hk⟩ : ∃ k, dlen f (n / 10) = k + 1 := ⟨dlen f (n / 10) - 1, by omega⟩
        rw [hk] at h3 ⊢
        rw [Nat.add_sub_cancel] at h3
        rw [Nat.pow_succ]; omega
theorem ndec_hi (n : Nat) : n < 10 ^ ndec n := (dlen_spec n n (Nat.le_refl _)).1
theorem ndec_lo {n : Nat} (h : 0 < n) : 10 ^ (ndec n - 1) ≤ n ∧ 0 < ndec n := (dlen_spec n n (Nat.le_refl _)).2 h
theorem ndec_le {n k : Nat} : ndec n ≤ k ↔ n < 10 ^ k := by
  constructor
  · intro h; exact Nat.lt_of_lt_of_le (ndec_hi n) (Nat.pow_le_pow_right (by omega) h)
  · intro h
    rcases Nat.eq_zero_or_pos n with e | e
    · subst e; exact Nat.zero_le _
    · have ⟨h1, h2⟩ := ndec_lo e
      have := (Nat.pow_lt_pow_iff_right (a := 10) (by omega)).1 (Nat.lt_of_le_of_lt h1 h)
      omega
theorem dd_high {n k : Nat} (h : n < 10 ^ k) : dd n k = 0 := by unfold dd; rw [Nat.div_eq_of_lt h]
theorem dd_top {n : Nat} (h : 0 < n) : dd n (ndec n - 1) ≠ 0 := by
  have ⟨h1, h2⟩ := ndec_lo h
  have h3 := ndec_hi n
  obtain ⟨k, hk⟩ : ∃ k, ndec n = k + 1 := ⟨ndec n - 1, by omega⟩
  rw [hk] at h1 h3 ⊢
  rw [Nat.add_sub_cancel] at *
  unfold dd
  have hp := Nat.pow_pos (n := k) (show 0 < 10 by omega)
  have h4 : n / 10 ^ k < 10 := Nat.div_lt_of_lt_mul (by rw [Nat.pow_succ] at h3; exact h3)
  have h5 : 1 ≤ n / 10 ^ k := (Nat.le_div_iff_mul_le hp).2 (by omega)
  omega
/-- The text of a number: its decimal digits, the highest one first. -/
def decT (n : Nat) : List UInt8 := if n = 0 then [48] else (List.range (ndec n)).map fun j => UInt8.ofNat (48 + dd n (ndec n - 1 - j))
/-- The text as a string. -/
def T (n : Nat) : ByteArray := ⟨(decT n).toArray⟩
/-- A chunk's digits are the number's. -/
theorem dd_chunk (n i j : Nat) (h : j < 9) : n / 10 ^ (9 * i) % 1000000000 / 10 ^ j % 10 = dd n (9 * i + j) := by
  have e : (1000000000 : Nat) = 10 ^ j * (10 * 10 ^ (8 - j)) := by
    rw [← Nat.pow_succ', ← Nat.pow_add, show j + (8 - j + 1) = 9 by omega]
  unfold dd
  rw [e, Nat.mod_mul_right_div_self, Nat.mod_mul_right_mod, Nat.div_div_eq_div_mul, ← Nat.pow_add]
theorem chunk_next (n i : Nat) : n / 10 ^ (9 * i) / 1000000000 = n / 10 ^ (9 * (i + 1)) := by
  rw [Nat.div_div_eq_div_mul]
  have : 10 ^ (9 * (i + 1)) = 10 ^ (9 * i) * 1000000000 := by rw [Nat.mul_add, Nat.pow_add]
  rw [this]
theorem chunk_bound {n i : Nat} (hn : n < Lim) (h : 0 < n / 10 ^ (9 * i)) : i < 128 := by
  have h1 : 10 ^ (9 * i) ≤ n := by
    rcases Nat.lt_or_ge n (10 ^ (9 * i)) with h2 | h2
    · rw [Nat.div_eq_of_lt h2] at h; omega
    · exact h2
  have h2 : 256 ^ i ≤ 10 ^ (9 * i) := by rw [Nat.pow_mul]; exact Nat.pow_le_pow_left (by omega) i
  have h3 : 256 ^ i < 256 ^ 128 := by rw [← lim_eq]; omega
  exact (Nat.pow_lt_pow_iff_right (a := 256) (by omega)).1 h3

end Go.Proofs.YtjbcicgbemepbaaDoor
