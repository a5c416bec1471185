/-
  What Extended finds is there, and there is one of it.
-/
import Derived.Test.YtogmgfdihmacpaaGreatDoorInt15
namespace Go.Proofs.YtogmgfdihmacpaaGreatDoor
open Go.RowKit
set_option linter.unusedVariables false

theorem ext_from {a b : Nat} (ha : a < Lim) (hb : b < Lim) : ∀ (n r1 r0 X0 X1 Y0 Y1 : Nat) (σ : Bool), r1 ≤ n → Inv a b r0 r1 σ X0 X1 Y0 Y1 → ∃ g x y, ExtP a b g x y := by
  intro n
  induction n with
  | zero =>
    intro r1 r0 X0 X1 Y0 Y1 σ h inv
    obtain rfl : r1 = 0 := by omega
    by_cases hx : sg σ X0 < 0
    · exact ⟨_, _, _, inv.neg hx⟩
    · exact ⟨_, _, _, inv.pos (by omega)⟩
  | succ n ih =>
    intro r1 r0 X0 X1 Y0 Y1 σ h inv
    by_cases h0 : r1 = 0
    · subst h0
      by_cases hx : sg σ X0 < 0
      · exact ⟨_, _, _, inv.neg hx⟩
      · exact ⟨_, _, _, inv.pos (by omega)⟩
    · have := Nat.mod_lt r0 (Nat.pos_of_ne_zero h0)
      exact ih _ _ _ _ _ _ _ (by omega) (inv.next h0 ha hb)
theorem ext_exists {a b : Nat} (ha : a < Lim) (hb : b < Lim) : ∃ g x y, ExtP a b g x y := ext_from ha hb b b a 1 0 0 1 false (Nat.le_refl _) (Inv.start a b)
theorem small_mul {d B k : Int} (h : d = B * k) (h1 : d < B) (h2 : -B < d) : d = 0 := by
  have hB : 0 < B := by omega
  have hk : k = 0 := by
    rcases Int.lt_trichotomy k 0 with q | q | q
    · have : B * k ≤ B * (-1) := Int.mul_le_mul_of_nonneg_left (by omega) (by omega)
      omega
    · exact q
    · have : B * 1 ≤ B * k := Int.mul_le_mul_of_nonneg_left (by omega) (by omega)
      omega
  rw [h, hk, Int.mul_zero]
theorem bez_unique {A B x y x' y' : Int} (h : A * x + B * y = 1) (h' : A * x' + B * y' = 1) (hx : 0 ≤ x) (hx' : 0 ≤ x') (hl : x < B) (hl' : x' < B) : x = x' ∧ y = y' := by
  have e : A * (x - x') = B * (y' - y) := by rw [Int.mul_sub, Int.mul_sub]; omega
  have hd : x - x' = B * (x * (y' - y) + y * (x - x')) := by
    have e1 : x - x' = (x - x') * (A * x + B * y) := by rw [h, Int.mul_one]
    have e2 : (x - x') * (A * x) = B * (x * (y' - y)) := by
      rw [← Int.mul_assoc, Int.mul_comm (x - x') A, e, Int.mul_assoc, Int.mul_comm (y' - y) x]
    have e3 : (x - x') * (B * y) = B * (y * (x - x')) := by
      rw [Int.mul_comm (x - x'), Int.mul_assoc]
    rw [Int.mul_add, e2, e3, ← Int.mul_add] at e1
    exact e1
  have h0 := small_mul hd (by omega) (by omega)
  have hxx : x = x' := by omega
  refine ⟨hxx, ?_⟩
  rw [h0, Int.mul_zero] at e
  have hB : B ≠ 0 := by omega
  rcases Int.mul_eq_zero.1 e.symm with q | q
  · exact absurd q hB
  · omega
theorem ext_one {a b g g' : Nat} {x y x' y' : Int} (h : ExtP a b g x y) (h' : ExtP a b g' x' y') : g = g' ∧ x = x' ∧ y = y' := by
  obtain ⟨h1, h2, h3, h4, _, _⟩ := h
  obtain ⟨k1, k2, k3, k4, _, _⟩ := h'
  have hg : g = g' := by rw [h1, k1]
  subst hg
  refine ⟨rfl, ?_⟩
  by_cases hb : b = 0
  · exact ⟨(h3 hb).1.trans (k3 hb).1.symm, (h3 hb).2.trans (k3 hb).2.symm⟩
  · have hgp : 0 < g := by rw [h1]; exact Nat.gcd_pos_of_pos_right _ (Nat.pos_of_ne_zero hb)
    obtain ⟨A, hA⟩ : g ∣ a := by rw [h1]; exact Nat.gcd_dvd_left a b
    obtain ⟨B, hB⟩ : g ∣ b := by rw [h1]; exact Nat.gcd_dvd_right a b
    have eB : b / g = B := by rw [hB]; exact Nat.mul_div_cancel_left _ hgp
    rw [eB] at h4 k4
    have one : ∀ u v : Int, (a : Int) * u + b * v = g → (A : Int) * u + B * v = 1 := by
      intro u v q
      rw [hA, hB, Int.natCast_mul, Int.natCast_mul, Int.mul_assoc, Int.mul_assoc, ← Int.mul_add] at q
      exact Int.eq_of_mul_eq_mul_left (a := (g : Int)) (by omega) (by rw [q, Int.mul_one])
    exact bez_unique (one x y h2) (one x' y' k2) (h4 hb).1 (k4 hb).1 (h4 hb).2 (k4 hb).2
theorem iext_fix (s t : ByteArray) (hs : Can s) (ht : Can t) : ∃ (g : Nat) (x y : Int), ExtP (V s) (V t) g x y ∧
    ∀ w, Calls Tryz.prog 105 #[.string s, .string t] w fun e w' => e = .returned (.tuple #[.string (E g), .agg #[.bool (ZG x), .string (ZS x)], .agg #[.bool (ZG y), .string (ZS y)], .int .i64 0]) ∧ Below w.heap.size w w' := by
  obtain ⟨g, x, y, h⟩ := ext_exists (V_lim hs) (V_lim ht)
  refine ⟨g, x, y, h, fun w => iext_yes s t w hs ht _ (fun g' x' y' w' h' hb => ?_)⟩
  obtain ⟨rfl, rfl, rfl⟩ := ext_one h h'
  exact ⟨rfl, hb⟩
end Go.Proofs.YtogmgfdihmacpaaGreatDoor
