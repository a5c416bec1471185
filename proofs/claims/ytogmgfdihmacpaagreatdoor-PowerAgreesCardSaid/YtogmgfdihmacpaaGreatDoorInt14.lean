/-
  The extended Euclidean algorithm in numbers; step in numbers.
-/
import Derived.Test.YtogmgfdihmacpaaGreatDoorInt13
namespace Go.Proofs.YtogmgfdihmacpaaGreatDoor
open Go.RowKit
set_option linter.unusedVariables false

/-- What holds ahead of each round: the magnitudes with alternating signs. -/
def Inv (a b r0 r1 : Nat) (σ : Bool) (X0 X1 Y0 Y1 : Nat) : Prop :=
  r0 * X1 + r1 * X0 = b ∧ r0 * Y1 + r1 * Y0 = a ∧ (a : Int) * sg σ X0 + b * sg (!σ) Y0 = r0 ∧ (a : Int) * sg (!σ) X1 + b * sg σ Y1 = r1 ∧ Nat.gcd r0 r1 = Nat.gcd a b ∧
  ((r0 = a ∧ r1 = b ∧ X0 = 1 ∧ X1 = 0 ∧ σ = false ∧ Y0 = 0) ∨ (X0 ≤ X1 ∧ 1 ≤ X1 ∧ (r1 = 0 → X0 < X1) ∧ r1 < r0)) ∧ X0 < Lim ∧ X1 < Lim ∧ Y0 < Lim ∧ Y1 < Lim
theorem lim_two : 2 ≤ Lim := by have := small_lim (n := 2) (by omega); omega
theorem Inv.start (a b : Nat) : Inv a b a b false 1 0 0 1 := by
  have := lim_two
  refine ⟨by omega, by omega, by simp [sg], by simp [sg], rfl, .inl ⟨rfl, rfl, rfl, rfl, rfl, rfl⟩, by omega, by omega, by omega, by omega⟩
theorem sg_step (σ : Bool) (X0 X1 q : Nat) : sg σ X0 - q * sg (!σ) X1 = sg σ (X0 + q * X1) := by
  have e : ((X0 + q * X1 : Nat) : Int) = X0 + q * X1 := by rw [Int.natCast_add, Int.natCast_mul]
  cases σ
  · show (X0 : Int) - q * -(X1 : Int) = ((X0 + q * X1 : Nat) : Int)
    rw [Int.mul_neg, e]; omega
  · show -(X0 : Int) - q * (X1 : Int) = -((X0 + q * X1 : Nat) : Int)
    rw [e]; omega
theorem sg_step' (σ : Bool) (X0 X1 q : Nat) : sg (!σ) X0 - q * sg σ X1 = sg (!σ) (X0 + q * X1) := by
  have := sg_step (!σ) X0 X1 q
  rwa [Bool.not_not] at this
theorem lin_step {a b x0 y0 x1 y1 r0 r1 q : Int} (h0 : a * x0 + b * y0 = r0) (h1 : a * x1 + b * y1 = r1) : a * (x0 - q * x1) + b * (y0 - q * y1) = r0 - q * r1 := by
  rw [← h0, ← h1, Int.mul_sub, Int.mul_sub, Int.mul_add, Int.mul_left_comm a q, Int.mul_left_comm b q]
  omega
theorem nat_step {r0 r1 X0 X1 q r : Nat} (e : r0 = r1 * q + r) : r1 * (X0 + q * X1) + r * X1 = r0 * X1 + r1 * X0 := by
  rw [e, Nat.mul_add, Nat.add_mul, Nat.mul_assoc]; omega
theorem Inv.next {a b r0 r1 X0 X1 Y0 Y1 : Nat} {σ : Bool} (h : Inv a b r0 r1 σ X0 X1 Y0 Y1) (hr : r1 ≠ 0) (ha : a < Lim) (hb : b < Lim) :
    Inv a b r1 (r0 % r1) (!σ) X1 (X0 + r0 / r1 * X1) Y1 (Y0 + r0 / r1 * Y1) := by
  obtain ⟨h1, h2, h3, h4, h5, h6, h7, h8, h9, h10⟩ := h
  have e : r0 = r1 * (r0 / r1) + r0 % r1 := (Nat.div_add_mod r0 r1).symm
  have hl := Nat.mod_lt r0 (Nat.pos_of_ne_zero hr)
  have n1 : r1 * (X0 + r0 / r1 * X1) + r0 % r1 * X1 = b := by rw [nat_step e]; exact h1
  have n2 : r1 * (Y0 + r0 / r1 * Y1) + r0 % r1 * Y1 = a := by rw [nat_step e]; exact h2
  have le1 : X0 + r0 / r1 * X1 ≤ r1 * (X0 + r0 / r1 * X1) := Nat.le_mul_of_pos_left _ (Nat.pos_of_ne_zero hr)
  have le2 : Y0 + r0 / r1 * Y1 ≤ r1 * (Y0 + r0 / r1 * Y1) := Nat.le_mul_of_pos_left _ (Nat.pos_of_ne_zero hr)
  have em : ((r0 % r1 : Nat) : Int) = r0 - (r0 / r1 : Nat) * r1 := by
    have : ((r1 * (r0 / r1) + r0 % r1 : Nat) : Int) = (r1 : Int) * (r0 / r1 : Nat) + (r0 % r1 : Nat) := by rw [Int.natCast_add, Int.natCast_mul]
    rw [← e, Int.mul_comm] at this
    omega
  have l := lin_step (q := (r0 / r1 : Nat)) h3 h4
  rw [sg_step, sg_step'] at l
  refine ⟨n1, n2, by rw [Bool.not_not]; exact h4, by rw [Bool.not_not, em]; exact l, ?_, .inr ?_, h8, by omega, h10, by omega⟩
  · rw [← h5, Nat.gcd_comm r1, ← Nat.gcd_rec, Nat.gcd_comm]
  · rcases h6 with ⟨_, _, rfl, rfl, _, _⟩ | ⟨c1, c2, c3, c4⟩
    · refine ⟨by omega, by omega, fun _ => by omega, hl⟩
    · have q1 : 1 ≤ r0 / r1 := (Nat.one_le_div_iff (Nat.pos_of_ne_zero hr)).2 (Nat.le_of_lt c4)
      have q2 : 1 * X1 ≤ r0 / r1 * X1 := Nat.mul_le_mul_right _ q1
      refine ⟨by omega, by omega, fun h0 => ?_, hl⟩
      have q3 : 2 ≤ r0 / r1 := by
        rcases Nat.lt_or_ge (r0 / r1) 2 with q | q
        · have q4 : r0 / r1 = 1 := by omega
          rw [q4, h0] at e; omega
        · exact q
      have q5 : 2 * X1 ≤ r0 / r1 * X1 := Nat.mul_le_mul_right _ q3
      omega
/-- What the algorithm finds. -/
def ExtP (a b g : Nat) (x y : Int) : Prop :=
  g = Nat.gcd a b ∧ (a : Int) * x + b * y = g ∧ (b = 0 → x = 1 ∧ y = 0) ∧ (b ≠ 0 → 0 ≤ x ∧ x < (b / g : Nat)) ∧ x.natAbs < Lim ∧ y.natAbs < Lim
theorem Inv.div {a b r0 X0 X1 Y0 Y1 : Nat} {σ : Bool} (h : Inv a b r0 0 σ X0 X1 Y0 Y1) (hb : b ≠ 0) : b / r0 = X1 ∧ X0 < X1 := by
  obtain ⟨h1, h2, h3, h4, h5, h6, _⟩ := h
  rcases h6 with ⟨_, q, _⟩ | ⟨c1, c2, c3, c4⟩
  · exact absurd q.symm hb
  · rw [Nat.zero_mul, Nat.add_zero] at h1
    exact ⟨by rw [← h1]; exact Nat.mul_div_cancel_left _ c4, c3 rfl⟩
theorem sg_lim (g : Bool) {n : Nat} (h : n < Lim) : (sg g n).natAbs < Lim := by rw [sg_natAbs]; exact h
theorem Inv.pos {a b r0 X0 X1 Y0 Y1 : Nat} {σ : Bool} (h : Inv a b r0 0 σ X0 X1 Y0 Y1) (hx : 0 ≤ sg σ X0) : ExtP a b r0 (sg σ X0) (sg (!σ) Y0) := by
  have hd := h.div
  obtain ⟨h1, h2, h3, h4, h5, h6, h7, h8, h9, h10⟩ := h
  refine ⟨by rw [← h5, Nat.gcd_zero_right], h3, fun hb => ?_, fun hb => ⟨hx, ?_⟩, sg_lim _ h7, sg_lim _ h9⟩
  · rcases h6 with ⟨_, _, rfl, _, rfl, rfl⟩ | ⟨c1, c2, c3, c4⟩
    · exact ⟨rfl, rfl⟩
    · rw [Nat.zero_mul, Nat.add_zero, hb] at h1
      have : 0 < r0 * X1 := Nat.mul_pos (by omega) (by omega)
      omega
  · rw [(hd hb).1]
    have := (hd hb).2
    cases σ
    · simp only [sg]; simp; omega
    · simp only [sg] at hx ⊢; simp at hx ⊢; omega
theorem Inv.neg {a b r0 X0 X1 Y0 Y1 : Nat} {σ : Bool} (h : Inv a b r0 0 σ X0 X1 Y0 Y1) (hx : sg σ X0 < 0) :
    ExtP a b r0 (sg σ X0 + sg (!σ) X1) (sg (!σ) Y0 + sg σ Y1) := by
  have hd := h.div
  obtain ⟨h1, h2, h3, h4, h5, h6, h7, h8, h9, h10⟩ := h
  have hσ : σ = true := by
    cases σ
    · simp [sg] at hx; omega
    · rfl
  subst hσ
  have hX : 0 < X0 := by simp [sg] at hx; omega
  have hb : b ≠ 0 := by
    rcases h6 with ⟨_, _, _, _, q, _⟩ | ⟨c1, c2, c3, c4⟩
    · cases q
    · rw [Nat.zero_mul, Nat.add_zero] at h1
      have : 0 < r0 * X1 := Nat.mul_pos (by omega) (by omega)
      omega
  have hd := hd hb
  refine ⟨by rw [← h5, Nat.gcd_zero_right], ?_, fun q => absurd q hb, fun _ => ?_, ?_, ?_⟩
  · rw [Int.mul_add, Int.mul_add]
    have : (a : Int) * sg (!true) X1 + b * sg true Y1 = 0 := h4
    omega
  · rw [hd.1]
    show 0 ≤ -(X0 : Int) + X1 ∧ -(X0 : Int) + X1 < X1
    omega
  · show (-(X0 : Int) + X1).natAbs < Lim
    omega
  · show ((Y0 : Int) + -(Y1 : Int)).natAbs < Lim
    omega

theorem Int_lim {z : Int} (h : z.natAbs < Lim) : IVal (ZG z) (ZS z) := ival_Z z h
theorem step_any (x0 x1 : Int) (q : Nat) (w : World) (h0 : x0.natAbs < Lim) (h1 : x1.natAbs < Lim) (hq : q < Lim) (hp : (q * x1).natAbs < Lim) (hn : (x0 - q * x1).natAbs < Lim) :
    Calls Tryz.prog 128 #[.agg #[.bool (ZG x0), .string (ZS x0), .bool (ZG x1), .string (ZS x1)], .string (E q)] w fun e w' =>
      e = .returned (.agg #[.bool (ZG x1), .string (ZS x1), .bool (ZG (x0 - q * x1)), .string (ZS (x0 - q * x1))]) ∧ Below w.heap.size w w' := by
  have hF := fun w => from_z (E q) w (can_E' hq)
  rw [V_E] at hF
  have hM := fun w => imul_yes (ZG q) (ZG x1) (ZS q) (ZS x1) w (ival_Z q (by simpa using hq)) (ival_Z x1 h1)
  rw [IZ_Z, IZ_Z, zokN_yes hp] at hM
  have hS := fun w => isub_yes (ZG x0) (ZG (q * x1)) (ZS x0) (ZS (q * x1)) w (ival_Z x0 h0) (ival_Z _ hp)
  rw [IZ_Z, IZ_Z, zokN_yes hn] at hS
  exact step_core _ _ _ _ _ _ _ _ _ _ _ 0 0 w hF hM hS
end Go.Proofs.YtogmgfdihmacpaaGreatDoor
