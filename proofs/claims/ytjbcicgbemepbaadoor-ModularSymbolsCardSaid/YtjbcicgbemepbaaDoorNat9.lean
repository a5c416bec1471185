/-
  Contracts of package natural, the ninth part: subtractRow, addBack.
-/
import Derived.Test.YtjbcicgbemepbaaDoorNat8
namespace Go.Proofs.YtjbcicgbemepbaaDoor
open Go.RowKit
set_option linter.unusedVariables false

/-- The borrow behind k digits of P - Z. -/
def bw (P Z k : Nat) : Nat := if P % B32 ^ k < Z % B32 ^ k then 1 else 0
theorem bw_le (P Z k : Nat) : bw P Z k ≤ 1 := by unfold bw; split <;> omega
theorem bw_zero (P Z : Nat) : bw P Z 0 = 0 := by simp [bw, Nat.mod_one]
theorem bw_step (P Z k : Nat) : bout (wd P k) (wd Z k) (bw P Z k) = bw P Z (k + 1) := by
  unfold bout bw
  have hp := b32_pos k
  rw [Nat.pow_succ, Nat.mod_mul, Nat.mod_mul]
  have h1 := Nat.mod_lt P hp
  have h2 := Nat.mod_lt Z hp
  show (if wd P k < wd Z k + _ then 1 else 0) = if P % B32 ^ k + B32 ^ k * (wd P k) < Z % B32 ^ k + B32 ^ k * (wd Z k) then 1 else 0
  generalize wd P k = x
  generalize wd Z k = z
  generalize P % B32 ^ k = a at *
  generalize Z % B32 ^ k = c at *
  generalize B32 ^ k = p at *
  rcases Nat.lt_trichotomy x z with h | h | h
  · have := Nat.mul_le_mul_left p (show x + 1 ≤ z from h)
    rw [Nat.mul_add] at this
    rw [if_pos (by omega), if_pos (by omega)]
  · subst h
    by_cases hb : a < c
    · rw [if_pos hb, if_pos (by omega), if_pos (by omega)]
    · rw [if_neg hb, if_neg (by omega), if_neg (by omega)]
  · have := Nat.mul_le_mul_left p (show z + 1 ≤ x from h)
    rw [Nat.mul_add] at this
    rw [if_neg (by split <;> omega), if_neg (by omega)]
/-- What is left of P - Z in m + 1 digits. -/
def dif (P Z m : Nat) : Nat := (P + B32 ^ (m + 1) - Z) % B32 ^ (m + 1)
theorem bdig_step (P Z m k : Nat) (hk : k ≤ m) (hZ : Z < B32 ^ (m + 1)) : bdig (wd P k) (wd Z k) (bw P Z k) = wd (dif P Z m) k := by
  have hp := b32_pos k
  have hM : B32 ^ (m + 1) = B32 ^ k * (B32 * B32 ^ (m - k)) := by rw [← Nat.pow_succ', ← Nat.pow_add]; congr 1; omega
  have e1 : wd (dif P Z m) k = (P + B32 ^ (m + 1) - Z) / B32 ^ k % B32 := by
    unfold wd dif
    rw [hM, Nat.mod_mul_right_div_self, Nat.mod_mul_right_mod]
  rw [e1]
  rw [hM] at hZ ⊢
  have h1 := Nat.div_add_mod P (B32 ^ k)
  have h2 := Nat.div_add_mod Z (B32 ^ k)
  have h3 := Nat.mod_lt P hp
  have h4 := Nat.mod_lt Z hp
  have hc : Z / B32 ^ k < B32 * B32 ^ (m - k) := Nat.div_lt_of_lt_mul hZ
  have e2 : (P + B32 ^ k * (B32 * B32 ^ (m - k)) - Z) / B32 ^ k = P / B32 ^ k + B32 * B32 ^ (m - k) - Z / B32 ^ k - bw P Z k := by
    unfold bw
    generalize P / B32 ^ k = a at *
    generalize Z / B32 ^ k = c at *
    generalize B32 * B32 ^ (m - k) = N at *
    generalize P % B32 ^ k = u at *
    generalize Z % B32 ^ k = v at *
    generalize B32 ^ k = p at *
    by_cases hb : u < v
    · rw [if_pos hb]
      have : P + p * N - Z = p * (a + N - c - 1) + (u + p - v) := by
        have e3 : p * (a + N - c - 1) + p * (c + 1) = p * a + p * N := by rw [← Nat.mul_add, ← Nat.mul_add]; congr 1; omega
        rw [Nat.mul_add] at e3
        omega
      rw [this, Nat.mul_add_div hp, Nat.div_eq_of_lt (by omega)]; omega
    · rw [if_neg hb]
      have : P + p * N - Z = p * (a + N - c) + (u - v) := by
        have e3 : p * (a + N - c) + p * c = p * a + p * N := by rw [← Nat.mul_add, ← Nat.mul_add]; congr 1; omega
        omega
      rw [this, Nat.mul_add_div hp, Nat.div_eq_of_lt (by omega)]; omega
  rw [e2]
  have hb := bw_le P Z k
  unfold bdig wd
  rw [b32_eq] at *
  generalize P / 4294967296 ^ k = a at *
  generalize Z / 4294967296 ^ k = c at *
  generalize 4294967296 ^ (m - k) = T at *
  generalize bw P Z k = b at *
  omega
theorem bw_end {P Z m : Nat} (hP : P < B32 ^ (m + 1)) (hZ : Z < B32 ^ (m + 1)) : bw P Z (m + 1) = if P < Z then 1 else 0 := by
  unfold bw; rw [Nat.mod_eq_of_lt hP, Nat.mod_eq_of_lt hZ]
theorem dif_of {P Z m : Nat} (hP : P < B32 ^ (m + 1)) (h : Z ≤ P) : dif P Z m = P - Z := by
  unfold dif
  rw [show P + B32 ^ (m + 1) - Z = (P - Z) + B32 ^ (m + 1) by omega, Nat.add_mod_right, Nat.mod_eq_of_lt (by omega)]

/-- Of the n digits from place o on, the first k are those of R, the others those of P; outside of them f. -/
def PartAt (w : World) (g tt L o n k R P : Nat) (f : Nat → Nat) : Prop :=
  ∃ h : Nat → Nat, w.rowIs g tt L (fun j => .int .u32 (h j : Nat)) ∧ (∀ i, i < k → h (o + i) = wd R i) ∧ (∀ i, k ≤ i → i < n → h (o + i) = wd P i) ∧ ∀ j, (j < o ∨ o + n ≤ j) → h j = f j
theorem PartAt.step {w : World} {g tt L o n k R P : Nat} {f : Nat → Nat} {v : Int} (h : PartAt w g tt L o n k R P f) (hk : k < n) (hv : v = (wd R k : Nat)) :
    PartAt (w.setCell ⟨g, o + k, none⟩ (.int .u32 v)) g tt L o n (k + 1) R P f := by
  obtain ⟨h, hr, h1, h2, h3⟩ := h
  refine ⟨fun j => if j = o + k then wd R k else h j, set_row (h := fun j => if j = o + k then wd R k else h j) hr (by rw [hv]; simp) (fun j hj => by simp [hj]), fun i hi => ?_, fun i h4 h5 => ?_, fun j hj => ?_⟩
  · show (if o + i = o + k then _ else _) = _
    by_cases e : i = k
    · rw [if_pos (by omega), e]
    · rw [if_neg (by omega)]; exact h1 i (by omega)
  · show (if o + i = o + k then _ else _) = _
    rw [if_neg (by omega)]; exact h2 i (by omega) h5
  · show (if j = o + k then _ else _) = _
    rw [if_neg (by omega)]; exact h3 j hj
theorem PartAt.cell {w : World} {g tt L o n k R P : Nat} {f : Nat → Nat} (h : PartAt w g tt L o n k R P f) (hk : k < n) (hL : o + n ≤ L) : w.cell? ⟨g, o + k, none⟩ = some (.int .u32 (wd P k : Nat)) := by
  obtain ⟨h, hr, h1, h2, h3⟩ := h
  rw [hr.cell (by omega), h2 k (by omega) hk]
theorem PartAt.frozen {w : World} {g tt L o n k R P : Nat} {f : Nat → Nat} (h : PartAt w g tt L o n k R P f) (i : Nat) : w.frozen? ⟨g, i, none⟩ = false := by
  obtain ⟨h, hr, h1, h2, h3⟩ := h
  exact hr.frozen i
theorem PartAt.drewN {w : World} {g tt L o n k R P : Nat} {f : Nat → Nat} (h : PartAt w g tt L o n k R P f) (q : Nat) : PartAt (w.drewN q) g tt L o n k R P f := h
theorem PartAt.drew {w : World} {g tt L o n k R P : Nat} {f : Nat → Nat} (h : PartAt w g tt L o n k R P f) : PartAt w.drew g tt L o n k R P f := h

set_option maxHeartbeats 400000 in
set_option maxRecDepth 20000 in
theorem subtractRow_any (g o n c gd m cd q D P L tt : Nat) (f : Nat → Nat) (w : World) (hnm : n = m + 1) (hn : n ≤ c) (hc : c ≤ 1000) (hmd : m ≤ cd) (hcd : cd ≤ 1000) (hL : o + n ≤ L) (hq : q < 4294967296)
    (hD : D < B32 ^ m) (hP : P < B32 ^ (m + 1)) (hpart : PartAt w g tt L o (m + 1) 0 0 P f) (hne : gd ≠ g) (hgd : gd < w.heap.size) (hd : Words w gd 0 m D) :
    Calls Tryd.prog 54 #[.slice (some ⟨g, o, none⟩) n c, .slice (some ⟨gd, 0, none⟩) m cd, .int .u32 q] w fun e w' => e = .returned (.bool (decide (P < q * D))) ∧ PartAt w' g tt L o (m + 1) (m + 1) (dif P (q * D) m) P f ∧ Only g w w' := by
  subst hnm
  have hZ : q * D < B32 ^ (m + 1) := by
    have := end_lt (c := 0) (b32_pos m) hD hq
    simpa using this
  have hpart : PartAt w g tt L o (m + 1) 0 (dif P (q * D) m) P f := by
    obtain ⟨h, h1, h2, h3⟩ := hpart
    exact ⟨h, h1, fun i hi => absurd hi (by omega), h3⟩
  have HW := Lib.hid hd; clear hd
  have HD := Lib.hid hD; clear hD
  have HP := Lib.hid hP; clear hP
  have HZ := Lib.hid hZ; clear hZ
  have HPA := Lib.hid hpart; clear hpart
  obtain ⟨Z, hZe⟩ : ∃ Z, Z = q * D := ⟨_, rfl⟩
  rw [← hZe] at HZ HPA ⊢
  have HZE := Lib.hid hZe; clear hZe
  go_enter Tryd.func54, Tryd.ntmps54
  go_wp2
  go_loopw [7, 8, 9, 13] (fun cr br _ v wr => ∃ k : Nat, k ≤ m ∧ v = .int .i64 k ∧ cr = .int .u64 (carryM 0 q D k : Nat) ∧ br = .int .u32 (bw P Z k : Nat) ∧ PartAt wr g tt L o (m + 1) k (dif P Z m) P f ∧ Only g w wr) (fun _ _ _ v _ => m - (intOf v).toNat)
  case atStart => exact ⟨0, by omega, rfl, by rw [carryM_zero]; rfl, by rw [bw_zero]; rfl, HPA.out, Only.refl _ _⟩
  case round =>
    obtain ⟨k, hk, rfl, rfl, rfl, hpa, ho⟩ := hrel
    have hcar := carryM_lt 0 q D k hq
    have hbl := bw_le P Z k
    by_cases hlt : k < m
    · have hst := mul_step 0 q D k
      have hw0 : wd 0 k = 0 := wd_zero k
      rw [hw0, Nat.zero_add, Nat.zero_add, ← HZE.out] at hst
      have hcell := hpa.cell (by omega) hL
      have hfr := hpa.frozen (o + k)
      have hsrc : wr.cell? ⟨gd, k, none⟩ = some (.int .u32 (wd D k : Nat)) := by
        have := ho.words hgd hne HW.out k hlt
        rwa [Nat.zero_add] at this
      have b1 := wd_lt D k
      have b2 := wd_lt P k
      have b3 := wd_lt Z k
      have hmul : q * wd D k ≤ 18446744065119617025 := Nat.mul_le_mul (show q ≤ 4294967295 by omega) (show wd D k ≤ 4294967295 by omega)
      have hs1 := bw_step P Z k
      have hs2 := bdig_step P Z m k (by omega) HZ.out
      generalize wd D k = y at *
      obtain ⟨x, hx⟩ : ∃ x, x = wd P k := ⟨_, rfl⟩
      obtain ⟨z, hz⟩ : ∃ z, z = wd Z k := ⟨_, rfl⟩
      obtain ⟨cr, hcr⟩ : ∃ r, r = carryM 0 q D k := ⟨_, rfl⟩
      obtain ⟨b, hbb⟩ : ∃ b, b = bw P Z k := ⟨_, rfl⟩
      rw [← hx] at hs1 hs2 hcell b2
      rw [← hz] at hs1 hs2 hst b3
      rw [← hcr] at hst hcar ⊢
      rw [← hbb] at hs1 hs2 hbl ⊢
      have hmod : ((cr : Int) + (q : Int) * (y : Int)) % 4294967296 = (z : Int) := by rw [← hst.1]; simp
      have HST := Lib.hid hst; clear hst hx hz hcr hbb
      have HS1 := Lib.hid hs1; clear hs1
      have HS2 := Lib.hid hs2; clear hs2
      have HPA := Lib.hid hpa; clear hpa hw0
      go_wp2_with fail
      refine (sub32_any x z b _ b2 b3 hbl).mono ?_
      rintro e w' ⟨rfl, rfl⟩
      go_wp2
      go_roundw
      case rel => exact ⟨k + 1, by omega, by go_num, int_eq (by rw [← HST.out.2]; simp), int_eq (by rw [← HS1.out]), HPA.out.step (by omega) (by rw [← HS2.out]), ho.set _ _⟩
      case measure => simp [intOf]; omega
    · obtain rfl : k = m := by omega
      have hcell := hpa.cell (by omega) hL
      have hfr := hpa.frozen (o + k)
      have b2 := wd_lt P k
      have hce := carryM_end (c := 0) (d := q) (b32_pos k) HD.out
      have hzt : carryM 0 q D k = wd Z k := by
        rw [hce, Nat.zero_add, ← HZE.out]
        unfold wd
        rw [Nat.mod_eq_of_lt]
        exact Nat.div_lt_of_lt_mul (by rw [← Nat.pow_succ]; exact HZ.out)
      rw [hzt] at hcar ⊢
      have hs1 := bw_step P Z k
      have hs2 := bdig_step P Z k k (by omega) HZ.out
      have hend := bw_end HP.out HZ.out
      obtain ⟨x, hx⟩ : ∃ x, x = wd P k := ⟨_, rfl⟩
      obtain ⟨z, hz⟩ : ∃ z, z = wd Z k := ⟨_, rfl⟩
      obtain ⟨b, hbb⟩ : ∃ b, b = bw P Z k := ⟨_, rfl⟩
      rw [← hx] at hs1 hs2 hcell b2
      rw [← hz] at hs1 hs2 hcar ⊢
      rw [← hbb] at hs1 hs2 hbl ⊢
      rw [hend] at hs1
      have HS1 := Lib.hid hs1; clear hs1
      have HS2 := Lib.hid hs2; clear hs2 hx hz hbb hce hzt hend
      have HPA := Lib.hid hpa; clear hpa
      go_wp2_with fail
      refine (sub32_any x z b _ b2 hcar hbl).mono ?_
      rintro e w' ⟨rfl, rfl⟩
      go_wp2
      go_ret
      refine ⟨ret_bool ?_, HPA.out.step (by omega) (by rw [← HS2.out]), ho.set _ _⟩
      rw [HS1.out]
      by_cases hlt2 : P < Z
      · rw [if_pos hlt2, decide_eq_true hlt2]; rfl
      · rw [if_neg hlt2, decide_eq_false hlt2]; rfl

set_option maxHeartbeats 400000 in
set_option maxRecDepth 20000 in
theorem addBack_any (g o n c gd m cd D P L tt : Nat) (f : Nat → Nat) (w : World) (hnm : n = m + 1) (hn : n ≤ c) (hc : c ≤ 1000) (hmd : m ≤ cd) (hcd : cd ≤ 1000) (hL : o + n ≤ L)
    (hD : D < B32 ^ m) (hpart : PartAt w g tt L o (m + 1) 0 0 P f) (hne : gd ≠ g) (hgd : gd < w.heap.size) (hd : Words w gd 0 m D) :
    Calls Tryd.prog 55 #[.slice (some ⟨g, o, none⟩) n c, .slice (some ⟨gd, 0, none⟩) m cd] w fun e w' => e = .returned (.tuple #[]) ∧ PartAt w' g tt L o (m + 1) (m + 1) (P + D) P f ∧ Only g w w' := by
  subst hnm
  have hpart : PartAt w g tt L o (m + 1) 0 (P + D) P f := by
    obtain ⟨h, h1, h2, h3⟩ := hpart
    exact ⟨h, h1, fun i hi => absurd hi (by omega), h3⟩
  have HW := Lib.hid hd; clear hd
  have HD := Lib.hid hD; clear hD
  have HPA := Lib.hid hpart; clear hpart
  go_enter Tryd.func55, Tryd.ntmps55
  go_wp2
  go_loopw [4, 5, 8] (fun cr _ v wr => ∃ k : Nat, k ≤ m ∧ v = .int .i64 k ∧ cr = .int .u32 (carryM P 1 D k : Nat) ∧ PartAt wr g tt L o (m + 1) k (P + D) P f ∧ Only g w wr) (fun _ _ v _ => m - (intOf v).toNat)
  case atStart => exact ⟨0, by omega, rfl, by rw [carryM_zero]; rfl, HPA.out, Only.refl _ _⟩
  case round =>
    obtain ⟨k, hk, rfl, rfl, hpa, ho⟩ := hrel
    have hcar : carryM P 1 D k ≤ 1 := by
      have h := b32_pos k
      have h1 := Nat.mod_lt P h
      have h2 := Nat.mod_lt D h
      unfold carryM
      have : (P % B32 ^ k + 1 * (D % B32 ^ k)) / B32 ^ k < 2 := Nat.div_lt_of_lt_mul (by omega)
      omega
    have hst := mul_step P 1 D k
    rw [Nat.one_mul, Nat.one_mul] at hst
    by_cases hlt : k < m
    · have hcell := hpa.cell (by omega) hL
      have hfr := hpa.frozen (o + k)
      have hsrc : wr.cell? ⟨gd, k, none⟩ = some (.int .u32 (wd D k : Nat)) := by
        have := ho.words hgd hne HW.out k hlt
        rwa [Nat.zero_add] at this
      have b1 := wd_lt D k
      have b2 := wd_lt P k
      generalize wd D k = y at *
      obtain ⟨x, hx⟩ : ∃ x, x = wd P k := ⟨_, rfl⟩
      obtain ⟨cr, hcr⟩ : ∃ r, r = carryM P 1 D k := ⟨_, rfl⟩
      rw [← hx] at hst hcell b2
      rw [← hcr] at hst hcar ⊢
      have HST := Lib.hid hst; clear hst hx hcr
      have HPA := Lib.hid hpa; clear hpa
      have i1 : (k : Int) < (m : Int) := by omega
      have i2 : (k : Int) < (m : Int) + 1 := by omega
      go_wp2
      go_region_with (go_at_call 77; refine (add32_any x y cr _ b2 b1 hcar).mono ?_; rintro e w' ⟨rfl, rfl⟩)
      all_goals (
        go_wp2
        go_roundw
        case rel => exact ⟨k + 1, by omega, by go_num, int_eq (by rw [← HST.out.2, ← Nat.add_comm (x + y) cr]; simp), HPA.out.drew.step (by omega) (by rw [← HST.out.1, ← Nat.add_comm (x + y) cr]; simp), ho.drew.set _ _⟩
        case measure => simp [intOf]; omega)
    · obtain rfl : k = m := by omega
      have hcell := hpa.cell (by omega) hL
      have hfr := hpa.frozen (o + k)
      have b2 := wd_lt P k
      have hy0 : wd D k = 0 := by unfold wd; rw [Nat.div_eq_of_lt HD.out]; rfl
      rw [hy0, Nat.add_zero] at hst
      obtain ⟨x, hx⟩ : ∃ x, x = wd P k := ⟨_, rfl⟩
      obtain ⟨cr, hcr⟩ : ∃ r, r = carryM P 1 D k := ⟨_, rfl⟩
      rw [← hx] at hst hcell b2
      rw [← hcr] at hst hcar ⊢
      have HST := Lib.hid hst; clear hst hx hcr hy0
      have HPA := Lib.hid hpa; clear hpa
      go_wp2
      go_end0
      exact ⟨rfl, HPA.out.step (by omega) (by rw [← HST.out.1, Nat.add_comm]; simp), ho.set _ _⟩
end Go.Proofs.YtjbcicgbemepbaaDoor
