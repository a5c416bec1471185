/-
  Several parts in one text (MC).
-/
import Derived.Test.YtogmgfdihmacpaaGreatDoorMB
import Derived.Test.YtogmgfdihmacpaaGreatDoorInt15
import Derived.Test.YtogmgfdihmacpaaGreatDoorND
/-
  Contracts of package modular, the fourteenth part: Inverse.
-/
namespace Go.Proofs.YtogmgfdihmacpaaGreatDoor
open Go.RowKit
set_option linter.unusedVariables false

theorem E_bne {n m : Nat} (h : n ≠ m) : ((E n).toList == (E m).toList) = false := by
  rw [beq_eq_false_iff_ne]
  intro e
  rw [ByteArray.toList_eq, ByteArray.toList_eq, E_data, E_data] at e
  exact h (enc_inj e)
theorem inv_of_ext {a m g : Nat} {x y : Int} (h : ExtP (a % m) m g x y) (hm : 0 < m) (hg : g = 1) : x = (x.natAbs : Int) ∧ x.natAbs < m ∧ a * x.natAbs % m = 1 % m := by
  obtain ⟨h1, h2, h3, h4, -⟩ := h
  obtain ⟨h5, h6⟩ := h4 (by omega)
  subst hg
  rw [Nat.div_one] at h6
  have hx : x = (x.natAbs : Int) := by omega
  refine ⟨hx, by omega, ?_⟩
  have e : ((a * x.natAbs : Nat) : Int) % (m : Int) = ((1 : Nat) : Int) % (m : Int) := by
    have h7 : ((a % m : Nat) : Int) * x = 1 - (m : Int) * y := by
      have : ((1 : Nat) : Int) = 1 := rfl
      rw [this] at h2
      omega
    rw [Int.natCast_mul, ← hx]
    have h8 : (a : Int) * x = ((a % m : Nat) : Int) * x + (m : Int) * (((a / m : Nat) : Int) * x) := by
      have : (a : Int) = ((a % m : Nat) : Int) + (m : Int) * ((a / m : Nat) : Int) := by
        rw [← Int.natCast_mul, ← Int.natCast_add, Nat.mod_add_div]
      conv => lhs; rw [this]
      rw [Int.add_mul, Int.mul_assoc]
    rw [h8, Int.add_mul_emod_self_left, h7]
    have : (1 : Int) - (m : Int) * y = ((1 : Nat) : Int) + (m : Int) * (-y) := by rw [Int.mul_neg]; rfl
    rw [this, Int.add_mul_emod_self_left]
  exact_mod_cast e

set_option maxHeartbeats 1000000 in
set_option maxRecDepth 20000 in
theorem minv_yes (a m : ByteArray) (w : World) (ha : Can a) (hm : Can m) (h0 : 0 < m.size) (hg : Nat.gcd (V a % V m) (V m) = 1) :
    Calls Tryz.prog 84 #[.string a, .string m] w fun e w' => (∃ x : Nat, e = .returned (.tuple #[.string (E x), .int .i64 0]) ∧ x < V m ∧ V a * x % V m = 1 % V m) ∧ Below w.heap.size w w' := by
  have hmp := can_pos hm h0
  have HA := Lib.hid ha; clear ha
  have HM := Lib.hid hm; clear hm
  have HG := Lib.hid hg; clear hg
  go_enter Tryz.func84, Tryz.ntmps84
  go_wp2_with fail
  have b0 : Below w.heap.size w (w.alloc (.cells #[.string a] 22)) := (Below.refl _ _).alloc (Nat.le_refl _) _
  refine (check_new m [a] 1 22 #[.string a] w rfl rfl (by omega)).mono ?_
  rintro e w1 ⟨⟨v, rfl, hv⟩, rfl⟩
  obtain rfl := hv.ok HM.out h0 (by intro s hs; simp at hs; subst hs; exact HA.out)
  have B0 := Lib.hid b0; clear b0 hv
  generalize w.alloc _ = w1 at *
  have hml : V m < Lim := V_lt128 HM.out
  have hx := Nat.mod_lt (V a) hmp
  have CX := Lib.hid (can_E' (Nat.lt_trans hx hml))
  go_wp2_with fail
  refine (remainder_any a m _ HA.out HM.out hmp).mono ?_
  rintro e w2 ⟨rfl, b2⟩
  have B2 := Lib.hid (bnext B0.out b2); clear b2
  go_wp2_with fail
  refine iext_yes _ m _ CX.out HM.out _ ?_
  intro g x y w3 hP b3
  rw [V_E] at hP
  have hg1 : g = 1 := hP.1.trans HG.out
  have hfin := inv_of_ext hP hmp hg1
  subst hg1
  have HF := Lib.hid hfin; clear hfin
  have B3 := Lib.hid (bnext B2.out b3); clear b3 hP
  unfold Z
  go_wp2_with fail
  have T1 := (Two.new w3 (.bool (ZG x)) (.string (ZS x)) 37 w3.heap.size rfl).alloc (.cells #[.bool (ZG y), .string (ZS y)] 37)
  have B4 : Below w.heap.size w ((w3.alloc (.cells #[.bool (ZG x), .string (ZS x)] 37)).alloc (.cells #[.bool (ZG y), .string (ZS y)] 37)) := (B3.out.alloc B3.out.size _).alloc (by have := B3.out.size; simp; omega) _
  have B4 := Lib.hid B4
  generalize (w3.alloc _).alloc _ = w4 at *
  refine (of_any 1 _ (by omega)).mono ?_
  rintro e w5 ⟨rfl, b5⟩
  have T2 := T1.below b5 rfl
  have q1 := T2.2.1
  have B5 := Lib.hid (bnext B4.out b5); clear b5 B4 B3 B2 B0
  go_wp2
  go_ret2
  exact ⟨⟨x.natAbs, rfl, HF.out.2⟩, B5.out⟩
set_option maxHeartbeats 1000000 in
set_option maxRecDepth 20000 in
theorem minv_no (a m : ByteArray) (w : World) (ha : Can a) (hm : Can m) (h0 : 0 < m.size) (hg : Nat.gcd (V a % V m) (V m) ≠ 1) :
    Calls Tryz.prog 84 #[.string a, .string m] w fun e w' => e = .returned (.tuple #[.string ⟨#[]⟩, .int .i64 9]) ∧ Below w.heap.size w w' := by
  have hmp := can_pos hm h0
  have HA := Lib.hid ha; clear ha
  have HM := Lib.hid hm; clear hm
  have HG := Lib.hid hg; clear hg
  go_enter Tryz.func84, Tryz.ntmps84
  go_wp2_with fail
  have b0 : Below w.heap.size w (w.alloc (.cells #[.string a] 22)) := (Below.refl _ _).alloc (Nat.le_refl _) _
  refine (check_new m [a] 1 22 #[.string a] w rfl rfl (by omega)).mono ?_
  rintro e w1 ⟨⟨v, rfl, hv⟩, rfl⟩
  obtain rfl := hv.ok HM.out h0 (by intro s hs; simp at hs; subst hs; exact HA.out)
  have B0 := Lib.hid b0; clear b0 hv
  generalize w.alloc _ = w1 at *
  have hml : V m < Lim := V_lt128 HM.out
  have hx := Nat.mod_lt (V a) hmp
  have CX := Lib.hid (can_E' (Nat.lt_trans hx hml))
  go_wp2_with fail
  refine (remainder_any a m _ HA.out HM.out hmp).mono ?_
  rintro e w2 ⟨rfl, b2⟩
  have B2 := Lib.hid (bnext B0.out b2); clear b2
  go_wp2_with fail
  refine iext_yes _ m _ CX.out HM.out _ ?_
  intro g x y w3 hP b3
  rw [V_E] at hP
  have hg1 : g ≠ 1 := fun h => HG.out (hP.1.symm.trans h)
  have hbe := E_bne hg1
  clear hg1
  have B3 := Lib.hid (bnext B2.out b3); clear b3 hP
  unfold Z
  go_wp2_with fail
  have T1 := (Two.new w3 (.bool (ZG x)) (.string (ZS x)) 37 w3.heap.size rfl).alloc (.cells #[.bool (ZG y), .string (ZS y)] 37)
  have B4 : Below w.heap.size w ((w3.alloc (.cells #[.bool (ZG x), .string (ZS x)] 37)).alloc (.cells #[.bool (ZG y), .string (ZS y)] 37)) := (B3.out.alloc B3.out.size _).alloc (by have := B3.out.size; simp; omega) _
  have B4 := Lib.hid B4
  generalize (w3.alloc _).alloc _ = w4 at *
  refine (of_any 1 _ (by omega)).mono ?_
  rintro e w5 ⟨rfl, b5⟩
  have T2 := T1.below b5 rfl
  have q1 := T2.2.1
  have B5 := Lib.hid (bnext B4.out b5); clear b5 B4 B3 B2 B0
  go_wp2
  go_ret2
  exact ⟨rfl, B5.out⟩
set_option maxHeartbeats 800000 in
theorem minv_err (a m : ByteArray) (v : Int) (w : World) (hv : ∀ c, ChkP m [a] c → c = v) (h0 : (v != 0) = true) :
    Calls Tryz.prog 84 #[.string a, .string m] w fun e w' => e = .returned (.tuple #[.string ⟨#[]⟩, .int .i64 v]) ∧ Below w.heap.size w w' := by
  have HV := Lib.hid hv; clear hv
  go_enter Tryz.func84, Tryz.ntmps84
  go_wp2_with fail
  refine (check_new m [a] 1 22 #[.string a] w rfl rfl (by omega)).mono ?_
  rintro e w1 ⟨⟨c, rfl, hc⟩, rfl⟩
  obtain rfl := HV.out c hc
  clear hc HV
  go_wp2
  go_ret2
  exact ⟨rfl, (Below.refl _ _).alloc (Nat.le_refl _) _⟩
end Go.Proofs.YtogmgfdihmacpaaGreatDoor


/-
  Contracts of package modular, the fifteenth part: Jacobi.
-/
namespace Go.Proofs.YtogmgfdihmacpaaGreatDoor
open Go.RowKit
set_option linter.unusedVariables false

/-- The sign behind a factor 2 is taken out. -/
def flip2 (n : Nat) (s : Int) : Int := if n.testBit 1 != n.testBit 2 then -s else s
/-- All factors 2 are taken out. -/
def twos (n : Nat) (s : Int) (a : Nat) : Nat × Int := if a ≠ 0 ∧ a % 2 = 0 then twos n (flip2 n s) (a / 2) else (a, s)
  termination_by a
  decreasing_by omega
theorem twos_step {n a : Nat} {s : Int} (h0 : a ≠ 0) (h : a % 2 = 0) : twos n s a = twos n (flip2 n s) (a / 2) := by rw [twos, if_pos ⟨h0, h⟩]
theorem twos_odd {n a : Nat} {s : Int} (h : a % 2 = 1) : twos n s a = (a, s) := by rw [twos, if_neg (by omega)]
theorem twos_le (n : Nat) : ∀ (a : Nat) (s : Int), a ≠ 0 → 0 < (twos n s a).1 ∧ (twos n s a).1 ≤ a := by
  intro a
  induction a using Nat.strongRecOn with
  | ind a ih =>
    intro s h0
    by_cases h : a % 2 = 0
    · rw [twos_step h0 h]
      have := ih (a / 2) (by omega) (flip2 n s) (by omega)
      omega
    · rw [twos_odd (by omega)]
      exact ⟨by show 0 < a; omega, Nat.le_refl _⟩
/-- The sign behind reciprocity. -/
def flip4 (a n : Nat) (s : Int) : Int := if a.testBit 1 && n.testBit 1 then -s else s
/-- The Jacobi symbol, by the law of reciprocity. -/
def jacN (a n : Nat) (s : Int) : Int :=
  if h : a = 0 then (if n = 1 then s else 0)
  else jacN (n % (twos n s a).1) (twos n s a).1 (flip4 (twos n s a).1 n (twos n s a).2)
  termination_by a
  decreasing_by
    have := twos_le n a s h
    have := Nat.mod_lt n this.1
    omega
theorem jacN_zero (n : Nat) (s : Int) : jacN 0 n s = if n = 1 then s else 0 := by rw [jacN]; rfl
theorem jacN_step {a n A : Nat} {s S : Int} (h : a ≠ 0) (ht : twos n s a = (A, S)) : jacN a n s = jacN (n % A) A (flip4 A n S) := by
  rw [jacN, dif_neg h, ht]
theorem flip2_sign {n : Nat} {s : Int} (h : s = 1 ∨ s = -1) : flip2 n s = 1 ∨ flip2 n s = -1 := by unfold flip2; split <;> omega
theorem flip4_sign {a n : Nat} {s : Int} (h : s = 1 ∨ s = -1) : flip4 a n s = 1 ∨ flip4 a n s = -1 := by unfold flip4; split <;> omega
theorem twos_sign (n : Nat) : ∀ (a : Nat) (s : Int), a ≠ 0 → (s = 1 ∨ s = -1) → (twos n s a).2 = 1 ∨ (twos n s a).2 = -1 := by
  intro a
  induction a using Nat.strongRecOn with
  | ind a ih =>
    intro s h0 hs
    by_cases h : a % 2 = 0
    · rw [twos_step h0 h]
      exact ih (a / 2) (by omega) _ (by omega) (flip2_sign hs)
    · rw [twos_odd (by omega)]; exact hs
theorem E_size_ne {n : Nat} (h : n ≠ 0) : (E n).size ≠ 0 := by
  intro e
  have := (E_size_le (n := n) (k := 0)).1 (by omega)
  simp at this
  exact h this
/-- The number in a slot. -/
def strV : Value → Nat | .string s => V s | _ => 0
theorem bit0 (a : Nat) : a.testBit 0 = decide (a % 2 = 1) := by rw [Nat.testBit_zero]

end Go.Proofs.YtogmgfdihmacpaaGreatDoor


/-
  Contracts of package modular, the sixteenth part: Join.
-/
namespace Go.Proofs.YtogmgfdihmacpaaGreatDoor
open Go.RowKit
set_option linter.unusedVariables false

theorem subM_add (b s n : Nat) (hn : 0 < n) : (subM b s n + s) % n = b % n := by
  unfold subM
  have h := Nat.mod_lt s hn
  have e : b + (n - s % n) + s = b + n * (1 + s / n) := by
    have := Nat.div_add_mod s n
    rw [Nat.mul_add, Nat.mul_one]
    omega
  rw [Nat.mod_add_mod, e, Nat.add_mul_mod_self_left]
theorem dvd_of_add {g G S : Nat} (hg : 0 < g) (h : (G + S) % g = S % g) : g ∣ G := by
  apply Nat.dvd_of_mod_eq_zero
  rw [Nat.add_mod] at h
  have h1 := Nat.mod_lt G hg
  have h2 := Nat.mod_lt S hg
  generalize G % g = r at *
  generalize S % g = s at *
  by_cases hlt : r + s < g
  · rw [Nat.mod_eq_of_lt hlt] at h; omega
  · rw [Nat.mod_eq_sub_mod (by omega), Nat.mod_eq_of_lt (by omega)] at h; omega
theorem join_num {A M B N g mp np G gap inv k : Nat} (hM : 0 < M) (hN : 0 < N) (hg : g = Nat.gcd M N) (hmp : mp = M / g) (hnp : np = N / g) (hAB : A % g = B % g)
    (hG : G = subM B (A % M) N) (hgap : gap = G / g) (hinv : mp * inv % np = 1 % np) (hk : k = gap * inv % np) :
    (A % M + M * k) % M = A % M ∧ (A % M + M * k) % N = B % N ∧ A % M + M * k < M * np := by
  have hg0 : 0 < g := by rw [hg]; exact Nat.gcd_pos_of_pos_left _ hM
  have hgM : g ∣ M := by rw [hg]; exact Nat.gcd_dvd_left _ _
  have hgN : g ∣ N := by rw [hg]; exact Nat.gcd_dvd_right _ _
  have eM : M = g * mp := by rw [hmp, Nat.mul_div_cancel' hgM]
  have eN : N = g * np := by rw [hnp, Nat.mul_div_cancel' hgN]
  have hnp0 : 0 < np := by
    rcases Nat.eq_zero_or_pos np with e | e
    · rw [e, Nat.mul_zero] at eN; omega
    · exact e
  have hS := Nat.mod_lt A hM
  have h1 : (G + A % M) % N = B % N := by rw [hG]; exact subM_add _ _ _ hN
  have h2 : (G + A % M) % g = (A % M) % g := by
    rw [← Nat.mod_mod_of_dvd (G + A % M) hgN, h1, Nat.mod_mod_of_dvd B hgN, Nat.mod_mod_of_dvd A hgM, hAB]
  have hd : g * gap = G := by rw [hgap]; exact Nat.mul_div_cancel' (dvd_of_add hg0 h2)
  have hkl : k < np := by rw [hk]; exact Nat.mod_lt _ hnp0
  have h3 : mp * k % np = gap % np := by
    rw [hk, Nat.mul_mod, Nat.mod_mod, ← Nat.mul_mod, Nat.mul_left_comm, Nat.mul_mod, hinv, ← Nat.mul_mod, Nat.mul_one]
  have h4 : M * k % N = G % N := by
    rw [eM, eN, Nat.mul_assoc, Nat.mul_mod_mul_left, h3, ← Nat.mul_mod_mul_left, hd]
  refine ⟨by rw [Nat.add_mul_mod_self_left, Nat.mod_mod], ?_, ?_⟩
  · rw [Nat.add_mod, h4, ← Nat.add_mod, Nat.add_comm, h1]
  · have := Nat.mul_le_mul_left M (show k + 1 ≤ np from hkl)
    rw [Nat.mul_add, Nat.mul_one] at this
    omega
theorem gcd_parts {M N g : Nat} (hM : 0 < M) (hg : g = Nat.gcd M N) : Nat.gcd (M / g % (N / g)) (N / g) = 1 := by
  have hg0 : 0 < g := by rw [hg]; exact Nat.gcd_pos_of_pos_left _ hM
  rw [← Nat.gcd_rec, Nat.gcd_comm, Nat.gcd_div (by rw [hg]; exact Nat.gcd_dvd_left _ _) (by rw [hg]; exact Nat.gcd_dvd_right _ _), ← hg, Nat.div_self hg0]
theorem E_can_lt {n : Nat} (h : Can (E n)) : n < Lim := by
  have := V_lt128 h
  rwa [V_E] at this
/-- What Join answers where there is a number. -/
def JoinP (A M B N : Nat) (e : Ending) : Prop :=
  ∃ x, e = .returned (.tuple #[.string (E x), .string (E (M * (N / Nat.gcd M N))), .int .i64 0]) ∧ x % M = A % M ∧ x % N = B % N ∧ x < M * (N / Nat.gcd M N)

end Go.Proofs.YtogmgfdihmacpaaGreatDoor

