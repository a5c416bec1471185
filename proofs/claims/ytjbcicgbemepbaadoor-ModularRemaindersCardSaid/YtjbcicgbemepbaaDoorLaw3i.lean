/-
  Layer 3's statements: Remainders.
-/
import Derived.Test.YtjbcicgbemepbaaDoorMD
import Derived.OpenShut
import Derived.Test.YtjbcicgbemepbaaDoorInt18
namespace Go.Proofs.YtjbcicgbemepbaaDoor
open Go.RowKit
set_option linter.unusedVariables false

/-! ### Numbers -/
theorem least_first (P : Nat → Bool) (n : Nat) : ∃ F, F ≤ n ∧ (∀ j, j < F → P j = false) ∧ (F = n ∨ (F < n ∧ P F = true)) := by
  induction n with
  | zero => exact ⟨0, Nat.le_refl _, fun j h => absurd h (by omega), .inl rfl⟩
  | succ n ih =>
    obtain ⟨F, h1, h2, h3⟩ := ih
    rcases h3 with rfl | ⟨h3, h4⟩
    · cases hP : P F
      · exact ⟨F + 1, Nat.le_refl _, fun j hj => by
          by_cases e : j = F
          · rw [e, hP]
          · exact h2 j (by omega), .inl rfl⟩
      · exact ⟨F, by omega, h2, .inr ⟨by omega, hP⟩⟩
    · exact ⟨F, by omega, h2, .inr ⟨by omega, h4⟩⟩
/-- x has both remainders. -/
def hits (a b m n x : Nat) : Bool := x % m == a % m && x % n == b % n
theorem hits_iff {a b m n x : Nat} : hits a b m n x = true ↔ x % m = a % m ∧ x % n = b % n := by simp [hits]
theorem unit_of_gcdR {a n : Nat} (hn : 0 < n) (hl : n < Lim) (h : Nat.gcd (a % n) n = 1) : ∃ u, a * u % n = 1 % n := by
  obtain ⟨g, x, y, hP⟩ := ext_exists (a := a % n) (b := n) (Nat.lt_trans (Nat.mod_lt _ hn) hl) hl
  exact ⟨_, (inv_of_ext hP hn (hP.1.trans h)).2.2⟩
theorem join_existsR {A M B N : Nat} (hM : 0 < M) (hN : 0 < N) (hNl : N < Lim) (hAB : A % Nat.gcd M N = B % Nat.gcd M N) :
    ∃ x, x % M = A % M ∧ x % N = B % N ∧ x < M * (N / Nat.gcd M N) := by
  have hg0 : 0 < Nat.gcd M N := Nat.gcd_pos_of_pos_left _ hM
  have hnp0 : 0 < N / Nat.gcd M N := Nat.div_pos (Nat.le_of_dvd hN (Nat.gcd_dvd_right _ _)) hg0
  obtain ⟨u, hu⟩ := unit_of_gcdR hnp0 (Nat.lt_of_le_of_lt (Nat.div_le_self _ _) hNl) (gcd_parts (N := N) hM rfl)
  exact ⟨_, join_num hM hN rfl rfl rfl hAB rfl rfl hu rfl⟩
theorem lcm_form (M N : Nat) : M * (N / Nat.gcd M N) = Nat.lcm M N := by
  rw [Nat.lcm, Nat.mul_div_assoc _ (Nat.gcd_dvd_right M N)]
theorem join_oneR {M N x y : Nat} (hx : x < M * (N / Nat.gcd M N)) (hy : y < M * (N / Nat.gcd M N)) (h1 : x % M = y % M) (h2 : x % N = y % N) : x = y := by
  rw [lcm_form] at hx hy
  have d : ∀ u v : Nat, v ≤ u → u % M = v % M → u % N = v % N → u < Nat.lcm M N → u = v := by
    intro u v hle q1 q2 hu
    have d1 : M ∣ u - v := Nat.dvd_of_mod_eq_zero (Nat.sub_mod_eq_zero_of_mod_eq q1)
    have d2 : N ∣ u - v := Nat.dvd_of_mod_eq_zero (Nat.sub_mod_eq_zero_of_mod_eq q2)
    have d3 : Nat.lcm M N ∣ u - v := Nat.lcm_dvd d1 d2
    rcases Nat.eq_zero_or_pos (u - v) with h | h
    · omega
    · have := Nat.le_of_dvd h d3; omega
  rcases Nat.le_total x y with h | h
  · exact (d y x h h1.symm h2.symm hy).symm
  · exact d x y h h1 h2 hx
/-- A multiple of m that n divides is at least the least common multiple. -/
theorem lcm_mults {m n t : Nat} (ht : 0 < t) (hm : 0 < m) (hlt : t < n / Nat.gcd m n) : m * t % n ≠ 0 := by
  intro e
  have d1 : n ∣ m * t := Nat.dvd_of_mod_eq_zero e
  have d2 : Nat.lcm m n ∣ m * t := Nat.lcm_dvd ⟨t, rfl⟩ d1
  have := Nat.le_of_dvd (Nat.mul_pos hm ht) d2
  rw [← lcm_form] at this
  have := Nat.le_of_mul_le_mul_left this hm
  omega
theorem lcm_hit {m n : Nat} : m * (n / Nat.gcd m n) % n = 0 := by
  rw [lcm_form]; exact Nat.mod_eq_zero_of_dvd (Nat.dvd_lcm_right m n)

/-! ### The walk -/
/-- A number in a slot. -/
theorem rem_cast (x m : Nat) : ((x : Int) % (m : Int)) = ((x % m : Nat) : Int) := by rw [Int.natCast_emod]

set_option maxHeartbeats 300000 in
set_option maxRecDepth 20000 in
theorem rem_none (a b t m n p : Nat) (w : World) (ha : a < 65536) (hb : b < 65536) (ht : t < 65536) (hm : m = t % 48 + 1) (hn : n = t / 64 % 48 + 1) (hp : p = m * n)
    (hno : ∀ j, j < p → hits a b m n j = false)
    (hj : ∀ w, Calls Tryd.prog 5 #[.string (E a), .string (E m), .string (E b), .string (E n)] w fun e w' => e = .returned (.tuple #[.string ⟨#[]⟩, .string ⟨#[]⟩, .int .i64 9]) ∧ Below w.heap.size w w') :
    Calls Tryd.prog 3 #[.int .u16 a, .int .u16 b, .int .u16 t] w fun e w' => e = .returned (.bool true) ∧ Below w.heap.size w w' := by
  have m48 : m ≤ 48 := by omega
  have n48 : n ≤ 48 := by omega
  have m0 : 0 < m := by omega
  have n0 : 0 < n := by omega
  have mne : ¬ ((m : Int) = 0) := by omega
  have nne : ¬ ((n : Int) = 0) := by omega
  have hp2 : p ≤ 2304 := by rw [hp]; exact Nat.mul_le_mul m48 n48
  have c1 : IntKind.u64.wrap (a : Int) = a := IntWalk.u64_in _ (by omega)
  have c2 : IntKind.u64.wrap (b : Int) = b := IntWalk.u64_in _ (by omega)
  obtain ⟨r1, hr1⟩ : ∃ r, r = t % 48 := ⟨_, rfl⟩
  obtain ⟨r2, hr2⟩ : ∃ r, r = t / 64 := ⟨_, rfl⟩
  obtain ⟨r3, hr3⟩ : ∃ r, r = r2 % 48 := ⟨_, rfl⟩
  have e1 : ((t : Int) % 48) = (r1 : Int) := by omega
  have e2 : ((t : Int) / 64) = (r2 : Int) := by omega
  have e3 : ((r2 : Int) % 48) = (r3 : Int) := by omega
  have c3 : IntKind.u64.wrap (r1 : Int) = r1 := IntWalk.u64_in _ (by omega)
  have c4 : IntKind.u64.wrap (r3 : Int) = r3 := IntWalk.u64_in _ (by omega)
  have c5 : IntKind.u64.wrap ((r1 : Int) + 1) = m := by rw [IntWalk.u64_in _ (by omega)]; omega
  have c6 : IntKind.u64.wrap ((r3 : Int) + 1) = n := by rw [IntWalk.u64_in _ (by omega)]; omega
  have c7 : IntKind.u64.wrap ((m : Int) * n) = p := by rw [← Int.natCast_mul, ← hp]; exact IntWalk.u64_in _ (by omega)
  have HNO := Lib.hid hno; clear hno
  have HJ := Lib.hid hj; clear hj
  have HP := Lib.hid hp; clear hp
  have HM := Lib.hid hm; clear hm
  have HN := Lib.hid hn; clear hn
  have HR1 := Lib.hid hr1; clear hr1
  have HR2 := Lib.hid hr2; clear hr2
  have HR3 := Lib.hid hr3; clear hr3
  go_enter Tryd.func3, Tryd.ntmps3
  go_wp2_with fail
  refine (num3 a _ (by omega)).mono ?_; rintro e w1 ⟨rfl, b1⟩
  have B1 := Lib.hid b1; clear b1
  go_wp2_with fail
  refine (num3 m _ (by omega)).mono ?_; rintro e w2 ⟨rfl, b2⟩
  have B2 := Lib.hid (bnext B1.out b2); clear b2 B1
  go_wp2_with fail
  refine (num3 b _ (by omega)).mono ?_; rintro e w3 ⟨rfl, b3⟩
  have B3 := Lib.hid (bnext B2.out b3); clear b3 B2
  go_wp2_with fail
  refine (num3 n _ (by omega)).mono ?_; rintro e w4 ⟨rfl, b4⟩
  have B4 := Lib.hid (bnext B3.out b4); clear b4 B3
  go_wp2_with fail
  refine (HJ.out _).mono ?_; rintro e w5 ⟨rfl, b5⟩
  have b5f := bnext B4.out b5; clear b5 B4
  go_wp2
  go_loopw [12] (fun v wr => ∃ k : Nat, k ≤ p ∧ v = .int .u64 k ∧ Below w.heap.size w wr) (fun v _ => p - (intOf v).toNat)
  case atStart => exact ⟨0, Nat.zero_le _, rfl, b5f⟩
  case round =>
    obtain ⟨k, hk, rfl, hbel⟩ := hrel
    have BB := Lib.hid hbel; clear hbel
    obtain ⟨x1, hx1⟩ : ∃ x, x = k % m := ⟨_, rfl⟩
    obtain ⟨y1, hy1⟩ : ∃ x, x = a % m := ⟨_, rfl⟩
    obtain ⟨x2, hx2⟩ : ∃ x, x = k % n := ⟨_, rfl⟩
    obtain ⟨y2, hy2⟩ : ∃ x, x = b % n := ⟨_, rfl⟩
    have d1 : ((k : Int) % (m : Int)) = (x1 : Int) := by rw [rem_cast, hx1]
    have d2 : ((a : Int) % (m : Int)) = (y1 : Int) := by rw [rem_cast, hy1]
    have d3 : ((k : Int) % (n : Int)) = (x2 : Int) := by rw [rem_cast, hx2]
    have d4 : ((b : Int) % (n : Int)) = (y2 : Int) := by rw [rem_cast, hy2]
    by_cases hlt : k < p
    · have hlt' : (k : Int) < (p : Int) := by omega
      have hk1 : IntKind.u64.wrap ((k : Int) + 1) = ((k + 1 : Nat) : Int) := by rw [IntWalk.u64_in _ (by omega)]; omega
      have hh := HNO.out k hlt
      by_cases hq : x1 = y1
      · have hq2 : ¬ x2 = y2 := by
          intro hq2
          have : hits a b m n k = true := hits_iff.2 ⟨by rw [← hx1, ← hy1, hq], by rw [← hx2, ← hy2, hq2]⟩
          rw [hh] at this; cases this
        have g1 : ¬ ((x2 : Int) = (y2 : Int)) := by omega
        clear hh hx1 hy1 hx2 hy2 hlt
        subst hq
        go_wp2
        go_region
        go_wp2
        go_roundw
        case rel => exact ⟨k + 1, by omega, by go_num, BB.out.drew⟩
        case measure => simp [intOf]; omega
      · have g1 : ¬ ((x1 : Int) = (y1 : Int)) := by omega
        have g2 : ((x1 : Int) != (y1 : Int)) = true := by rw [bne_iff_ne]; exact g1
        have g3 : ((x1 : Int) == (y1 : Int)) = false := by rw [beq_eq_false_iff_ne]; exact g1
        have g4 : (x1 == y1) = false := by rw [beq_eq_false_iff_ne]; exact hq
        have g5 : decide (x1 = y1) = false := decide_eq_false hq
        clear hh hx1 hy1 hx2 hy2 hlt d3 d4
        have g6 : (x1 != y1) = true := by rw [bne_iff_ne]; exact hq
        go_wp2
        go_region
        go_wp2
        go_roundw
        case rel => exact ⟨k + 1, by omega, by go_num, BB.out.drew⟩
        case measure => simp [intOf]; omega
    · obtain rfl : k = p := by omega
      clear hx1 hy1 hx2 hy2 d1 d2 d3 d4
      go_wp2
      go_region
      go_wp2_with fail
      refine (awake3 _).mono ?_; rintro e w6 ⟨rfl, b6⟩
      have B6 := Lib.hid (bnext BB.out.drew b6); clear b6
      go_wp2
      go_ret
      exact ⟨rfl, B6.out⟩
set_option maxHeartbeats 300000 in
set_option maxRecDepth 20000 in
theorem rem_some (a b t m n p F q : Nat) (w : World) (ha : a < 65536) (hb : b < 65536) (ht : t < 65536) (hm : m = t % 48 + 1) (hn : n = t / 64 % 48 + 1) (hp : p = m * n)
    (hFp : F < p) (hno : ∀ j, j < F → hits a b m n j = false) (hhit : hits a b m n F = true) (hq0 : 0 < q) (hqn : q ≤ n) (hq : ∀ s, 0 < s → s < q → m * s % n ≠ 0) (hqz : m * q % n = 0)
    (hj : ∀ w, Calls Tryd.prog 5 #[.string (E a), .string (E m), .string (E b), .string (E n)] w fun e w' => e = .returned (.tuple #[.string (E F), .string (E (m * q)), .int .i64 0]) ∧ Below w.heap.size w w') :
    Calls Tryd.prog 3 #[.int .u16 a, .int .u16 b, .int .u16 t] w fun e w' => e = .returned (.bool true) ∧ Below w.heap.size w w' := by
  have m48 : m ≤ 48 := by omega
  have n48 : n ≤ 48 := by omega
  have m0 : 0 < m := by omega
  have n0 : 0 < n := by omega
  have mne : ¬ ((m : Int) = 0) := by omega
  have nne : ¬ ((n : Int) = 0) := by omega
  have hp2 : p ≤ 2304 := by rw [hp]; exact Nat.mul_le_mul m48 n48
  have c1 : IntKind.u64.wrap (a : Int) = a := IntWalk.u64_in _ (by omega)
  have c2 : IntKind.u64.wrap (b : Int) = b := IntWalk.u64_in _ (by omega)
  obtain ⟨r1, hr1⟩ : ∃ r, r = t % 48 := ⟨_, rfl⟩
  obtain ⟨r2, hr2⟩ : ∃ r, r = t / 64 := ⟨_, rfl⟩
  obtain ⟨r3, hr3⟩ : ∃ r, r = r2 % 48 := ⟨_, rfl⟩
  have e1 : ((t : Int) % 48) = (r1 : Int) := by omega
  have e2 : ((t : Int) / 64) = (r2 : Int) := by omega
  have e3 : ((r2 : Int) % 48) = (r3 : Int) := by omega
  have c3 : IntKind.u64.wrap (r1 : Int) = r1 := IntWalk.u64_in _ (by omega)
  have c4 : IntKind.u64.wrap (r3 : Int) = r3 := IntWalk.u64_in _ (by omega)
  have c5 : IntKind.u64.wrap ((r1 : Int) + 1) = m := by rw [IntWalk.u64_in _ (by omega)]; omega
  have c6 : IntKind.u64.wrap ((r3 : Int) + 1) = n := by rw [IntWalk.u64_in _ (by omega)]; omega
  have c7 : IntKind.u64.wrap ((m : Int) * n) = p := by rw [← Int.natCast_mul, ← hp]; exact IntWalk.u64_in _ (by omega)
  have HNO := Lib.hid hno; clear hno
  have HQ0 := Lib.hid hq; clear hq
  have HQZ := Lib.hid hqz; clear hqz
  have hmq : m * q ≤ 2304 := Nat.mul_le_mul m48 (Nat.le_trans hqn n48)
  have HH := Lib.hid hhit; clear hhit
  have HJ := Lib.hid hj; clear hj
  have HP := Lib.hid hp; clear hp
  have HM := Lib.hid hm; clear hm
  have HN := Lib.hid hn; clear hn
  have HR1 := Lib.hid hr1; clear hr1
  have HR2 := Lib.hid hr2; clear hr2
  have HR3 := Lib.hid hr3; clear hr3
  go_enter Tryd.func3, Tryd.ntmps3
  go_wp2_with fail
  refine (num3 a _ (by omega)).mono ?_; rintro e w1 ⟨rfl, b1⟩
  have B1 := Lib.hid b1; clear b1
  go_wp2_with fail
  refine (num3 m _ (by omega)).mono ?_; rintro e w2 ⟨rfl, b2⟩
  have B2 := Lib.hid (bnext B1.out b2); clear b2 B1
  go_wp2_with fail
  refine (num3 b _ (by omega)).mono ?_; rintro e w3 ⟨rfl, b3⟩
  have B3 := Lib.hid (bnext B2.out b3); clear b3 B2
  go_wp2_with fail
  refine (num3 n _ (by omega)).mono ?_; rintro e w4 ⟨rfl, b4⟩
  have B4 := Lib.hid (bnext B3.out b4); clear b4 B3
  go_wp2_with fail
  refine (HJ.out _).mono ?_; rintro e w5 ⟨rfl, b5⟩
  have b5f := bnext B4.out b5; clear b5 B4
  go_wp2
  go_loopw [12] (fun v wr => ∃ k : Nat, k ≤ F ∧ v = .int .u64 k ∧ Below w.heap.size w wr) (fun v _ => F - (intOf v).toNat)
  case atStart => exact ⟨0, Nat.zero_le _, rfl, b5f⟩
  case round =>
    obtain ⟨k, hk, rfl, hbel⟩ := hrel
    have BB := Lib.hid hbel; clear hbel
    obtain ⟨x1, hx1⟩ : ∃ x, x = k % m := ⟨_, rfl⟩
    obtain ⟨y1, hy1⟩ : ∃ x, x = a % m := ⟨_, rfl⟩
    obtain ⟨x2, hx2⟩ : ∃ x, x = k % n := ⟨_, rfl⟩
    obtain ⟨y2, hy2⟩ : ∃ x, x = b % n := ⟨_, rfl⟩
    have d1 : ((k : Int) % (m : Int)) = (x1 : Int) := by rw [rem_cast, hx1]
    have d2 : ((a : Int) % (m : Int)) = (y1 : Int) := by rw [rem_cast, hy1]
    have d3 : ((k : Int) % (n : Int)) = (x2 : Int) := by rw [rem_cast, hx2]
    have d4 : ((b : Int) % (n : Int)) = (y2 : Int) := by rw [rem_cast, hy2]
    by_cases hlt : k < F
    · have hlt' : (k : Int) < (p : Int) := by omega
      have hk1 : IntKind.u64.wrap ((k : Int) + 1) = ((k + 1 : Nat) : Int) := by rw [IntWalk.u64_in _ (by omega)]; omega
      have hh := HNO.out k hlt
      by_cases hq : x1 = y1
      · have hq2 : ¬ x2 = y2 := by
          intro hq2
          have : hits a b m n k = true := hits_iff.2 ⟨by rw [← hx1, ← hy1, hq], by rw [← hx2, ← hy2, hq2]⟩
          rw [hh] at this; cases this
        have g1 : ¬ ((x2 : Int) = (y2 : Int)) := by omega
        clear hh hx1 hy1 hx2 hy2
        subst hq
        go_wp2
        go_region
        go_wp2
        go_roundw
        case rel => exact ⟨k + 1, by omega, by go_num, BB.out.drew⟩
        case measure => simp [intOf]; omega
      · have g1 : ¬ ((x1 : Int) = (y1 : Int)) := by omega
        have g2 : ((x1 : Int) != (y1 : Int)) = true := by rw [bne_iff_ne]; exact g1
        have g3 : ((x1 : Int) == (y1 : Int)) = false := by rw [beq_eq_false_iff_ne]; exact g1
        have g4 : (x1 == y1) = false := by rw [beq_eq_false_iff_ne]; exact hq
        have g5 : decide (x1 = y1) = false := decide_eq_false hq
        clear hh hx1 hy1 hx2 hy2 d3 d4
        have g6 : (x1 != y1) = true := by rw [bne_iff_ne]; exact hq
        go_wp2
        go_region
        go_wp2
        go_roundw
        case rel => exact ⟨k + 1, by omega, by go_num, BB.out.drew⟩
        case measure => simp [intOf]; omega
    · obtain rfl : k = F := by omega
      obtain ⟨h1, h2⟩ := hits_iff.1 HH.out
      obtain rfl : x1 = y1 := by rw [hx1, hy1, h1]
      obtain rfl : x2 = y2 := by rw [hx2, hy2, h2]
      have hlt' : (k : Int) < (p : Int) := by omega
      have hne : ¬ k = p := by omega
      have hne2 : ((k : Int) == (p : Int)) = false := by rw [beq_eq_false_iff_ne]; omega
      have hne3 : (k == p) = false := by rw [beq_eq_false_iff_ne]; omega
      clear hx1 hy1 hx2 hy2 h1 h2 hlt
      go_wp2
      go_region
      go_wp2
      go_loopw [13] (fun v wr => ∃ s L : Nat, 0 < s ∧ s ≤ q ∧ Hid (L = m * s) ∧ v = .int .u64 L ∧ L ≤ 2304 ∧ Below w.heap.size w wr) (fun v _ => m * q - (intOf v).toNat)
      case atStart => exact ⟨1, m, by omega, hq0, (Nat.mul_one m).symm, rfl, by omega, BB.out.drew⟩
      case round =>
        obtain ⟨s, L, hs0, hsq, HL, rfl, hL, hbel⟩ := hrel
        have CC := Lib.hid hbel; clear hbel BB
        obtain ⟨z, hz⟩ : ∃ z, z = L % n := ⟨_, rfl⟩
        have dz : ((L : Int) % (n : Int)) = (z : Int) := by rw [rem_cast, hz]
        by_cases hlt : s < q
        · have hz0 : ¬ z = 0 := by rw [hz, HL.out]; exact HQ0.out s hs0 hlt
          have hz1 : ((z : Int) != 0) = true := by rw [bne_iff_ne]; omega
          have hz2 : ((z : Int) == 0) = false := by rw [beq_eq_false_iff_ne]; omega
          have hL2 : L + m ≤ m * q := by
            rw [HL.out, ← Nat.mul_succ]; exact Nat.mul_le_mul_left _ hlt
          have hw1 : IntKind.u64.wrap ((L : Int) + m) = ((L + m : Nat) : Int) := by rw [IntWalk.u64_in _ (by omega)]; omega
          have HL2 : Hid (L + m = m * (s + 1)) := by
            show L + m = m * (s + 1)
            rw [HL.out, Nat.mul_succ]
          have hms : L + m ≤ 2304 := Nat.le_trans hL2 hmq
          clear hz
          go_wp2
          go_roundw
          case rel => exact ⟨s + 1, L + m, by omega, by omega, HL2, by go_num, hms, CC.out⟩
          case measure => simp [intOf]; omega
        · obtain rfl : s = q := by omega
          have hz0 : z = 0 := by rw [hz, HL.out]; exact HQZ.out
          subst hz0
          clear hz
          go_wp2_with fail
          refine (awake3 _).mono ?_; rintro e w6 ⟨rfl, b6⟩
          have B6 := Lib.hid (bnext CC.out b6); clear b6
          go_wp2_with fail
          refine (num3 k _ (by omega)).mono ?_; rintro e w7 ⟨rfl, b7⟩
          have B7 := Lib.hid (bnext B6.out b7); clear b7
          go_wp2_with fail
          refine (num3 L _ (by omega)).mono ?_; rintro e w8 ⟨rfl, b8⟩
          have B8 := Lib.hid (bnext B7.out b8); clear b8
          have HE := Lib.hid (show (E (m * s)) = E L by rw [HL.out])
          rw [HE.out]
          go_wp2
          go_ret
          exact ⟨rfl, B8.out⟩
theorem law_ModularRemainders (a b t : Int) (l1 : (Lit.int .u16 a).wf = true) (l2 : (Lit.int .u16 b).wf = true) (l3 : (Lit.int .u16 t).wf = true) (w : World) :
    Calls Tryd.prog 3 #[.int .u16 a, .int .u16 b, .int .u16 t] w fun e w' => e = .returned (.bool true) ∧ Below w.heap.size w w' := by
  have hb1 := bounds_u16 l1
  have hb2 := bounds_u16 l2
  have hb3 := bounds_u16 l3
  obtain ⟨a, rfl⟩ := Int.eq_ofNat_of_zero_le hb1.1
  obtain ⟨b, rfl⟩ := Int.eq_ofNat_of_zero_le hb2.1
  obtain ⟨t, rfl⟩ := Int.eq_ofNat_of_zero_le hb3.1
  have ha : a < 65536 := by omega
  have hb : b < 65536 := by omega
  have ht : t < 65536 := by omega
  obtain ⟨m, hm⟩ : ∃ m, m = t % 48 + 1 := ⟨_, rfl⟩
  obtain ⟨n, hn⟩ : ∃ n, n = t / 64 % 48 + 1 := ⟨_, rfl⟩
  have m0 : 0 < m := by omega
  have n0 : 0 < n := by omega
  have m48 : m ≤ 48 := by omega
  have n48 : n ≤ 48 := by omega
  have hmn : m * n ≤ 2304 := Nat.mul_le_mul m48 n48
  have ca := cs a (by omega)
  have cb := cs b (by omega)
  have cm := cs m (by omega)
  have cn := cs n (by omega)
  have pm := cp m (by omega)
  have pn := cp n (by omega)
  have hg0 : 0 < Nat.gcd m n := Nat.gcd_pos_of_pos_left _ m0
  have hqn : n / Nat.gcd m n ≤ n := Nat.div_le_self _ _
  have hq0 : 0 < n / Nat.gcd m n := Nat.div_pos (Nat.le_of_dvd n0 (Nat.gcd_dvd_right _ _)) hg0
  have hlcm : m * (n / Nat.gcd m n) ≤ m * n := Nat.mul_le_mul_left _ hqn
  by_cases hAB : a % Nat.gcd m n = b % Nat.gcd m n
  · obtain ⟨F, hF1, hF2, hF3⟩ := least_first (hits a b m n) (m * n)
    obtain ⟨x, hx1, hx2, hx3⟩ := join_existsR m0 n0 (small_lim (by omega)) hAB
    have hFx : F ≤ x := by
      rcases Nat.lt_or_ge x F with q | q
      · have := hF2 x q
        rw [hits_iff.2 ⟨hx1, hx2⟩] at this
        cases this
      · exact q
    have hFp : F < m * n := by omega
    have hhit : hits a b m n F = true := by
      rcases hF3 with q | q
      · omega
      · exact q.2
    obtain ⟨h1, h2⟩ := hits_iff.1 hhit
    refine rem_some a b t m n (m * n) F (n / Nat.gcd m n) w ha hb ht hm hn rfl hFp hF2 hhit hq0 hqn (fun s h1 h2 => lcm_mults h1 m0 h2) lcm_hit (fun w => ?_)
    have hj := mjoin_ok (E a) (E m) (E b) (E n) w ca cm cb cn pm pn (by simp only [V_E]; exact hAB) (by simp only [V_E]; exact small_lim (by omega))
    refine hj.mono ?_
    rintro e w' ⟨⟨y, rfl, hy1, hy2, hy3⟩, hbel⟩
    simp only [V_E] at hy1 hy2 hy3 ⊢
    obtain rfl : y = F := join_oneR hy3 (by omega) (hy1.trans h1.symm) (hy2.trans h2.symm)
    exact ⟨rfl, hbel⟩
  · refine rem_none a b t m n (m * n) w ha hb ht hm hn rfl (fun j hj => ?_) (fun w => mjoin_none (E a) (E m) (E b) (E n) w ca cm cb cn pm pn (by simp only [V_E]; exact hAB))
    cases hh : hits a b m n j
    · rfl
    · obtain ⟨h1, h2⟩ := hits_iff.1 hh
      refine absurd ?_ hAB
      rw [← Nat.mod_mod_of_dvd a (Nat.gcd_dvd_left m n), ← h1, Nat.mod_mod_of_dvd j (Nat.gcd_dvd_left m n), ← Nat.mod_mod_of_dvd j (Nat.gcd_dvd_right m n), h2, Nat.mod_mod_of_dvd b (Nat.gcd_dvd_right m n)]
end Go.Proofs.YtjbcicgbemepbaaDoor
