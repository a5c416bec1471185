/-
  Layer 3's statements: Symbols.
-/
import Derived.Test.YtjbcicgbemepbaaDoorMD
import Derived.Test.YtjbcicgbemepbaaDoorQR
import Derived.OpenShut
namespace Go.Proofs.YtjbcicgbemepbaaDoor
open Go.RowKit
set_option linter.unusedVariables false

/-! ### The algorithm by reciprocity -/
theorem flip2_chi {n : Nat} {s : Int} (h : n % 2 = 1) : flip2 n s = s * QR.chi8 n := by
  unfold flip2 QR.chi8
  rw [Nat.testBit_eq_decide_div_mod_eq, Nat.testBit_eq_decide_div_mod_eq]
  have : n % 8 = 1 ∨ n % 8 = 3 ∨ n % 8 = 5 ∨ n % 8 = 7 := by omega
  rcases this with q | q | q | q
  · rw [show n / 2 ^ 1 % 2 = 0 by omega, show n / 2 ^ 2 % 2 = 0 by omega, q]; simp
  · rw [show n / 2 ^ 1 % 2 = 1 by omega, show n / 2 ^ 2 % 2 = 0 by omega, q]; simp
  · rw [show n / 2 ^ 1 % 2 = 0 by omega, show n / 2 ^ 2 % 2 = 1 by omega, q]; simp
  · rw [show n / 2 ^ 1 % 2 = 1 by omega, show n / 2 ^ 2 % 2 = 1 by omega, q]; simp
theorem flip4_eps {a n : Nat} {s : Int} (ha : a % 2 = 1) (hn : n % 2 = 1) : flip4 a n s = s * QR.eps a n := by
  unfold flip4 QR.eps
  rw [Nat.testBit_eq_decide_div_mod_eq, Nat.testBit_eq_decide_div_mod_eq]
  have : a % 4 = 1 ∨ a % 4 = 3 := by omega
  have : n % 4 = 1 ∨ n % 4 = 3 := by omega
  rcases ‹a % 4 = 1 ∨ _› with e | e <;> rcases ‹n % 4 = 1 ∨ _› with f | f
  · rw [show a / 2 ^ 1 % 2 = 0 by omega, show n / 2 ^ 1 % 2 = 0 by omega, e, f]; simp
  · rw [show a / 2 ^ 1 % 2 = 0 by omega, show n / 2 ^ 1 % 2 = 1 by omega, e, f]; simp
  · rw [show a / 2 ^ 1 % 2 = 1 by omega, show n / 2 ^ 1 % 2 = 0 by omega, e, f]; simp
  · rw [show a / 2 ^ 1 % 2 = 1 by omega, show n / 2 ^ 1 % 2 = 1 by omega, e, f]; simp
theorem twos_symb {n : Nat} {L : List Nat} (hL : QR.Good L) (hn : QR.prd L = n) (ho : n % 2 = 1) : ∀ (a : Nat) (s : Int), a ≠ 0 →
    (twos n s a).1 % 2 = 1 ∧ (twos n s a).2 * QR.symb (twos n s a).1 L = s * QR.symb a L := by
  intro a
  induction a using Nat.strongRecOn with
  | ind a ih =>
    intro s h0
    by_cases h : a % 2 = 0
    · rw [twos_step h0 h]
      have h2 := ih (a / 2) (by omega) (flip2 n s) (by omega)
      refine ⟨h2.1, h2.2.trans ?_⟩
      have e : QR.symb a L = QR.symb 2 L * QR.symb (a / 2) L := by
        rw [← QR.symb_mul hL]; congr 1; omega
      rw [e, QR.symb_two hL, hn, flip2_chi ho, Int.mul_assoc]
    · rw [twos_odd (by omega)]
      exact ⟨by show a % 2 = 1; omega, rfl⟩
theorem jac_symb : ∀ (a n : Nat) (s : Int) (L : List Nat), QR.Good L → QR.prd L = n → n < 4000 → a < n → jacN a n s = s * QR.symb a L := by
  intro a
  induction a using Nat.strongRecOn with
  | ind a ih =>
    intro n s L hL hn h4 hlt
    have ho : n % 2 = 1 := by rw [← hn]; exact QR.prd_odd hL
    by_cases h0 : a = 0
    · subst h0
      rw [jacN_zero]
      cases L with
      | nil =>
        have h1 : n = 1 := by rw [← hn]; rfl
        rw [if_pos h1, QR.symb, Int.mul_one]
      | cons p L =>
        have hp := hL.head.1.1
        have hpos : 0 < QR.prd L := by have := QR.prd_odd hL.tail; omega
        have : p * 1 ≤ p * QR.prd L := Nat.mul_le_mul_left p hpos
        rw [QR.prd] at hn
        rw [if_neg (by omega), QR.symb_zero, Int.mul_zero]
    · obtain ⟨A, S, ht⟩ : ∃ A S, twos n s a = (A, S) := ⟨_, _, rfl⟩
      have h1 := twos_le n a s h0
      have h2 := twos_symb hL hn ho a s h0
      rw [ht] at h1 h2
      obtain ⟨hA0, hA1⟩ : 0 < A ∧ A ≤ a := h1
      obtain ⟨hAo, hAS⟩ : A % 2 = 1 ∧ S * QR.symb A L = s * QR.symb a L := h2
      obtain ⟨M, hM, hMA⟩ := QR.exists_list A hAo (by omega)
      have hlt2 := Nat.mod_lt n hA0
      rw [jacN_step h0 ht, ih (n % A) (by omega) A _ M hM hMA (by omega) hlt2, QR.symb_mod (by rw [hMA]; exact Nat.dvd_refl A), flip4_eps hAo ho, ← hAS]
      have hr := QR.symb_rec hL hM
      rw [hMA, hn] at hr
      rw [hr, Int.mul_assoc]
theorem leg_cases (a p : Nat) : QR.leg a p = 0 ∨ QR.leg a p = 1 ∨ QR.leg a p = -1 := by
  unfold QR.leg; split
  · exact .inl rfl
  · split
    · exact .inr (.inl rfl)
    · exact .inr (.inr rfl)
theorem leg_hit {a p x : Nat} (hp : 0 < p) (h0 : a % p ≠ 0) (h : x * x % p = a % p) : QR.leg a p = 1 := by
  unfold QR.leg; rw [if_neg h0, if_pos (QR.sqB_any hp h)]
theorem leg_miss {a p : Nat} (h0 : a % p ≠ 0) (h : ∀ x, 1 ≤ x → x < p → x * x % p ≠ a % p) : QR.leg a p = -1 := by
  unfold QR.leg
  rw [if_neg h0, if_neg]
  intro hs
  obtain ⟨x, hx, e⟩ := QR.sqB_iff.1 hs
  rcases Nat.eq_zero_or_pos x with rfl | hx0
  · rw [Nat.zero_mul, Nat.zero_mod] at e; exact h0 e.symm
  · exact h x hx0 hx e
theorem cast_mod (x m : Nat) : ((x : Int) % (m : Int)) = ((x % m : Nat) : Int) := by rw [Int.natCast_emod]
theorem cast_div (x m : Nat) : ((x : Int) / (m : Int)) = ((x / m : Nat) : Int) := by rw [Int.natCast_ediv]

set_option maxHeartbeats 600000 in
set_option maxRecDepth 20000 in
theorem leg3 (a p : Nat) (w : World) (ha : a < 65536) (hp : 3 ≤ p) (hp4 : p < 4000) :
    Calls Tryd.prog 8 #[.int .u64 a, .int .u64 p] w fun e w' => e = .returned (.int .i64 (QR.leg a p)) ∧ Below w.heap.size w w' := by
  have pne : ¬ ((p : Int) = 0) := by omega
  obtain ⟨r, hr⟩ : ∃ r, r = a % p := ⟨_, rfl⟩
  have er : ((a : Int) % (p : Int)) = (r : Int) := by rw [cast_mod, hr]
  by_cases h0 : r = 0
  · have hl : QR.leg a p = 0 := by unfold QR.leg; rw [if_pos (by rw [← hr]; exact h0)]
    have z1 : ((r : Int) == 0) = true := by rw [beq_iff_eq]; omega
    have HL := Lib.hid hl; clear hl hr
    subst h0
    go_enter Tryd.func8, Tryd.ntmps8
    go_wp2
    go_ret
    exact ⟨by rw [HL.out]; rfl, Below.refl _ _⟩
  · have z1 : ((r : Int) == 0) = false := by rw [beq_eq_false_iff_ne]; omega
    have z2 : ¬ ((r : Int) = 0) := by omega
    have HR := Lib.hid hr; clear hr
    go_enter Tryd.func8, Tryd.ntmps8
    go_wp2
    go_loopw [5] (fun v wr => ∃ k : Nat, 1 ≤ k ∧ k ≤ p ∧ v = .int .u64 k ∧ Hid (∀ x, 1 ≤ x → x < k → x * x % p ≠ a % p) ∧ Below w.heap.size w wr) (fun v _ => p - (intOf v).toNat)
    case atStart => exact ⟨1, by omega, by omega, rfl, (fun x h1 h2 => by omega), Below.refl _ _⟩
    case round =>
      obtain ⟨k, hk1, hk, rfl, HN, hbel⟩ := hrel
      have BB := Lib.hid hbel; clear hbel
      by_cases hlt : k < p
      · obtain ⟨q, hq⟩ : ∃ q, q = k * k := ⟨_, rfl⟩
        have hq2 : q < 18446744073709551616 := by
          have : k * k ≤ 4000 * 4000 := Nat.mul_le_mul (by omega) (by omega)
          omega
        have wq1 : IntKind.u64.wrap ((k : Int) * k) = (q : Int) := by rw [← Int.natCast_mul, ← hq]; exact IntWalk.u64_in _ (by omega)
        obtain ⟨z, hz⟩ : ∃ z, z = q % p := ⟨_, rfl⟩
        have ez : ((q : Int) % (p : Int)) = (z : Int) := by rw [cast_mod, hz]
        have HQ := Lib.hid hq; clear hq
        have HZ := Lib.hid hz; clear hz
        by_cases hh : z = r
        · have hl : QR.leg a p = 1 := leg_hit (x := k) (by omega) (by rw [← HR.out]; exact h0) (by rw [← HR.out, ← hh, HZ.out, HQ.out])
          have HL := Lib.hid hl; clear hl
          subst hh
          go_wp2
          go_region
          go_wp2
          go_ret
          exact ⟨by rw [HL.out]; rfl, BB.out.drew⟩
        · have hk1' : IntKind.u64.wrap ((k : Int) + 1) = ((k + 1 : Nat) : Int) := by rw [IntWalk.u64_in _ (by omega)]; omega
          have g1 : ¬ ((z : Int) = (r : Int)) := by omega
          have g2 : ((z : Int) == (r : Int)) = false := by rw [beq_eq_false_iff_ne]; exact g1
          have g4 : (z == r) = false := by rw [beq_eq_false_iff_ne]; exact hh
          have HN2 : Hid (∀ x, 1 ≤ x → x < k + 1 → x * x % p ≠ a % p) := by
            intro x h1 h2
            by_cases e : x = k
            · subst e; rw [← HR.out, ← HQ.out, ← HZ.out]; exact hh
            · exact HN.out x h1 (by omega)
          go_wp2
          go_region
          go_wp2
          go_roundw
          case rel => exact ⟨k + 1, by omega, by omega, by go_num, HN2, BB.out.drew⟩
          case measure => simp [intOf]; omega
      · obtain rfl : k = p := by omega
        have hl : QR.leg a k = -1 := leg_miss (by rw [← HR.out]; exact h0) HN.out
        have HL := Lib.hid hl; clear hl
        go_wp2
        go_ret
        exact ⟨by rw [HL.out]; rfl, BB.out⟩

/-! ### The law -/
/-- What the trial division knows: the primes that were found, and the rest, which has no smaller divisor. -/
def TrialR (a m R p : Nat) (W : Int) : Prop :=
  (∃ L, QR.Good L ∧ QR.prd L * R = m ∧ W = QR.symb a L) ∧ (W = 0 ∨ W = 1 ∨ W = -1) ∧ R % 2 = 1 ∧ 0 < R ∧ R < 4000 ∧ p % 2 = 1 ∧ 3 ≤ p ∧ (∀ d, 2 ≤ d → d < p → ¬ d ∣ R)
theorem TrialR.le {a m R p : Nat} {W : Int} (h : TrialR a m R p W) (h1 : 1 < R) : p ≤ R := by
  obtain ⟨-, -, -, -, -, -, -, hd⟩ := h
  rcases Nat.lt_or_ge R p with q | q
  · exact absurd (Nat.dvd_refl R) (hd R h1 q)
  · exact q
theorem TrialR.prime {a m R p : Nat} {W : Int} (h : TrialR a m R p W) (hp : p ∣ R) : QR.Pr p := by
  obtain ⟨-, -, -, h0, -, -, h3, hd⟩ := h
  refine ⟨by omega, fun d hdp => ?_⟩
  have hle := Nat.le_of_dvd (by omega) hdp
  have hne : d ≠ 0 := by rintro rfl; have := Nat.eq_zero_of_zero_dvd hdp; omega
  by_cases h1 : d = 1
  · exact .inl h1
  · by_cases h2 : d = p
    · exact .inr h2
    · exact absurd (Nat.dvd_trans hdp hp) (hd d (by omega) (by omega))
theorem TrialR.found {a m R p q : Nat} {W : Int} (h : TrialR a m R p W) (hp : R % p = 0) (hq : q = R / p) (h1 : 1 < R) : TrialR a m q p (W * QR.leg a p) ∧ q < R := by
  have hd : p ∣ R := Nat.dvd_of_mod_eq_zero hp
  have hpr := h.prime hd
  have hpR := h.le h1
  obtain ⟨⟨L, hL, hm, hW⟩, hw, ho, h0, h4, hpo, h3, hdd⟩ := h
  have e : p * q = R := by rw [hq]; exact Nat.mul_div_cancel' hd
  have hqd : q ∣ R := ⟨p, by rw [Nat.mul_comm]; exact e.symm⟩
  have hq0 : 0 < q := by rcases Nat.eq_zero_or_pos q with z | z; · rw [z, Nat.mul_zero] at e; omega
                         · exact z
  have hqo : q % 2 = 1 := by
    rcases Nat.mod_two_eq_zero_or_one q with z | z
    · rw [← e, Nat.mul_mod, z, Nat.mul_zero, Nat.zero_mod] at ho; cases ho
    · exact z
  have hlt : q < R := by
    have : 3 * q ≤ p * q := Nat.mul_le_mul_right q h3
    omega
  refine ⟨⟨⟨p :: L, fun x hx => ?_, ?_, ?_⟩, ?_, hqo, hq0, by omega, hpo, h3, fun d h2 hdp hdq => hdd d h2 hdp (Nat.dvd_trans hdq hqd)⟩, hlt⟩
  · rcases List.mem_cons.1 hx with rfl | hx
    · exact ⟨hpr, hpo, by omega⟩
    · exact hL x hx
  · rw [QR.prd, Nat.mul_comm p, Nat.mul_assoc, e, hm]
  · rw [QR.symb, hW, Int.mul_comm]
  · rcases hw with rfl | rfl | rfl <;> rcases leg_cases a p with g | g | g <;> rw [g] <;> simp
theorem TrialR.next {a m R p : Nat} {W : Int} (h : TrialR a m R p W) (hp : R % p ≠ 0) : TrialR a m R (p + 2) W := by
  obtain ⟨hL, hw, ho, h0, h4, hpo, h3, hdd⟩ := h
  refine ⟨hL, hw, ho, h0, h4, by omega, by omega, fun d h2 hlt hd => ?_⟩
  by_cases e1 : d < p
  · exact hdd d h2 e1 hd
  · by_cases e2 : d = p
    · subst e2; exact hp (Nat.mod_eq_zero_of_dvd hd)
    · have e3 : d = p + 1 := by omega
      subst e3
      obtain ⟨k, hk⟩ := hd
      have : R % 2 = 0 := by rw [hk, Nat.mul_mod, show (p + 1) % 2 = 0 by omega, Nat.zero_mul, Nat.zero_mod]
      omega

set_option maxHeartbeats 1000000 in
set_option maxRecDepth 20000 in
theorem symbols_yes (a n m : Nat) (w : World) (ha : a < 65536) (hn : n < 65536) (hm : m = n % 2000 * 2 + 1) :
    Calls Tryd.prog 4 #[.int .u16 a, .int .u16 n] w fun e w' => e = .returned (.bool true) ∧ Below w.heap.size w w' := by
  have hm4 : m < 4000 := by omega
  obtain ⟨r, hr⟩ : ∃ r, r = n % 2000 := ⟨_, rfl⟩
  have e1 : ((n : Int) % 2000) = (r : Int) := by omega
  have c1 : IntKind.u64.wrap (r : Int) = r := IntWalk.u64_in _ (by omega)
  obtain ⟨t, ht⟩ : ∃ t, t = r * 2 := ⟨_, rfl⟩
  have c2 : IntKind.u64.wrap ((r : Int) * 2) = t := by rw [IntWalk.u64_in _ (by omega)]; omega
  have c3 : IntKind.u64.wrap ((t : Int) + 1) = m := by rw [IntWalk.u64_in _ (by omega)]; omega
  have ca : IntKind.u64.wrap (a : Int) = a := IntWalk.u64_in _ (by omega)
  have hst : TrialR a m m 3 1 := by
    refine ⟨⟨[], (fun p hp => by cases hp), by rw [QR.prd, Nat.one_mul], rfl⟩, .inr (.inl rfl), by omega, by omega, hm4, rfl, by omega, fun d h2 h3 hd => ?_⟩
    have : d = 2 := by omega
    subst this
    have := Nat.mod_eq_zero_of_dvd hd
    omega
  have hj : ∀ (W : Int), (∃ L, QR.Good L ∧ QR.prd L * 1 = m ∧ W = QR.symb a L) → ∀ w, Calls Tryd.prog 9 #[.string (E a), .string (E m)] w fun e w' => e = .returned (.tuple #[.int .i64 W, .int .i64 0]) ∧ Below w.heap.size w w' := by
    rintro W ⟨L, hL, hLm, rfl⟩ w
    rw [Nat.mul_one] at hLm
    have h := mjac_ok (E a) (E m) w (cs a (by omega)) (cs m (by omega)) (cp m (by omega)) (by rw [V_E]; omega)
    rw [V_E, V_E, jac_symb (a % m) m 1 L hL hLm hm4 (Nat.mod_lt _ (by omega)), QR.symb_mod (by rw [hLm]; exact Nat.dvd_refl m), Int.one_mul] at h
    exact h
  have HJ := Lib.hid hj; clear hj
  have HM := Lib.hid hm; clear hm
  have HR := Lib.hid hr; clear hr
  have HT := Lib.hid ht; clear ht
  have HST := Lib.hid hst; clear hst
  go_enter Tryd.func4, Tryd.ntmps4
  go_wp2
  clear e1 c1 c2 c3
  go_loopw [6, 7, 8] (fun vw vr vp wr => ∃ (W : Int) (R p : Nat), vw = .int .i64 W ∧ vr = .int .u64 R ∧ vp = .int .u64 p ∧ p ≤ 4001 ∧ Hid (TrialR a m R p W) ∧ Below w.heap.size w wr) (fun _ _ vp _ => 4010 - (intOf vp).toNat)
  case atStart => exact ⟨1, m, 3, rfl, rfl, rfl, by omega, HST, Below.refl _ _⟩
  case round =>
    obtain ⟨W, R, p, rfl, rfl, rfl, hp4, HTR, hbel⟩ := hrel
    have BB := Lib.hid hbel; clear hbel
    have h0 : 0 < R := HTR.out.2.2.2.1
    have hp3 : 3 ≤ p := HTR.out.2.2.2.2.2.2.1
    have pne : ¬ ((p : Int) = 0) := by omega
    by_cases h1 : 1 < R
    · have hpR := HTR.out.le h1
      have hR4 : R < 4000 := HTR.out.2.2.2.2.1
      have hgt : (1 : Int) < (R : Int) := by omega
      have hp2 : IntKind.u64.wrap ((p : Int) + 2) = ((p + 2 : Nat) : Int) := by rw [IntWalk.u64_in _ (by omega)]; omega
      go_wp2
      go_loopw [6, 7] (fun vw vr wr => ∃ (W' : Int) (R' : Nat), vw = .int .i64 W' ∧ vr = .int .u64 R' ∧ Hid (TrialR a m R' p W') ∧ Below w.heap.size w wr) (fun _ vr _ => (intOf vr).toNat)
      case atStart => exact ⟨W, R, rfl, rfl, HTR, BB.out⟩
      case round =>
        obtain ⟨W', R', rfl, rfl, HT2, hbel⟩ := hrel
        have B2 := Lib.hid hbel; clear hbel
        obtain ⟨z, hz⟩ : ∃ z, z = R' % p := ⟨_, rfl⟩
        have ez : ((R' : Int) % (p : Int)) = (z : Int) := by rw [cast_mod, hz]
        have h0' : 0 < R' := HT2.out.2.2.2.1
        by_cases hz0 : z = 0
        · have h1' : 1 < R' := by
            rcases Nat.lt_or_ge 1 R' with q | q
            · exact q
            · have : R' = 1 := by omega
              rw [this, Nat.mod_eq_of_lt (by omega)] at hz
              omega
          obtain ⟨q, hq⟩ : ∃ q, q = R' / p := ⟨_, rfl⟩
          have eq : ((R' : Int) / (p : Int)) = (q : Int) := by rw [cast_div, hq]
          have hf := HT2.out.found (by rw [← hz]; exact hz0) hq h1'
          obtain ⟨W2, hW2⟩ : ∃ W2, W2 = W' * QR.leg a p := ⟨_, rfl⟩
          rw [← hW2] at hf
          have hw2 := hf.1.2.1
          have ew : IntKind.i64.wrap (W' * QR.leg a p) = W2 := by rw [← hW2]; exact IntWalk.i64_in _ (by omega)
          have HF := Lib.hid hf.1
          have hlt : q < R' := hf.2
          have hR4' : R' < 4000 := HT2.out.2.2.2.2.1
          have wq : IntKind.u64.wrap (q : Int) = (q : Int) := IntWalk.u64_in _ (by omega)
          have z1 : ((z : Int) == 0) = true := by rw [beq_iff_eq]; omega
          have HW2 := Lib.hid hW2; clear hW2 hf hq hz
          subst hz0
          obtain ⟨lg, hlg⟩ : ∃ lg, lg = QR.leg a p := ⟨_, rfl⟩
          rw [← hlg] at ew
          have HLG := Lib.hid hlg; clear hlg
          go_wp2_with fail
          refine (leg3 a p _ ha hp3 (by omega)).mono ?_; rintro e w3 ⟨rfl, b3⟩
          rw [← HLG.out]
          have B3 := Lib.hid (bnext B2.out b3); clear b3
          go_wp2
          go_roundw
          case rel => exact ⟨W2, q, rfl, rfl, HF, B3.out⟩
          case measure => simp [intOf]; omega
        · have hnx := HT2.out.next (by rw [← hz]; exact hz0)
          have HNX := Lib.hid hnx; clear hnx hz
          have z1 : ((z : Int) == 0) = false := by rw [beq_eq_false_iff_ne]; omega
          have z2 : ¬ ((z : Int) = 0) := by omega
          go_wp2
          go_roundw
          case rel => exact ⟨W', R', p + 2, rfl, rfl, by go_num, by omega, HNX, B2.out⟩
          case measure => simp [intOf]; omega
    · obtain rfl : R = 1 := by omega
      have hjj := HJ.out W HTR.out.1
      have HJJ := Lib.hid hjj; clear hjj
      go_wp2_with fail
      refine (num3 a _ (by omega)).mono ?_; rintro e w3 ⟨rfl, b3⟩
      have B3 := Lib.hid (bnext BB.out b3); clear b3
      go_wp2_with fail
      refine (num3 m _ (by omega)).mono ?_; rintro e w4 ⟨rfl, b4⟩
      have B4 := Lib.hid (bnext B3.out b4); clear b4
      go_wp2_with fail
      refine (HJJ.out _).mono ?_; rintro e w5 ⟨rfl, b5⟩
      have B5 := Lib.hid (bnext B4.out b5); clear b5
      go_wp2_with fail
      refine (awake3 _).mono ?_; rintro e w6 ⟨rfl, b6⟩
      have B6 := Lib.hid (bnext B5.out b6); clear b6
      go_wp2
      go_ret
      exact ⟨rfl, B6.out⟩
theorem law_ModularSymbols (a n : Int) (l1 : (Lit.int .u16 a).wf = true) (l2 : (Lit.int .u16 n).wf = true) (w : World) :
    Calls Tryd.prog 4 #[.int .u16 a, .int .u16 n] w fun e w' => e = .returned (.bool true) ∧ Below w.heap.size w w' := by
  have hb1 := bounds_u16 l1
  have hb2 := bounds_u16 l2
  obtain ⟨a, rfl⟩ := Int.eq_ofNat_of_zero_le hb1.1
  obtain ⟨n, rfl⟩ := Int.eq_ofNat_of_zero_le hb2.1
  exact symbols_yes a n _ w (by omega) (by omega) rfl
end Go.Proofs.YtjbcicgbemepbaaDoor
