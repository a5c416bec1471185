/-
  Contracts of package modular, the third part: the library's Div64 where the divisor's highest bit is 1.
-/
import Derived.Test.YtogmgfdihmacpaaGreatDoorMod2
import Derived.Shelf.Bits.Mul64
namespace Go.Proofs.YtogmgfdihmacpaaGreatDoor
open Go.RowKit
set_option linter.unusedVariables false

theorem bitLen_top {y : Nat} (h : 9223372036854775808 ≤ y) (hy : y < 18446744073709551616) : Lib.bitLen y = 64 := by
  rw [Lib.bitLen_shift 63 y h hy]
  have : y / 2 ^ 63 = 1 := by
    have : (2 : Nat) ^ 63 = 9223372036854775808 := rfl
    rw [this]; omega
  rw [this]; rfl
theorem or_zero64 (a : Nat) (h : a < 18446744073709551616) : bits .or .u64 (a : Int) 0 = (a : Int) := by
  have := u64_or_nat a 0 h (by omega)
  rw [Nat.or_zero] at this
  exact this

theorem quo_int {M Q u lo y : Nat} (h : M + Q = (u * 18446744073709551616 + lo) / y) : (M : Int) + (Q : Int) = ((u : Int) * 18446744073709551616 + (lo : Int)) / (y : Int) := by
  rw [← Int.natCast_add, h, Int.natCast_ediv, Int.natCast_add, Int.natCast_mul]; rfl

set_option maxHeartbeats 2000000 in
set_option maxRecDepth 20000 in
theorem div64_any (u lo y : Nat) (w : World) (h1 : 9223372036854775808 ≤ y) (h2 : y < 18446744073709551616) (h3 : u < y) (h4 : lo < 18446744073709551616) :
    Calls Tryz.prog 142 #[.int .u64 u, .int .u64 lo, .int .u64 y] w fun e w' => (∃ r : Value, e = .returned (.tuple #[.int .u64 ((u * 18446744073709551616 + lo) / y : Nat), r])) ∧ ∃ n, w' = w.drewN n := by
  have hbl := bitLen_top h1 h2
  have hlz := fun w => Tryz.bits_LeadingZeros64 (y : Int) w (by omega) (by omega)
  rw [Int.toNat_natCast, hbl] at hlz
  clear hbl
  have hy0 : ((y : Int) == 0) = false := by rw [beq_eq_false_iff_ne]; omega
  have hyu : ¬ (y : Int) ≤ (u : Int) := by omega
  by_cases hu0 : u = 0
  · subst hu0
    go_enter Tryz.func142, Tryz.ntmps142
    go_wp2
    go_quiet (fail)
    go_wp2
    have hz : lo / y ≤ lo := Nat.div_le_self _ _
    have fz : IntKind.u64.wrap ((lo : Int) / (y : Int)) = ((lo / y : Nat) : Int) := by
      rw [← Int.natCast_ediv]
      generalize lo / y = z at *
      exact IntWalk.u64_in _ (by omega)
    go_ret2
    exact ⟨⟨_, ret_two (int_eq (by rw [fz, Nat.zero_mul, Nat.zero_add])) rfl⟩, _, rfl⟩
  · have hu : ((u : Int) == 0) = false := by rw [beq_eq_false_iff_ne]; omega
    obtain ⟨y1, hy1⟩ : ∃ z, z = y / 4294967296 := ⟨_, rfl⟩
    obtain ⟨y0, hyl⟩ : ∃ z, z = y % 4294967296 := ⟨_, rfl⟩
    obtain ⟨a1, ha1⟩ : ∃ z, z = lo / 4294967296 := ⟨_, rfl⟩
    obtain ⟨a0, hal⟩ : ∃ z, z = lo % 4294967296 := ⟨_, rfl⟩
    have hyy : y1 * 4294967296 + y0 = y := by omega
    have f1 : (y : Int) / 4294967296 = (y1 : Int) := by omega
    have f2 : bits .and .u64 (y : Int) 4294967295 = (y0 : Int) := by rw [Mul64.maskN y h2, hyl]
    have f3 : (lo : Int) / 18446744073709551616 = 0 := by omega
    have f4 := or_zero64 u (by omega)
    have f5 : (lo : Int) / 4294967296 = (a1 : Int) := by omega
    have f6 : bits .and .u64 (lo : Int) 4294967295 = (a0 : Int) := by rw [Mul64.maskN lo h4, hal]
    have b1 : 2147483648 ≤ y1 := by omega
    have b1' : y1 < 4294967296 := by omega
    have b0 : y0 < 4294967296 := by omega
    have c1 : a1 < 4294967296 := by omega
    have c0 : a0 < 4294967296 := by omega
    have hlo : a1 * 4294967296 + a0 = lo := by rw [ha1, hal, Nat.mul_comm]; exact Nat.div_add_mod lo 4294967296
    have hub : u < y1 * 4294967296 + y0 := by omega
    have HF := Lib.hid (din_first u a1 y1 y0 b1 b0 hub c1)
    obtain ⟨q0, hq0⟩ : ∃ q, q = u / y1 := ⟨_, rfl⟩
    obtain ⟨t0, ht0⟩ : ∃ q, q = q0 * y1 := ⟨_, rfl⟩
    obtain ⟨r0, hr0⟩ : ∃ q, q = u - t0 := ⟨_, rfl⟩
    have hqb : q0 ≤ 4294967297 := by rw [hq0]; exact HF.out.2.2
    have htu : t0 ≤ u := by rw [ht0, hq0]; exact Nat.div_mul_le_self u y1
    have hrb : r0 < y1 := by
      have := Nat.lt_div_mul_add (a := u) (show 0 < y1 by omega)
      rw [← hq0, ← ht0] at this
      omega
    have HG0 : Hid (DIn u a1 y1 y0 q0 r0) := by rw [hr0, ht0, hq0]; exact HF
    have f7 : (u : Int).tdiv (y1 : Int) = (q0 : Int) := by rw [hq0]; rfl
    have f9 : IntKind.u64.wrap ((q0 : Int) * (y1 : Int)) = (t0 : Int) := by rw [← Int.natCast_mul, ← ht0]; exact IntWalk.u64_in _ (by omega)
    have f10 : IntKind.u64.wrap ((u : Int) - (t0 : Int)) = (r0 : Int) := by rw [IntWalk.u64_in _ (by omega)]; omega
    -- the first digit of the quotient, and what is left
    obtain ⟨Q1, hQ1⟩ : ∃ q, q = (u * 4294967296 + a1) / y := ⟨_, rfl⟩
    obtain ⟨R1, hR1⟩ : ∃ q, q = (u * 4294967296 + a1) % y := ⟨_, rfl⟩
    have E1 := Lib.hid (show (u * 4294967296 + a1) / (y1 * 4294967296 + y0) = Q1 by rw [hyy]; exact hQ1.symm)
    have hR1b : R1 < y := by rw [hR1]; exact Nat.mod_lt _ (by omega)
    have hQ1b : Q1 < 4294967296 := by rw [← E1.out]; exact din_q_lt b1 hub c1
    obtain ⟨T1, hT1⟩ : ∃ q, q = Q1 * y := ⟨_, rfl⟩
    have hqr : u * 4294967296 + a1 = T1 + R1 := by
      have := Nat.div_add_mod (u * 4294967296 + a1) y
      rw [← hQ1, ← hR1, Nat.mul_comm, ← hT1] at this
      exact this.symm
    obtain ⟨X0, hX0⟩ : ∃ q, q = u * 4294967296 % 18446744073709551616 := ⟨_, rfl⟩
    obtain ⟨X1, hX1⟩ : ∃ q, q = (X0 + a1) % 18446744073709551616 := ⟨_, rfl⟩
    obtain ⟨Y1, hY1⟩ : ∃ q, q = T1 % 18446744073709551616 := ⟨_, rfl⟩
    have g1 : IntKind.u64.wrap ((u : Int) * 4294967296) = (X0 : Int) := by rw [IntKind.wrap_u64]; omega
    have g2 : IntKind.u64.wrap ((X0 : Int) + (a1 : Int)) = (X1 : Int) := by rw [IntKind.wrap_u64]; omega
    have g3 : IntKind.u64.wrap ((Q1 : Int) * (y : Int)) = (Y1 : Int) := by rw [← Int.natCast_mul, ← hT1, IntKind.wrap_u64]; omega
    have g4 : IntKind.u64.wrap ((X1 : Int) - (Y1 : Int)) = (R1 : Int) := by rw [IntKind.wrap_u64]; omega
    clear hqr hX0 hX1 hY1 hT1 hq0 ht0 hr0 htu HF
    have H1 := Lib.hid b1
    have H2 := Lib.hid b0
    have HU := Lib.hid hub
    have HC1 := Lib.hid c1
    -- the second digit
    have hub2 : R1 < y1 * 4294967296 + y0 := by omega
    have HU2 := Lib.hid hub2
    have HC0 := Lib.hid c0
    have HF2 := Lib.hid (din_first R1 a0 y1 y0 b1 b0 hub2 c0)
    obtain ⟨q2, hq2⟩ : ∃ q, q = R1 / y1 := ⟨_, rfl⟩
    obtain ⟨t2, ht2⟩ : ∃ q, q = q2 * y1 := ⟨_, rfl⟩
    obtain ⟨r2, hr2⟩ : ∃ q, q = R1 - t2 := ⟨_, rfl⟩
    have hqb2 : q2 ≤ 4294967297 := by rw [hq2]; exact HF2.out.2.2
    have htu2 : t2 ≤ R1 := by rw [ht2, hq2]; exact Nat.div_mul_le_self R1 y1
    have hrb2 : r2 < y1 := by
      have := Nat.lt_div_mul_add (a := R1) (show 0 < y1 by omega)
      rw [← hq2, ← ht2] at this
      omega
    have HG2 : Hid (DIn R1 a0 y1 y0 q2 r2) := by rw [hr2, ht2, hq2]; exact HF2
    have k1 : (R1 : Int).tdiv (y1 : Int) = (q2 : Int) := by rw [hq2]; rfl
    have k3 : IntKind.u64.wrap ((q2 : Int) * (y1 : Int)) = (t2 : Int) := by rw [← Int.natCast_mul, ← ht2]; exact IntWalk.u64_in _ (by omega)
    have k4 : IntKind.u64.wrap ((R1 : Int) - (t2 : Int)) = (r2 : Int) := by rw [IntWalk.u64_in _ (by omega)]; omega
    obtain ⟨Q0, hQ0⟩ : ∃ q, q = (R1 * 4294967296 + a0) / y := ⟨_, rfl⟩
    have E2 := Lib.hid (show (R1 * 4294967296 + a0) / (y1 * 4294967296 + y0) = Q0 by rw [hyy]; exact hQ0.symm)
    have hQ0b : Q0 < 4294967296 := by rw [← E2.out]; exact din_q_lt b1 hub2 c0
    have hfin : Q1 * 4294967296 + Q0 = (u * 18446744073709551616 + lo) / y := by
      rw [hQ1, hQ0, hR1, two_digits u a1 a0 y (by omega), Nat.add_assoc, hlo]
    obtain ⟨M1, hM1⟩ : ∃ q, q = Q1 * 4294967296 := ⟨_, rfl⟩
    rw [← hM1] at hfin
    have hM1b : M1 ≤ 18446744069414584320 := by omega
    have p1 : IntKind.u64.wrap ((Q1 : Int) * 4294967296) = (M1 : Int) := by rw [IntWalk.u64_in _ (by omega)]; omega
    have p2 : IntKind.u64.wrap ((M1 : Int) + (Q0 : Int)) = (M1 : Int) + (Q0 : Int) := IntWalk.u64_in _ (by omega)
    have HFIN := Lib.hid hfin
    clear hfin hM1 hQ1 hQ0 hR1 hq2 ht2 hr2 htu2 HF2 hub hub2 hy1 hyl ha1 hal hyy hlo
    go_enter Tryz.func142, Tryz.ntmps142
    go_wp2_with fail
    refine (hlz _).mono ?_
    rintro e w' ⟨rfl, rfl⟩
    clear hlz
    go_wp2
    clear f1 f2 f3 f4 f5 f6 f7 f9 f10
    generalize hK : (4294967296 : Int) = K at *
    go_loop [15, 16] (fun q r => ∃ qh rh : Nat, q = .int .u64 qh ∧ r = .int .u64 rh ∧ rh < 4294967296 ∧ qh ≤ 4294967297 ∧ Hid (DIn u a1 y1 y0 qh rh)) (fun q _ => (intOf q).toNat)
    case atStart => exact ⟨_, _, rfl, rfl, by omega, by omega, HG0⟩
    case round =>
      obtain ⟨qh, rh, rfl, rfl, hr, hq, HG⟩ := hrel
      by_cases hbig : 4294967296 ≤ qh
      · have hst := din_step HG.out H1.out H2.out HU.out HC1.out (.inl hbig)
        have hq0 := hst.1
        have HN := Lib.hid hst.2
        clear hst
        by_cases hbr : 4294967296 ≤ rh + y1
        · have hend := din_end HN.out H1.out H2.out HU.out HC1.out (.inl hbr)
          rw [E1.out] at hend
          have hqe : (qh : Int) - 1 = (Q1 : Int) := by omega
          clear hend HG HN
          go_wp2
          go_loop [18, 16] (fun q r => ∃ qh rh : Nat, q = .int .u64 qh ∧ r = .int .u64 rh ∧ rh < 4294967296 ∧ qh ≤ 4294967297 ∧ Hid (DIn R1 a0 y1 y0 qh rh)) (fun q _ => (intOf q).toNat)
          case atStart => exact ⟨_, _, rfl, rfl, by omega, by omega, HG2⟩
          case round =>
            obtain ⟨qh, rh, rfl, rfl, hr, hq, HG⟩ := hrel
            by_cases hbig : 4294967296 ≤ qh
            · have hst := din_step HG.out H1.out H2.out HU2.out HC0.out (.inl hbig)
              have hq0 := hst.1
              have HN := Lib.hid hst.2
              clear hst
              by_cases hbr : 4294967296 ≤ rh + y1
              · have hend := din_end HN.out H1.out H2.out HU2.out HC0.out (.inl hbr)
                rw [E2.out] at hend
                have hqe : (qh : Int) - 1 = (Q0 : Int) := by omega
                clear hend HG HN
                go_wp2
                go_ret2
                exact ⟨⟨_, ret_two (int_eq (quo_int HFIN.out)) rfl⟩, 0, rfl⟩
              · go_wp2
                go_round
                case rel => exact ⟨qh - 1, rh + y1, int_eq (by omega), int_eq (by omega), by omega, by omega, HN⟩
                case measure => simp [intOf]; omega
            · have hT : qh * y0 ≤ 18446744065119617025 := Nat.mul_le_mul (show qh ≤ 4294967295 by omega) (show y0 ≤ 4294967295 by omega)
              obtain ⟨t, ht⟩ : ∃ t, t = qh * y0 := ⟨_, rfl⟩
              rw [← ht] at hT
              have mt : IntKind.u64.wrap ((qh : Int) * (y0 : Int)) = (t : Int) := by rw [← Int.natCast_mul, ← ht]; exact IntWalk.u64_in _ (by omega)
              obtain ⟨m, hm⟩ : ∃ m, m = 4294967296 * rh := ⟨_, rfl⟩
              have mk : IntKind.u64.wrap (K * (rh : Int)) = (m : Int) := by rw [← hK, IntWalk.u64_in _ (by omega)]; omega
              have hmb : m ≤ 18446744069414584320 := by omega
              by_cases hgt : m + a0 < t
              · have hst := din_step HG.out H1.out H2.out HU2.out HC0.out (.inr (by rw [← ht, ← hm]; exact hgt))
                clear ht hm
                have hq0 := hst.1
                have HN := Lib.hid hst.2
                clear hst
                by_cases hbr : 4294967296 ≤ rh + y1
                · have hend := din_end HN.out H1.out H2.out HU2.out HC0.out (.inl hbr)
                  rw [E2.out] at hend
                  have hqe : (qh : Int) - 1 = (Q0 : Int) := by omega
                  clear hend HG HN
                  go_wp2
                  go_ret2
                  exact ⟨⟨_, ret_two (int_eq (quo_int HFIN.out)) rfl⟩, 0, rfl⟩
                · go_wp2
                  go_round
                  case rel => exact ⟨qh - 1, rh + y1, int_eq (by omega), int_eq (by omega), by omega, by omega, HN⟩
                  case measure => simp [intOf]; omega
              · have hend := din_end HG.out H1.out H2.out HU2.out HC0.out (.inr (by rw [← ht, ← hm]; omega))
                rw [E2.out] at hend
                clear ht hm HG
                have hend := hend.symm
                subst hend
                go_wp2
                go_ret2
                exact ⟨⟨_, ret_two (int_eq (quo_int HFIN.out)) rfl⟩, 0, rfl⟩
        · go_wp2
          go_round
          case rel => exact ⟨qh - 1, rh + y1, int_eq (by omega), int_eq (by omega), by omega, by omega, HN⟩
          case measure => simp [intOf]; omega
      · have hT : qh * y0 ≤ 18446744065119617025 := Nat.mul_le_mul (show qh ≤ 4294967295 by omega) (show y0 ≤ 4294967295 by omega)
        obtain ⟨t, ht⟩ : ∃ t, t = qh * y0 := ⟨_, rfl⟩
        rw [← ht] at hT
        have mt : IntKind.u64.wrap ((qh : Int) * (y0 : Int)) = (t : Int) := by rw [← Int.natCast_mul, ← ht]; exact IntWalk.u64_in _ (by omega)
        obtain ⟨m, hm⟩ : ∃ m, m = 4294967296 * rh := ⟨_, rfl⟩
        have mk : IntKind.u64.wrap (K * (rh : Int)) = (m : Int) := by rw [← hK, IntWalk.u64_in _ (by omega)]; omega
        have hmb : m ≤ 18446744069414584320 := by omega
        by_cases hgt : m + a1 < t
        · have hst := din_step HG.out H1.out H2.out HU.out HC1.out (.inr (by rw [← ht, ← hm]; exact hgt))
          clear ht hm
          have hq0 := hst.1
          have HN := Lib.hid hst.2
          clear hst
          by_cases hbr : 4294967296 ≤ rh + y1
          · have hend := din_end HN.out H1.out H2.out HU.out HC1.out (.inl hbr)
            rw [E1.out] at hend
            have hqe : (qh : Int) - 1 = (Q1 : Int) := by omega
            clear hend HG HN
            go_wp2
            go_loop [18, 16] (fun q r => ∃ qh rh : Nat, q = .int .u64 qh ∧ r = .int .u64 rh ∧ rh < 4294967296 ∧ qh ≤ 4294967297 ∧ Hid (DIn R1 a0 y1 y0 qh rh)) (fun q _ => (intOf q).toNat)
            case atStart => exact ⟨_, _, rfl, rfl, by omega, by omega, HG2⟩
            case round =>
              obtain ⟨qh, rh, rfl, rfl, hr, hq, HG⟩ := hrel
              by_cases hbig : 4294967296 ≤ qh
              · have hst := din_step HG.out H1.out H2.out HU2.out HC0.out (.inl hbig)
                have hq0 := hst.1
                have HN := Lib.hid hst.2
                clear hst
                by_cases hbr : 4294967296 ≤ rh + y1
                · have hend := din_end HN.out H1.out H2.out HU2.out HC0.out (.inl hbr)
                  rw [E2.out] at hend
                  have hqe : (qh : Int) - 1 = (Q0 : Int) := by omega
                  clear hend HG HN
                  go_wp2
                  go_ret2
                  exact ⟨⟨_, ret_two (int_eq (quo_int HFIN.out)) rfl⟩, 0, rfl⟩
                · go_wp2
                  go_round
                  case rel => exact ⟨qh - 1, rh + y1, int_eq (by omega), int_eq (by omega), by omega, by omega, HN⟩
                  case measure => simp [intOf]; omega
              · have hT : qh * y0 ≤ 18446744065119617025 := Nat.mul_le_mul (show qh ≤ 4294967295 by omega) (show y0 ≤ 4294967295 by omega)
                obtain ⟨t, ht⟩ : ∃ t, t = qh * y0 := ⟨_, rfl⟩
                rw [← ht] at hT
                have mt : IntKind.u64.wrap ((qh : Int) * (y0 : Int)) = (t : Int) := by rw [← Int.natCast_mul, ← ht]; exact IntWalk.u64_in _ (by omega)
                obtain ⟨m, hm⟩ : ∃ m, m = 4294967296 * rh := ⟨_, rfl⟩
                have mk : IntKind.u64.wrap (K * (rh : Int)) = (m : Int) := by rw [← hK, IntWalk.u64_in _ (by omega)]; omega
                have hmb : m ≤ 18446744069414584320 := by omega
                by_cases hgt : m + a0 < t
                · have hst := din_step HG.out H1.out H2.out HU2.out HC0.out (.inr (by rw [← ht, ← hm]; exact hgt))
                  clear ht hm
                  have hq0 := hst.1
                  have HN := Lib.hid hst.2
                  clear hst
                  by_cases hbr : 4294967296 ≤ rh + y1
                  · have hend := din_end HN.out H1.out H2.out HU2.out HC0.out (.inl hbr)
                    rw [E2.out] at hend
                    have hqe : (qh : Int) - 1 = (Q0 : Int) := by omega
                    clear hend HG HN
                    go_wp2
                    go_ret2
                    exact ⟨⟨_, ret_two (int_eq (quo_int HFIN.out)) rfl⟩, 0, rfl⟩
                  · go_wp2
                    go_round
                    case rel => exact ⟨qh - 1, rh + y1, int_eq (by omega), int_eq (by omega), by omega, by omega, HN⟩
                    case measure => simp [intOf]; omega
                · have hend := din_end HG.out H1.out H2.out HU2.out HC0.out (.inr (by rw [← ht, ← hm]; omega))
                  rw [E2.out] at hend
                  clear ht hm HG
                  have hend := hend.symm
                  subst hend
                  go_wp2
                  go_ret2
                  exact ⟨⟨_, ret_two (int_eq (quo_int HFIN.out)) rfl⟩, 0, rfl⟩
          · go_wp2
            go_round
            case rel => exact ⟨qh - 1, rh + y1, int_eq (by omega), int_eq (by omega), by omega, by omega, HN⟩
            case measure => simp [intOf]; omega
        · have hend := din_end HG.out H1.out H2.out HU.out HC1.out (.inr (by rw [← ht, ← hm]; omega))
          rw [E1.out] at hend
          clear ht hm HG
          have hend := hend.symm
          subst hend
          go_wp2
          go_loop [18, 16] (fun q r => ∃ qh rh : Nat, q = .int .u64 qh ∧ r = .int .u64 rh ∧ rh < 4294967296 ∧ qh ≤ 4294967297 ∧ Hid (DIn R1 a0 y1 y0 qh rh)) (fun q _ => (intOf q).toNat)
          case atStart => exact ⟨_, _, rfl, rfl, by omega, by omega, HG2⟩
          case round =>
            obtain ⟨qh, rh, rfl, rfl, hr, hq, HG⟩ := hrel
            by_cases hbig : 4294967296 ≤ qh
            · have hst := din_step HG.out H1.out H2.out HU2.out HC0.out (.inl hbig)
              have hq0 := hst.1
              have HN := Lib.hid hst.2
              clear hst
              by_cases hbr : 4294967296 ≤ rh + y1
              · have hend := din_end HN.out H1.out H2.out HU2.out HC0.out (.inl hbr)
                rw [E2.out] at hend
                have hqe : (qh : Int) - 1 = (Q0 : Int) := by omega
                clear hend HG HN
                go_wp2
                go_ret2
                exact ⟨⟨_, ret_two (int_eq (quo_int HFIN.out)) rfl⟩, 0, rfl⟩
              · go_wp2
                go_round
                case rel => exact ⟨qh - 1, rh + y1, int_eq (by omega), int_eq (by omega), by omega, by omega, HN⟩
                case measure => simp [intOf]; omega
            · have hT : qh * y0 ≤ 18446744065119617025 := Nat.mul_le_mul (show qh ≤ 4294967295 by omega) (show y0 ≤ 4294967295 by omega)
              obtain ⟨t, ht⟩ : ∃ t, t = qh * y0 := ⟨_, rfl⟩
              rw [← ht] at hT
              have mt : IntKind.u64.wrap ((qh : Int) * (y0 : Int)) = (t : Int) := by rw [← Int.natCast_mul, ← ht]; exact IntWalk.u64_in _ (by omega)
              obtain ⟨m, hm⟩ : ∃ m, m = 4294967296 * rh := ⟨_, rfl⟩
              have mk : IntKind.u64.wrap (K * (rh : Int)) = (m : Int) := by rw [← hK, IntWalk.u64_in _ (by omega)]; omega
              have hmb : m ≤ 18446744069414584320 := by omega
              by_cases hgt : m + a0 < t
              · have hst := din_step HG.out H1.out H2.out HU2.out HC0.out (.inr (by rw [← ht, ← hm]; exact hgt))
                clear ht hm
                have hq0 := hst.1
                have HN := Lib.hid hst.2
                clear hst
                by_cases hbr : 4294967296 ≤ rh + y1
                · have hend := din_end HN.out H1.out H2.out HU2.out HC0.out (.inl hbr)
                  rw [E2.out] at hend
                  have hqe : (qh : Int) - 1 = (Q0 : Int) := by omega
                  clear hend HG HN
                  go_wp2
                  go_ret2
                  exact ⟨⟨_, ret_two (int_eq (quo_int HFIN.out)) rfl⟩, 0, rfl⟩
                · go_wp2
                  go_round
                  case rel => exact ⟨qh - 1, rh + y1, int_eq (by omega), int_eq (by omega), by omega, by omega, HN⟩
                  case measure => simp [intOf]; omega
              · have hend := din_end HG.out H1.out H2.out HU2.out HC0.out (.inr (by rw [← ht, ← hm]; omega))
                rw [E2.out] at hend
                clear ht hm HG
                have hend := hend.symm
                subst hend
                go_wp2
                go_ret2
                exact ⟨⟨_, ret_two (int_eq (quo_int HFIN.out)) rfl⟩, 0, rfl⟩
end Go.Proofs.YtogmgfdihmacpaaGreatDoor
