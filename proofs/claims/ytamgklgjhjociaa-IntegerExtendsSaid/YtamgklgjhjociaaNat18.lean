/-
  Contracts of package natural, the eighteenth part: Parse.
-/
import Derived.Test.YtamgklgjhjociaaNat17
namespace Go.Proofs.Ytamgklgjhjociaa
open Go.RowKit
set_option linter.unusedVariables false

/-- The number of a list of decimal digits. -/
def dval (l : List UInt8) : Nat := l.foldl (fun n c => n * 10 + (c.toNat - 48)) 0
/-- The number of the first i digits. -/
def pv (s : ByteArray) (i : Nat) : Nat := dval (s.data.toList.take i)
theorem pv_zero (s : ByteArray) : pv s 0 = 0 := rfl
theorem pv_succ (s : ByteArray) (i : Nat) (h : i < s.size) : pv s (i + 1) = pv s i * 10 + ((s[i]'h).toNat - 48) := by
  have hl : i < s.data.toList.length := by rw [← size_eq]; exact h
  unfold pv dval
  rw [List.take_succ_eq_append_getElem hl, List.foldl_append, ← get_eq s i h]
  rfl
theorem pv_mono (s : ByteArray) (i : Nat) (h : i < s.size) : pv s i ≤ pv s (i + 1) := by rw [pv_succ s i h]; omega
theorem pv_lo {s : ByteArray} (hd : DecS s) (hs : 1 < s.size) : ∀ i, i < s.size → 10 ^ i ≤ pv s (i + 1)
  | 0, h => by
    rw [pv_succ s 0 h, pv_zero]
    have h1 := hd.1 0 h
    have h2 : (s[0]'h).toNat ≠ 48 := fun q => by have := hd.2.2 h q; omega
    omega
  | i + 1, h => by
    have ih := pv_lo hd hs i (by omega)
    rw [pv_succ s (i + 1) h, Nat.pow_succ]
    omega
theorem lim_309 : Lim ≤ 10 ^ 155 * 10 ^ 154 := by
  rw [lim_eq]
  decide +kernel
theorem ten_le {a b k : Nat} (h : a + b ≤ k) : 10 ^ a * 10 ^ b ≤ 10 ^ k := by
  rw [← Nat.pow_add]; exact Nat.pow_le_pow_right (by omega) h
theorem pv_long {s : ByteArray} (hd : DecS s) (hs : 309 < s.size) : ¬ pv s s.size < Lim := by
  obtain ⟨k, hk⟩ : ∃ k, s.size = k + 1 := ⟨s.size - 1, by omega⟩
  have h := pv_lo hd (by omega) k (by omega)
  rw [← hk] at h
  have h2 := Nat.le_trans lim_309 (ten_le (show 155 + 154 ≤ k by omega))
  exact Nat.not_lt.2 (Nat.le_trans h2 h)
theorem pow10_le {r : Nat} (h : r ≤ 8) : 10 ^ r ≤ 100000000 := Nat.pow_le_pow_right (n := 10) (by omega) h
theorem pow10_nine {r : Nat} (h : r ≤ 9) : 10 ^ r = 1000000000 ↔ r = 9 := by
  have : r = 0 ∨ r = 1 ∨ r = 2 ∨ r = 3 ∨ r = 4 ∨ r = 5 ∨ r = 6 ∨ r = 7 ∨ r = 8 ∨ r = 9 := by omega
  rcases this with rfl | rfl | rfl | rfl | rfl | rfl | rfl | rfl | rfl | rfl <;> simp

/-- What the loop of Parse knows. -/
def ParR (s : ByteArray) (w : World) (d sc part v : Value) (wr : World) : Prop :=
  ∃ i n r N pt : Nat, i ≤ s.size ∧ v = .int .i64 i ∧ sc = .int .u32 (10 ^ r : Nat) ∧ part = .int .u32 pt ∧ wr.ownsRow w.heap.size 104 1 d n (wl N n) ∧ N < B32 ^ n ∧ r ≤ 8 ∧ pt < 10 ^ r ∧
    pv s i = N * 10 ^ r + pt ∧ (9 * n + r = i ∨ (i = s.size ∧ n ≤ 40)) ∧ (i = s.size → r = 0) ∧ Below w.heap.size w wr

theorem below_d18 {B : Nat} {a w : World} (h : Below B a w) (q : Nat) : Below B a (w.drewN q) := ⟨h.os, h.tape, h.output, h.size, h.block⟩
theorem okN_pair18 (n : Nat) : ∃ (b : ByteArray) (v : Int), okN n = .tuple #[.string b, .int .i64 v] := by
  unfold okN; split
  · exact ⟨_, _, rfl⟩
  · exact ⟨_, _, rfl⟩

set_option maxHeartbeats 400000 in
theorem parse_no (s : ByteArray) (w : World) (hs : s.size ≤ 1000) (h : ¬ DecS s) :
    Calls Try.prog 68 #[.string s] w fun e w' => e = .returned (.tuple #[.string (E 0), .int .i64 4]) ∧ w = w' := by
  have HD := Lib.hid h; clear h
  go_enter Try.func68, Try.ntmps68
  go_wp2_with fail
  refine (decimal_no s _ hs HD.out).mono ?_; rintro e w' ⟨rfl, rfl⟩
  go_wp2
  go_ret2
  exact ⟨rfl, rfl⟩
set_option maxHeartbeats 400000 in
theorem parse_long (s : ByteArray) (w : World) (hs : s.size ≤ 1000) (h : DecS s) (hl : ¬ s.size ≤ 309) :
    Calls Try.prog 68 #[.string s] w fun e w' => e = .returned (okN (pv s s.size)) ∧ w = w' := by
  rw [okN_no (pv_long h (by omega))]
  have HD := Lib.hid h; clear h
  go_enter Try.func68, Try.ntmps68
  go_wp2_with fail
  refine (decimal_yes s _ hs HD.out).mono ?_; rintro e w' ⟨rfl, rfl⟩
  go_wp2
  go_ret2
  exact ⟨rfl, rfl⟩

set_option maxHeartbeats 800000 in
set_option maxRecDepth 20000 in
theorem parse_short (s : ByteArray) (w : World) (h : DecS s) (hl : s.size ≤ 309) :
    Calls Try.prog 68 #[.string s] w fun e w' => e = .returned (okN (pv s s.size)) ∧ Below w.heap.size w w' := by
  have h0 : 0 < s.size := h.2.1
  have HD := Lib.hid h; clear h
  have hown : w.ownsRow w.heap.size 104 1 (.slice none 0 0) 0 [] := ⟨rfl, .inl ⟨rfl, rfl⟩⟩
  have HO := Lib.hid hown; clear hown
  go_enter Try.func68, Try.ntmps68
  go_wp2_with fail
  refine (decimal_yes s _ (by omega) HD.out).mono ?_; rintro e w' ⟨rfl, rfl⟩
  go_wp2
  go_loopw [4, 5, 6, 16] (fun d sc part v wr => ParR s w d sc part v wr) (fun _ _ _ v _ => s.size - (intOf v).toNat)
  case atStart => exact ⟨0, 0, 0, 0, 0, by omega, rfl, rfl, rfl, HO.out, by simp, by omega, by simp, by rw [pv_zero], .inl rfl, fun q => by omega, Below.refl _ _⟩
  case round =>
    clear HO
    obtain ⟨i, n, r, N, pt, hi, rfl, rfl, rfl, hown, hN, hr, hpt, hpv, hdis, hend, hbel⟩ := hrel
    by_cases hlt : i < s.size
    · have hnr : 9 * n + r = i := by
        rcases hdis with h | h
        · exact h
        · omega
      have hx := HD.out.1 i hlt
      have hps := pv_succ s i hlt
      obtain ⟨x, hxe⟩ : ∃ x, x = (s[i]'hlt).toNat := ⟨_, rfl⟩
      have hsc := pow10_le hr
      have h9 := pow10_nine (r := r + 1) (by omega)
      obtain ⟨sc, hsce⟩ : ∃ q, q = 10 ^ r := ⟨_, rfl⟩
      rw [Nat.pow_succ, Nat.mul_comm] at h9
      rw [← hsce] at hsc h9 hpt hpv ⊢
      rw [← hxe] at hx hps
      rw [hpv] at hps
      obtain ⟨y, hy⟩ : ∃ y, y = x - 48 := ⟨_, rfl⟩
      have hxy : x = y + 48 := by omega
      have hy9 : y ≤ 9 := by omega
      rw [← hy] at hps
      have hps2 : pv s (i + 1) = N * (10 * sc) + (10 * pt + y) := by
        rw [hps, Nat.mul_left_comm, Nat.add_mul]; omega
      have hpow : 10 ^ (r + 1) = 10 * sc := by rw [Nat.pow_succ, ← hsce, Nat.mul_comm]
      have HPS := Lib.hid hps2; clear hps2 hps hpv hy hx
      have HPW := Lib.hid hpow; clear hpow hsce
      have HO := Lib.hid hown; clear hown
      have HN := Lib.hid hN; clear hN
      clear hdis hend
      have hxb : (((s[i]'hlt).toNat : Nat) : Int) = (y : Int) + 48 := by rw [← hxe, hxy]; simp
      clear hxe hxy
      have q0 : IntKind.u8.wrap (y : Int) = (y : Int) := IntWalk.u8_in _ (by omega)
      have q1 : IntKind.u32.wrap (10 * (sc : Int)) = 10 * (sc : Int) := IntWalk.u32_in _ (by omega)
      have q2 : IntKind.u32.wrap (10 * (pt : Int)) = 10 * (pt : Int) := IntWalk.u32_in _ (by omega)
      have q3 : IntKind.u32.wrap (10 * (pt : Int) + (y : Int)) = 10 * (pt : Int) + (y : Int) := IntWalk.u32_in _ (by omega)
      have q4 : IntKind.u32.wrap (y : Int) = (y : Int) := IntWalk.u32_in _ (by omega)
      have i1 : (i : Int) < (s.size : Int) := by omega
      obtain ⟨S, hS⟩ : ∃ S, S = 10 * sc := ⟨_, rfl⟩
      obtain ⟨P, hP⟩ : ∃ P, P = 10 * pt + y := ⟨_, rfl⟩
      have hPl : P < S := by omega
      have hSl : S ≤ 1000000000 := by omega
      have hSI : 10 * (sc : Int) = (S : Int) := by omega
      have hPI : 10 * (pt : Int) + (y : Int) = (P : Int) := by omega
      have hn34 : n ≤ 34 := by omega
      rw [← hS] at h9
      have HPS2 := HPS.out
      rw [← hS, ← hP] at HPS2
      have HPS3 := Lib.hid HPS2; clear HPS2 HPS
      have HS := Lib.hid hS
      have HPP := Lib.hid hP
      have HSI := Lib.hid hSI
      have HPI := Lib.hid hPI
      have H9 := Lib.hid h9
      clear hS hP hSI hPI h9
      by_cases hA : S = 1000000000
      · have hAb : ((S : Int) == 1000000000) = true := by rw [beq_iff_eq]; omega
        have hr8 : r + 1 = 9 := H9.out.1 (by have := HS.out; omega)
        clear hA
        go_wp2
        go_quiet (fail)
        rw [HSI.out, HPI.out]
        clear q0 q1 q2 q3 q4 hxb
        go_wp2_with fail
        refine (appendPart_any w.heap.size n N S P _ (wr.drewN nq) (by omega) (by omega) (by omega) HN.out hbel.size HO.out).mono ?_
        rintro e w5 ⟨v5, rfl, hown5, hb5⟩
        have HO5 := Lib.hid hown5; clear hown5
        have hbf : Below w.heap.size w w5 := (below_d18 hbel nq).trans hb5
        have HN5 := Lib.hid (part_lt HN.out (show S < 4294967296 by omega) (show P < 4294967296 by omega))
        go_wp2
        go_roundw
        case rel => exact ⟨i + 1, n + 1, 0, N * S + P, 0, by omega, by go_num, rfl, rfl, HO5.out, HN5.out, by omega, by simp, by rw [HPS3.out]; simp, .inl (by omega), fun _ => rfl, hbf⟩
        case measure => simp [intOf]; omega
      · have hAb : ((S : Int) == 1000000000) = false := by rw [beq_eq_false_iff_ne]; omega
        by_cases hB : i + 1 = s.size
        · have hBb : ((i : Int) == (s.size : Int) - 1) = true := by rw [beq_iff_eq]; omega
          have hBi : (i : Int) = (s.size : Int) - 1 := by omega
          have HBi := Lib.hid hBi; clear hBi
          have HB := Lib.hid hB; clear hB
          go_wp2
          go_quiet (fail)
          rw [HSI.out, HPI.out]
          clear q0 q1 q2 q3 q4 hxb
          go_wp2_with fail
          refine (appendPart_any w.heap.size n N S P _ (wr.drewN nq) (by omega) (by omega) (by omega) HN.out hbel.size HO.out).mono ?_
          rintro e w5 ⟨v5, rfl, hown5, hb5⟩
          have HO5 := Lib.hid hown5; clear hown5
          have hbf : Below w.heap.size w w5 := (below_d18 hbel nq).trans hb5
          have HN5 := Lib.hid (part_lt HN.out (show S < 4294967296 by omega) (show P < 4294967296 by omega))
          go_wp2
          go_roundw
          case rel => exact ⟨i + 1, n + 1, 0, N * S + P, 0, by omega, by go_num, rfl, rfl, HO5.out, HN5.out, by omega, by simp, by rw [HPS3.out]; simp, .inr ⟨HB.out, by omega⟩, fun _ => rfl, hbf⟩
          case measure => simp [intOf]; omega
        · have hBb : ((i : Int) == (s.size : Int) - 1) = false := by rw [beq_eq_false_iff_ne]; omega
          have hBi : ¬ (i : Int) = (s.size : Int) - 1 := by omega
          have hr7 : r + 1 ≤ 8 := by
            have := H9.out.2
            have h8 := HS.out
            rcases Nat.lt_or_ge r 8 with h | h
            · exact h
            · exact absurd (by have := this (by omega); omega) hA
          go_wp2
          go_quiet (fail)
          rw [HSI.out, HPI.out]
          clear q0 q1 q2 q3 q4 hxb
          have hbf := below_d18 hbel nq
          go_wp2
          go_roundw
          case rel => exact ⟨i + 1, n, r + 1, N, P, by omega, by go_num, by rw [HPW.out, ← HS.out], rfl, HO.out, HN.out, hr7, by rw [HPW.out, ← HS.out]; exact hPl, by rw [HPS3.out, HPW.out, ← HS.out], .inl (by omega), fun q => absurd q hB, hbf⟩
          case measure => simp [intOf]; omega
    · obtain rfl : i = s.size := by omega
      have hr0 : r = 0 := hend rfl
      have hpN : pv s s.size = N := by rw [hpv, hr0, Nat.pow_zero, Nat.mul_one]; rw [hr0, Nat.pow_zero] at hpt; omega
      have hn40 : n ≤ 1000 := by omega
      obtain ⟨b, q, hq⟩ := okN_pair18 N
      have HQ := Lib.hid hq; clear hq
      have HPN := Lib.hid hpN; clear hpN
      have HO := Lib.hid hown; clear hown
      have HN := Lib.hid hN; clear hN hpt hpv hdis hend
      subst hr0
      go_wp2_with fail
      refine (store_own w.heap.size n N _ _ HN.out hn40 HO.out).mono ?_
      rintro e w5 ⟨rfl, hb5⟩
      rw [HQ.out]
      go_wp2
      go_ret2
      exact ⟨by rw [HPN.out, HQ.out]; rfl, hbel.trans (hb5.mono hbel.size)⟩
end Go.Proofs.Ytamgklgjhjociaa
