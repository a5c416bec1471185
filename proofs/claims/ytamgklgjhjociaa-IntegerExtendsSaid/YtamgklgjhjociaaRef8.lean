/-
  Contracts of the reference of layer 1: Text.
-/
import Derived.Test.YtamgklgjhjociaaRef7
namespace Go.Proofs.Ytamgklgjhjociaa
open Go.RowKit
set_option linter.unusedVariables false

theorem l_10 : E 10 = ⟨#[10]⟩ := by kernel_rfl
theorem V_ten : V ⟨#[10]⟩ = 10 := by rw [← l_10, V_E]
theorem can_ten : can (ByteArray.mk #[10]).data.toList := by
  show ([10] : List UInt8).head? ≠ some 0
  decide
/-- The k lowest decimal digits. -/
def lowT (n k : Nat) : List UInt8 := (List.range k).map fun j => UInt8.ofNat (48 + dd n (k - 1 - j))
theorem lowT_succ (n k : Nat) : lowT n (k + 1) = UInt8.ofNat (48 + dd n k) :: lowT n k := by
  unfold lowT
  rw [List.range_succ_eq_map, List.map_cons, List.map_map]
  congr 1
  apply List.map_congr_left
  intro j hj
  show UInt8.ofNat (48 + dd n (k + 1 - 1 - (j + 1))) = _
  rw [show k + 1 - 1 - (j + 1) = k - 1 - j by omega]
theorem T_low {n : Nat} (h : n ≠ 0) : T n = ⟨(lowT n (ndec n)).toArray⟩ := by
  unfold T decT; rw [if_neg h]; rfl
theorem lowT_len (n k : Nat) : (lowT n k).length = k := by simp [lowT]
theorem pow_10 (k : Nat) : 256 ^ k ≤ 10 ^ (3 * k) := by
  rw [Nat.pow_mul]; exact Nat.pow_le_pow_left (by omega) k
theorem ndec_small {n k : Nat} (h : n < 256 ^ k) : ndec n ≤ 3 * k := ndec_le.2 (Nat.lt_of_lt_of_le h (pow_10 k))
theorem ndec_lim {n : Nat} (h : n < Lim) : ndec n ≤ 384 := by
  have := ndec_small (n := n) (k := 128) (by rw [← lim_eq]; exact h)
  omega
theorem cons_str (c : UInt8) (l : List UInt8) : (ByteArray.mk #[c]) ++ ⟨l.toArray⟩ = ⟨(c :: l).toArray⟩ := by
  apply ByteArray.ext
  simp [ByteArray.data_append]
theorem digit_str {d : Nat} (h : d < 10) : (ByteArray.mk #[48, 49, 50, 51, 52, 53, 54, 55, 56, 57]).extract d (d + 1) = ⟨#[UInt8.ofNat (48 + d)]⟩ := by
  have : d = 0 ∨ d = 1 ∨ d = 2 ∨ d = 3 ∨ d = 4 ∨ d = 5 ∨ d = 6 ∨ d = 7 ∨ d = 8 ∨ d = 9 := by omega
  rcases this with rfl | rfl | rfl | rfl | rfl | rfl | rfl | rfl | rfl | rfl <;> rfl

set_option maxHeartbeats 400000 in
theorem rtext_no (s : ByteArray) (w : World) (h : ¬ Can s) :
    Calls Try.prog 66 #[.string s] w fun e w' => e = .returned (.tuple #[.string ByteArray.empty, .int .i64 3]) ∧ w = w' := by
  have HC := Lib.hid h; clear h
  go_enter Try.func66, Try.ntmps66
  go_wp2_with fail
  refine (rvalid_no s _ HC.out).mono ?_; rintro e w' ⟨rfl, rfl⟩
  go_wp2
  go_ret2
  exact ⟨rfl, rfl⟩

set_option maxHeartbeats 1000000 in
theorem rtext_yes (s : ByteArray) (w : World) (hs : Can s) :
    Calls Try.prog 66 #[.string s] w fun e w' => e = .returned (.tuple #[.string (T (V s)), .int .i64 0]) ∧ Below w.heap.size w w' := by
  by_cases h0 : s.size = 0
  · have hE := empty_of h0
    have hz : T (V s) = ⟨#[48]⟩ := by rw [(V_zero_iff hs).2 h0]; rfl
    rw [hz]
    have HS := Lib.hid hs; clear hs hz h0
    go_enter Try.func66, Try.ntmps66
    go_wp2_with fail
    refine (rvalid_yes s _ HS.out).mono ?_; rintro e w' ⟨rfl, rfl⟩
    go_wp2
    go_ret2
    exact ⟨rfl, Below.refl _ _⟩
  · have hE := not_empty_of h0
    have hn0 : V s ≠ 0 := fun e => h0 ((V_zero_iff hs).1 e)
    obtain ⟨n, hn⟩ : ∃ n, n = V s := ⟨_, rfl⟩
    have hsn : s = E n := by rw [hn, E_V hs]
    have hl := V_lim hs
    rw [← hn] at hn0 hl ⊢
    clear hn
    subst hsn
    have HN0 := Lib.hid hn0; clear hn0
    have HL := Lib.hid hl; clear hl
    have HS := Lib.hid hs; clear hs h0
    go_enter Try.func66, Try.ntmps66
    go_wp2_with fail
    refine (rvalid_yes _ _ HS.out).mono ?_; rintro e w' ⟨rfl, rfl⟩
    go_wp2
    clear hE
    go_loopw [0, 4] (fun u v wr => ∃ k : Nat, k ≤ ndec n ∧ u = .string (E (n / 10 ^ k)) ∧ v = .string ⟨(lowT n k).toArray⟩ ∧ Below w.heap.size w wr) (fun u _ _ => nv u)
    case atStart => exact ⟨0, Nat.zero_le _, by rw [Nat.pow_zero, Nat.div_one], rfl, Below.refl _ _⟩
    case round =>
      obtain ⟨k, hk, rfl, rfl, hbel⟩ := hrel
      have hsz := (E_size_lim (n / 10 ^ k)).2 (Nat.lt_of_le_of_lt (Nat.div_le_self _ _) HL.out)
      have hnx : n / 10 ^ k / 10 = n / 10 ^ (k + 1) := by rw [Nat.div_div_eq_div_mul, Nat.pow_succ]
      have hd : n / 10 ^ k % 10 = dd n k := rfl
      obtain ⟨a, ha⟩ : ∃ a, a = n / 10 ^ k := ⟨_, rfl⟩
      rw [← ha] at hsz hnx hd ⊢
      obtain ⟨d, hde⟩ : ∃ d, d = dd n k := ⟨_, rfl⟩
      have hd10 : d < 10 := by rw [hde]; exact dd_lt _ _
      rw [← hde] at hd
      have HA := Lib.hid ha; clear ha
      have HNX := Lib.hid hnx; clear hnx
      have HD := Lib.hid hd; clear hd
      have HDE := Lib.hid hde; clear hde
      by_cases ha0 : a = 0
      · have hE := empty_of (s := E a) (by rw [ha0]; rfl)
        have hkn : ndec n ≤ k := by
          rw [ndec_le]
          have h1 : n / 10 ^ k = 0 := by rw [← HA.out]; exact ha0
          exact (Nat.div_eq_zero_iff_lt (Nat.pow_pos (by omega))).1 h1
        have hR : T n = ⟨(lowT n k).toArray⟩ := by rw [T_low HN0.out, Nat.le_antisymm hkn hk]
        have HR := Lib.hid hR; clear hR ha0 hkn
        go_wp2
        go_ret2
        exact ⟨by rw [HR.out]; rfl, hbel⟩
      · have hE := not_empty_of (E_pos_size (n := a) (by omega))
        have hd8 : (E d).size ≤ 1 := by rw [E_size_le]; omega
        have hk1 : k + 1 ≤ ndec n := by
          rcases Nat.lt_or_ge k (ndec n) with h | h
          · exact h
          · exact absurd (by rw [HA.out]; exact Nat.div_eq_of_lt (ndec_le.1 h)) ha0
        have hkl : k ≤ 384 := by have := ndec_lim HL.out; omega
        have hct : ¬ 9223372036854775807 < min (d + 1) 10 - d + (lowT n k).length := by rw [lowT_len]; omega
        have HA0 := Lib.hid ha0; clear ha0
        go_wp2_with fail
        refine (rover_any (E a) ⟨#[10]⟩ _ (by omega) (by decide) (can_E_ _) can_ten (by rw [V_ten]; omega)).mono ?_; rintro e w1 ⟨rfl, b1⟩
        rw [V_E, V_ten, HNX.out, HD.out]
        have hb := bnext hbel b1; clear hbel b1
        go_wp2_with fail
        refine (u64_any (E d) _ (by omega)).mono ?_; rintro e w2 ⟨rfl, rfl⟩
        rw [V_E]
        go_wp2_with fail
        refine (u64_any (E d) _ (by omega)).mono ?_; rintro e w2 ⟨rfl, rfl⟩
        rw [V_E]
        go_wp2
        go_roundw
        case rel =>
          refine ⟨k + 1, hk1, rfl, ?_, hb⟩
          rw [digit_str hd10, cons_str, lowT_succ, ← HDE.out]
        case measure =>
          show nv (.string (E (n / 10 ^ (k + 1)))) < nv (.string (E a))
          rw [nv_E, nv_E, ← HNX.out]
          have := HA0.out
          omega
end Go.Proofs.Ytamgklgjhjociaa
