/-
  Contracts of the reference of layer 1: Plus, Minus, bits, one.
-/
import Derived.Test.YtogmgfdihmacpaaGreatDoorRef1
namespace Go.Proofs.YtogmgfdihmacpaaGreatDoor
open Go.RowKit
set_option linter.unusedVariables false

theorem carry_comm (a b c : Nat) : a + b + c = c + (a + b) := by omega

set_option maxHeartbeats 400000 in
theorem rplus_any (s t : ByteArray) (w : World) (h1 : s.size ≤ 900) (h2 : t.size ≤ 900) :
    Calls Tryz.prog 68 #[.string s, .string t] w fun e w' => e = .returned (.string (E (V s + V t))) ∧ Below w.heap.size w w' := by
  obtain ⟨n, hn⟩ : ∃ n, n = max s.size t.size := ⟨_, rfl⟩
  have hmk := run_make_bytes1 n (by omega)
  have hmax : max (s.size : Int) (t.size : Int) = (n : Int) := by omega
  have hn128 : n ≤ 900 := by omega
  have HN := Lib.hid hn; clear hn
  go_enter Tryz.func68, Tryz.ntmps68
  go_wp2
  go_loopw [7, 8] (fun c v wr => ∃ k : Nat, k ≤ n + 1 ∧ v = .int .i64 k ∧ c = .int .i64 (carryA (V s) (V t) k : Nat) ∧ wr.rowIs w.heap.size 5 (n + 1) (fun j => .int .u8 (partB (V s + V t) (n + 1) k j : Nat)) ∧ Below w.heap.size w wr) (fun _ v _ => n + 1 - (intOf v).toNat)
  case atStart => exact ⟨0, by omega, rfl, by rw [carryA_zero]; rfl, part_zero w _ _ _, (Below.refl _ _).alloc (Nat.le_refl _) _⟩
  case round =>
    obtain ⟨k, hk, rfl, rfl, hrow, hbel⟩ := hrel
    have hcar := carryA_le (V s) (V t) k
    by_cases hlt : k < n + 1
    · have hcell := hrow.cell (i := n - k) (by omega)
      have hfr := hrow.frozen (n - k)
      have hd1 : dig (V s) k < 256 := Nat.mod_lt _ (by omega)
      have hd2 : dig (V t) k < 256 := Nat.mod_lt _ (by omega)
      have HR := Lib.hid hrow; clear hrow
      go_wp2_with fail
      refine (at_any s _ _ (by omega) (by omega) (by omega)).mono ?_
      rintro e w' ⟨rfl, rfl⟩
      rw [Int.toNat_natCast]
      go_wp2_with fail
      refine (at_any t _ _ (by omega) (by omega) (by omega)).mono ?_
      rintro e w' ⟨rfl, rfl⟩
      rw [Int.toNat_natCast]
      go_wp2
      have ha := add_step (V s) (V t) k
      go_roundw
      case rel =>
        refine ⟨k + 1, by omega, by go_num, int_eq ?_, part_step HR.out hlt ?_, hbel.setCell (Nat.le_refl _) _⟩
        · rw [← ha.2]; omega
        · rw [← ha.1]; omega
      case measure => simp [intOf]; omega
    · obtain rfl : k = n + 1 := by omega
      have hb := part_done hrow
      have hsum : V s + V t < 256 ^ (n + 1) := by rw [HN.out]; exact sum_lt
      have hE := E_beN hsum
      have HB := Lib.hid hb; clear hb
      have HE := Lib.hid hE; clear hE hsum
      go_wp2_with fail
      refine (rtrim_any w.heap.size 0 (n + 1) (n + 1) (beN (n + 1) (V s + V t)) _ (beN_length _ _) (by omega) (by omega) (by omega) HB.out).mono ?_
      rintro e w' ⟨rfl, rfl⟩
      rw [HE.out]
      go_wp2
      go_ret
      exact ⟨rfl, hbel⟩

/-- The borrow as the reference keeps it. -/
def bor (a b k : Nat) : Nat := (- borrow a b k).toNat
theorem bor_cast (a b k : Nat) : ((bor a b k : Nat) : Int) = - borrow a b k := by
  have := borrow_le a b k; unfold bor; omega
theorem bor_zero (a b : Nat) : bor a b 0 = 0 := by unfold bor; rw [borrow_zero]; rfl
theorem bor_le (a b k : Nat) : bor a b k ≤ 1 := by have := borrow_le a b k; unfold bor; omega
theorem bor_low {a b k : Nat} (hab : b ≤ a) (h : ((dig a k : Nat) : Int) - (dig b k : Nat) - (bor a b k : Nat) < 0) :
    ((dig (a - b) k : Nat) : Int) = (dig a k : Nat) - (dig b k : Nat) - (bor a b k : Nat) + 256 ∧ bor a b (k + 1) = 1 := by
  have hs := sub_step a b k hab
  have h1 := bor_cast a b k
  have h2 := bor_cast a b (k + 1)
  have d1 : dig a k < 256 := Nat.mod_lt _ (by omega)
  have d2 : dig b k < 256 := Nat.mod_lt _ (by omega)
  have := bor_le a b k
  omega
theorem bor_high {a b k : Nat} (hab : b ≤ a) (h : ¬ ((dig a k : Nat) : Int) - (dig b k : Nat) - (bor a b k : Nat) < 0) :
    ((dig (a - b) k : Nat) : Int) = (dig a k : Nat) - (dig b k : Nat) - (bor a b k : Nat) ∧ bor a b (k + 1) = 0 := by
  have hs := sub_step a b k hab
  have h1 := bor_cast a b k
  have h2 := bor_cast a b (k + 1)
  have d1 : dig a k < 256 := Nat.mod_lt _ (by omega)
  have d2 : dig b k < 256 := Nat.mod_lt _ (by omega)
  have := bor_le a b k
  omega

set_option maxHeartbeats 400000 in
theorem rminus_any (s t : ByteArray) (w : World) (h1 : s.size ≤ 900) (h2 : t.size ≤ 900) (hle : V t ≤ V s) :
    Calls Tryz.prog 41 #[.string s, .string t] w fun e w' => e = .returned (.string (E (V s - V t))) ∧ Below w.heap.size w w' := by
  have hmk := run_make_bytes s.size (by omega)
  have HL := Lib.hid hle; clear hle
  go_enter Tryz.func41, Tryz.ntmps41
  go_wp2
  go_loopw [7, 8] (fun c v wr => ∃ k : Nat, k ≤ s.size ∧ v = .int .i64 k ∧ c = .int .i64 (bor (V s) (V t) k : Nat) ∧ wr.rowIs w.heap.size 5 s.size (fun j => .int .u8 (partB (V s - V t) s.size k j : Nat)) ∧ Below w.heap.size w wr) (fun _ v _ => s.size - (intOf v).toNat)
  case atStart => exact ⟨0, by omega, rfl, by rw [bor_zero]; rfl, part_zero w _ _ _, (Below.refl _ _).alloc (Nat.le_refl _) _⟩
  case round =>
    obtain ⟨k, hk, rfl, rfl, hrow, hbel⟩ := hrel
    have hcar := bor_le (V s) (V t) k
    by_cases hlt : k < s.size
    · have hcell := hrow.cell (i := s.size - 1 - k) (by omega)
      have hfr := hrow.frozen (s.size - 1 - k)
      have hd1 : dig (V s) k < 256 := Nat.mod_lt _ (by omega)
      have hd2 : dig (V t) k < 256 := Nat.mod_lt _ (by omega)
      have HR := Lib.hid hrow; clear hrow
      by_cases hx : ((dig (V s) k : Nat) : Int) - (dig (V t) k : Nat) - (bor (V s) (V t) k : Nat) < 0
      · have HX := Lib.hid (bor_low HL.out hx)
        go_wp2_with fail
        refine (at_any s _ _ (by omega) (by omega) (by omega)).mono ?_
        rintro e w' ⟨rfl, rfl⟩
        rw [Int.toNat_natCast]
        go_wp2_with fail
        refine (at_any t _ _ (by omega) (by omega) (by omega)).mono ?_
        rintro e w' ⟨rfl, rfl⟩
        rw [Int.toNat_natCast]
        go_wp2
        go_roundw
        case rel =>
          refine ⟨k + 1, by omega, by go_num, int_eq ?_, part_step HR.out hlt ?_, hbel.setCell (Nat.le_refl _) _⟩
          · rw [HX.out.2]; rfl
          · rw [HX.out.1]
        case measure => simp [intOf]; omega
      · have HX := Lib.hid (bor_high HL.out hx)
        go_wp2_with fail
        refine (at_any s _ _ (by omega) (by omega) (by omega)).mono ?_
        rintro e w' ⟨rfl, rfl⟩
        rw [Int.toNat_natCast]
        go_wp2_with fail
        refine (at_any t _ _ (by omega) (by omega) (by omega)).mono ?_
        rintro e w' ⟨rfl, rfl⟩
        rw [Int.toNat_natCast]
        go_wp2
        go_roundw
        case rel =>
          refine ⟨k + 1, by omega, by go_num, int_eq ?_, part_step HR.out hlt ?_, hbel.setCell (Nat.le_refl _) _⟩
          · rw [HX.out.2]; rfl
          · rw [HX.out.1]
        case measure => simp [intOf]; omega
    · obtain rfl : k = s.size := by omega
      have hb := part_done hrow
      have hE := E_beN (k := s.size) (n := V s - V t) (Nat.lt_of_le_of_lt (Nat.sub_le _ _) (V_lt s))
      have HB := Lib.hid hb; clear hb
      have HE := Lib.hid hE; clear hE
      go_wp2_with fail
      refine (rtrim_any w.heap.size 0 s.size s.size (beN s.size (V s - V t)) _ (beN_length _ _) (by omega) (by omega) (by omega) HB.out).mono ?_
      rintro e w' ⟨rfl, rfl⟩
      rw [HE.out]
      go_wp2
      go_ret
      exact ⟨rfl, hbel⟩

theorem V_empty {s : ByteArray} (h0 : s.size = 0) : V s = 0 := by
  have : s.data.toList = [] := by rw [size_eq] at h0; exact List.eq_nil_of_length_eq_zero h0
  unfold V; rw [this]; rfl
theorem nbits_zero : nbits 0 = 0 := rfl

set_option maxHeartbeats 400000 in
theorem rbits_any (s : ByteArray) (w : World) (hc : can s.data.toList) (h1 : s.size ≤ 900) :
    Calls Tryz.prog 67 #[.string s] w fun e w' => e = .returned (.int .i64 (nbits (V s))) ∧ w = w' := by
  by_cases h0 : s.size = 0
  · have hE := empty_of h0
    have HV := Lib.hid (V_empty h0); clear h0 hc
    go_enter Tryz.func67, Tryz.ntmps67
    go_wp2
    go_ret
    exact ⟨ret_int (by rw [HV.out]; rfl), rfl⟩
  · have hE := not_empty_of h0
    have hp : 0 < s.size := by omega
    have hb := (s[0]'hp).toNat_lt
    have hz : (s[0]'hp).toNat ≠ 0 := by
      have := can_head hc hp
      rw [bne_iff_ne] at this
      omega
    have HV := Lib.hid (nbits_head s hp hz); clear hz hc h0
    go_enter Tryz.func67, Tryz.ntmps67
    go_wp2
    go_loop [3, 4] (fun a x => ∃ m y : Nat, y < 256 ∧ m ≤ 8 * s.size + 10000 - y ∧ a = .int .i64 m ∧ x = .int .i64 y ∧ m + nbits y = nbits (V s)) (fun _ x => (intOf x).toNat)
    case atStart => exact ⟨8 * (s.size - 1), (s[0]'hp).toNat, hb, by omega, int_eq (by omega), rfl, HV.out.symm⟩
    case round =>
      obtain ⟨m, y, hy, hm, rfl, rfl, hsum⟩ := hrel
      by_cases hy0 : y = 0
      · subst hy0
        have HS := Lib.hid hsum; clear hsum
        go_wp2
        go_ret
        exact ⟨ret_int (by rw [← HS.out, nbits_zero]; omega), rfl⟩
      · have hh := nbits_half y hy0
        have hyp : 0 < y := by omega
        have hsum' : m + 1 + nbits (y / 2) = nbits (V s) := by omega
        have HS := Lib.hid hsum'; clear hsum hh hsum'
        go_wp2
        go_round
        case rel => exact ⟨m + 1, y / 2, by omega, by omega, by go_num, by go_num, HS.out⟩
        case measure => simp [intOf]; omega

theorem one_eq (n i : Nat) : (((dig n (i / 8) / 2 ^ (i % 8) : Nat) : Int) % 2 == 1) = n.testBit i := by
  rw [Nat.testBit_eq_decide_div_mod_eq]
  have e : dig n (i / 8) / 2 ^ (i % 8) % 2 = n / 2 ^ i % 2 := by
    have hi : 2 ^ i = 256 ^ (i / 8) * 2 ^ (i % 8) := by rw [← pow256, ← Nat.pow_add]; congr 1; omega
    rw [hi, ← Nat.div_div_eq_div_mul]
    unfold dig
    generalize n / 256 ^ (i / 8) = q
    have hr : i % 8 < 8 := by omega
    generalize i % 8 = r at *
    have : r = 0 ∨ r = 1 ∨ r = 2 ∨ r = 3 ∨ r = 4 ∨ r = 5 ∨ r = 6 ∨ r = 7 := by omega
    rcases this with rfl | rfl | rfl | rfl | rfl | rfl | rfl | rfl <;> omega
  have c : ((dig n (i / 8) / 2 ^ (i % 8) : Nat) : Int) % 2 = ((n / 2 ^ i % 2 : Nat) : Int) := by rw [← e]; omega
  rw [c]
  rcases Nat.mod_two_eq_zero_or_one (n / 2 ^ i) with h | h <;> rw [h] <;> rfl

set_option maxHeartbeats 400000 in
theorem rone_any (s : ByteArray) (i : Nat) (w : World) (h1 : s.size ≤ 900) (hi : i ≤ 9223372036854775807) :
    Calls Tryz.prog 69 #[.string s, .int .i64 i] w fun e w' => e = .returned (.bool ((V s).testBit i)) ∧ w = w' := by
  go_enter Tryz.func69, Tryz.ntmps69
  go_wp2_with fail
  refine (at_any s _ _ (by omega) (by omega) (by omega)).mono ?_
  rintro e w' ⟨rfl, rfl⟩
  obtain ⟨d, hd⟩ : ∃ d, d = dig (V s) (i / 8) := ⟨_, rfl⟩
  have hdl : d < 256 := by rw [hd]; exact Nat.mod_lt _ (by omega)
  rw [show ((i : Int) / 8).toNat = i / 8 by omega, ← hd]
  have HD := Lib.hid hd; clear hd
  go_wp2
  go_loop [5, 6] (fun x v => ∃ k y : Nat, k ≤ i % 8 ∧ v = .int .i64 k ∧ x = .int .i64 y ∧ y < 256 ∧ y = d / 2 ^ k) (fun _ v => 8 - (intOf v).toNat)
  case atStart => exact ⟨0, d, by omega, rfl, rfl, hdl, by simp⟩
  case round =>
    obtain ⟨k, y, hk, rfl, rfl, hy, hyd⟩ := hrel
    have HY := Lib.hid hyd; clear hyd
    by_cases hlt : k < i % 8
    · have hlt' : (k : Int) < (i : Int) % 8 := by omega
      go_wp2
      go_round
      case rel => exact ⟨k + 1, y / 2, by omega, by go_num, by go_num, by omega, by rw [HY.out, Nat.div_div_eq_div_mul, Nat.pow_succ]⟩
      case measure => simp [intOf]; omega
    · obtain rfl : k = i % 8 := by omega
      have R : ((y : Int) % 2 == 1) = (V s).testBit i := by rw [HY.out, HD.out]; exact one_eq _ _
      have HR := Lib.hid R; clear R
      have hge : ¬ ((i : Int) % 8 < (i : Int) % 8) := by omega
      go_wp2
      go_ret
      exact ⟨ret_bool (by rw [← HR.out]), rfl⟩
end Go.Proofs.YtogmgfdihmacpaaGreatDoor
