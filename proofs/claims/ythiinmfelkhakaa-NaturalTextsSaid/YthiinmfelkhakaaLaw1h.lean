/-
  The walk of NaturalTexts.
-/
import Derived.Test.YthiinmfelkhakaaLaw1g
namespace Go.Proofs.Ythiinmfelkhakaa
open Go.RowKit
set_option linter.unusedVariables false

theorem dig_byte {d : Nat} (h : d < 10) : (UInt8.ofNat (48 + d)).toNat = 48 + d := by
  have := ofNat_mod_toNat (48 + d)
  rwa [Nat.mod_eq_of_lt (by omega)] at this
theorem dval_go (l : List UInt8) : ∀ a, l.foldl (fun n c => n * 10 + (c.toNat - 48)) a = a * 10 ^ l.length + dval l := by
  induction l with
  | nil => intro a; simp [dval]
  | cons c l ih =>
    intro a
    have e : dval (c :: l) = (0 * 10 + (c.toNat - 48)) * 10 ^ l.length + dval l := ih _
    rw [List.foldl_cons, ih, e, List.length_cons, Nat.pow_succ, Nat.zero_mul, Nat.zero_add, Nat.add_mul, Nat.mul_assoc, Nat.mul_comm 10]
    omega
theorem dval_cons (c : UInt8) (l : List UInt8) : dval (c :: l) = (c.toNat - 48) * 10 ^ l.length + dval l := by
  have := dval_go l (0 * 10 + (c.toNat - 48))
  rw [Nat.zero_mul, Nat.zero_add] at this
  rw [← this]
  unfold dval
  rw [List.foldl_cons, Nat.zero_mul, Nat.zero_add]
theorem dval_low (n : Nat) : ∀ k, dval (lowT n k) = n % 10 ^ k
  | 0 => by rw [Nat.pow_zero, Nat.mod_one]; rfl
  | k + 1 => by
    rw [lowT_succ, dval_cons, lowT_len, dig_byte (dd_lt n k), dval_low n k, Nat.pow_succ, Nat.mod_mul, Nat.mul_comm (10 ^ k)]
    show (48 + dd n k - 48) * 10 ^ k + _ = _ + dd n k * 10 ^ k
    rw [Nat.add_sub_cancel_left]; omega
theorem T_list {n : Nat} (h : n ≠ 0) : (T n).data.toList = lowT n (ndec n) := by rw [T_low h]
theorem T_size {n : Nat} (h : n ≠ 0) : (T n).size = ndec n := by rw [size_eq, T_list h, lowT_len]
theorem T_get {n : Nat} (h : n ≠ 0) (i : Nat) (hi : i < (T n).size) : ((T n)[i]'hi).toNat = 48 + dd n (ndec n - 1 - i) := by
  rw [get_eq]
  have e : ∀ (l : List UInt8) (hl : l = lowT n (ndec n)) (q : i < l.length), (l[i]'q).toNat = 48 + dd n (ndec n - 1 - i) := by
    intro l hl q
    subst hl
    simp only [lowT, List.getElem_map, List.getElem_range]
    exact dig_byte (dd_lt _ _)
  exact e _ (T_list h) _
theorem T_zero : T 0 = ⟨#[48]⟩ := rfl
theorem T_dec (n : Nat) : DecS (T n) := by
  by_cases h : n = 0
  · subst h
    rw [T_zero]
    refine ⟨fun i hi => ?_, by decide, fun _ _ => rfl⟩
    have : i = 0 := by have : i < 1 := hi; omega
    subst this
    show (48 : Nat) ≤ 48 ∧ (48 : Nat) ≤ 57
    omega
  · have hp := ndec_lo (n := n) (by omega)
    refine ⟨fun i hi => ?_, by rw [T_size h]; exact hp.2, fun h0 h48 => ?_⟩
    · rw [T_get h]
      have := dd_lt n (ndec n - 1 - i)
      omega
    · rw [T_get h] at h48
      have := dd_top (n := n) (by omega)
      rw [Nat.sub_zero] at h48
      omega
theorem T_pv (n : Nat) : pv (T n) (T n).size = n := by
  by_cases h : n = 0
  · subst h; rfl
  · unfold pv
    rw [T_list h, T_size h, List.take_of_length_le (by rw [lowT_len]; exact Nat.le_refl _), dval_low, Nat.mod_eq_of_lt (ndec_hi n)]
theorem T_small {n : Nat} (h : n < Lim) : (T n).size ≤ 1000 := by
  by_cases h0 : n = 0
  · subst h0; decide
  · rw [T_size h0]; have := ndec_lim h; omega
theorem l_bne (b : ByteArray) : (b.toList != b.toList) = false := by simp
theorem i_bne (a : Int) : (a != a) = false := by simp

set_option maxHeartbeats 4000000 in
set_option maxRecDepth 20000 in
theorem naturalTexts_yes (s : ByteArray) (w : World) (hf : s.size ≤ 200) (hs : Can s) :
    Calls Try.prog 8 #[.string s] w fun e w' => e = .returned (.bool true) ∧ Below w.heap.size w w' := by
  have hal := (Below.refl w.heap.size w).alloc (Nat.le_refl _) (.cells #[.string s] 22)
  have hst := str1 w s 22
  have HST := Lib.hid hst; clear hst
  have HAL := Lib.hid hal; clear hal
  have HT := Lib.hid (fun w => text_yes s w hs)
  have HRT := Lib.hid (fun w => rtext_yes s w hs)
  have hp := fun w => parse_yes (T (V s)) w (T_small (V_lim hs)) (T_dec _)
  rw [T_pv, okN_yes (V_lim hs), E_V hs] at hp
  have HP := Lib.hid hp; clear hp hs
  obtain ⟨x, hx⟩ : ∃ x, x = T (V s) := ⟨_, rfl⟩
  rw [← hx] at HT HRT HP
  clear hx
  have e1 := l_beq x
  have e2 := l_bne x
  have e3 := l_beq s
  go_enter Try.func8, Try.ntmps8
  go_wp2_with fail
  refine (few_yes _ 1 _ _ (by omega) HST.out (fun _ _ => hf)).mono ?_
  rintro e w1 ⟨rfl, rfl⟩
  go_wp2_with fail
  refine (HT.out _).mono ?_
  rintro e w1 ⟨rfl, d1⟩
  have d1 := bnext HAL.out d1
  go_wp2_with fail
  refine (HRT.out _).mono ?_
  rintro e w2 ⟨rfl, d2⟩
  have d2 := bnext d1 d2; clear d1
  go_wp2_with fail
  refine (HP.out _).mono ?_
  rintro e w3 ⟨rfl, d3⟩
  have d3 := bnext d2 d3; clear d2
  go_wp2_with fail
  refine (awake1 _).mono ?_
  rintro e w4 ⟨rfl, d4⟩
  have d4 := bnext d3 d4; clear d3
  go_wp2
  go_ret
  exact ⟨rfl, d4⟩

set_option maxHeartbeats 4000000 in
set_option maxRecDepth 20000 in
theorem naturalTexts_no (s : ByteArray) (w : World) (hf : s.size ≤ 200) (hs : ¬ Can s) :
    Calls Try.prog 8 #[.string s] w fun e w' => e = .returned (.bool true) ∧ Below w.heap.size w w' := by
  have hal := (Below.refl w.heap.size w).alloc (Nat.le_refl _) (.cells #[.string s] 22)
  have hst := str1 w s 22
  have HST := Lib.hid hst; clear hst
  have HAL := Lib.hid hal; clear hal
  have HT := Lib.hid (fun w => text_no s w hs)
  have HRT := Lib.hid (fun w => rtext_no s w hs)
  clear hs
  obtain ⟨x, hx⟩ : ∃ x, x = ByteArray.empty := ⟨_, rfl⟩
  rw [← hx] at HT HRT
  clear hx
  have e1 := l_beq x
  have e2 := l_bne x
  go_enter Try.func8, Try.ntmps8
  go_wp2_with fail
  refine (few_yes _ 1 _ _ (by omega) HST.out (fun _ _ => hf)).mono ?_
  rintro e w1 ⟨rfl, rfl⟩
  go_wp2_with fail
  refine (HT.out _).mono ?_
  rintro e w1 ⟨rfl, rfl⟩
  go_wp2_with fail
  refine (HRT.out _).mono ?_
  rintro e w2 ⟨rfl, rfl⟩
  go_wp2_with fail
  refine (awake1 _).mono ?_
  rintro e w4 ⟨rfl, d4⟩
  have d4 := bnext HAL.out d4
  go_wp2
  go_ret
  exact ⟨rfl, d4⟩

set_option maxHeartbeats 4000000 in
set_option maxRecDepth 20000 in
theorem law_NaturalTexts (a0 : ByteArray) (w0 : a0.size ≤ maxLen) (w : World) :
    Calls Try.prog 8 #[.string a0] w fun e w' => e = .returned (.bool true) ∧ Below w.heap.size w w' := by
  unfold maxLen at w0
  by_cases hf : a0.size ≤ 200
  · by_cases hs : Can a0
    · exact naturalTexts_yes a0 w hf hs
    · exact naturalTexts_no a0 w hf hs
  · have hal := (Below.refl w.heap.size w).alloc (Nat.le_refl _) (.cells #[.string a0] 22)
    have hst := str1 w a0 22
    have HST := Lib.hid hst; clear hst
    have HAL := Lib.hid hal; clear hal
    go_enter Try.func8, Try.ntmps8
    go_wp2_with fail
    refine (few_no _ 1 _ _ (by omega) HST.out (fun _ _ => by omega) (fun q => hf (q 0 (by omega)))).mono ?_
    rintro e w1 ⟨rfl, rfl⟩
    go_wp2_with fail
    refine (awake1 _).mono ?_
    rintro e w1 ⟨rfl, c1⟩
    have c1 := bnext HAL.out c1
    go_wp2
    go_ret
    exact ⟨rfl, c1⟩
end Go.Proofs.Ythiinmfelkhakaa
