/-
  The walk of NaturalDivides.
-/
import Derived.Test.YthiinmfelkhakaaLaw1b
namespace Go.Proofs.Ythiinmfelkhakaa
open Go.RowKit
set_option linter.unusedVariables false

theorem nbits_bytes {n k : Nat} (h : n < 256 ^ k) : nbits n ≤ 8 * k := by
  unfold nbits
  split
  · omega
  · rename_i h0
    have := log2_lt_bytes h0 h
    omega
theorem lt_nbits (n : Nat) : n < 2 ^ nbits n := by
  unfold nbits
  split
  · rename_i h; subst h; simp
  · rename_i h; exact (Nat.log2_lt h).1 (by omega)
theorem mod_pow_succ (n k : Nat) : n % 2 ^ (k + 1) = n % 2 ^ k + 2 ^ k * (n / 2 ^ k % 2) := by rw [Nat.pow_succ, Nat.mod_mul]
theorem bit_step_yes {n k : Nat} (h : n.testBit k = true) : n % 2 ^ k + 2 ^ k = n % 2 ^ (k + 1) := by
  rw [Nat.testBit_eq_decide_div_mod_eq] at h
  have h := of_decide_eq_true h
  rw [mod_pow_succ, h, Nat.mul_one]
theorem bit_step_no {n k : Nat} (h : n.testBit k = false) : n % 2 ^ k = n % 2 ^ (k + 1) := by
  rw [Nat.testBit_eq_decide_div_mod_eq] at h
  have h := of_decide_eq_false h
  have : n / 2 ^ k % 2 = 0 := by omega
  rw [mod_pow_succ, this]; omega
theorem pow_lim {k : Nat} (h : k ≤ 1000) : 2 ^ k < Lim := by
  rw [lim_eq]
  exact Nat.lt_of_le_of_lt (pow_le_bytes (k := 126) (by omega)) (Nat.pow_lt_pow_right (by omega) (by omega))
theorem bit_above (n : Nat) : n.testBit (nbits n) = false := by
  rw [Nat.testBit_eq_decide_div_mod_eq, Nat.div_eq_of_lt (lt_nbits n)]; rfl
theorem b_empty {s : ByteArray} (h : s.size = 0) : (s.toList == []) = true := by
  have := empty_of h
  rw [List.isEmpty_iff] at this
  rw [this]; rfl

set_option maxHeartbeats 4000000 in
set_option maxRecDepth 20000 in
theorem naturalDivides_walk (s t : ByteArray) (w : World) (h1 : s.size ≤ 60) (h2 : t.size ≤ 60) (hs : Can s) (ht : Can t) :
    Calls Try.prog 11 #[.string s, .string t] w fun e w' => e = .returned (.bool true) ∧ Below w.heap.size w w' := by
  have hnb : nbits (V s) ≤ 480 := by
    have := nbits_bytes (V_lt s)
    omega
  have HS := Lib.hid hs; clear hs
  have HT := Lib.hid ht; clear ht
  go_enter Try.func11, Try.ntmps11
  go_wp2_with fail
  refine (valid_yes _ _ HS.out).mono ?_
  rintro e w1 ⟨rfl, rfl⟩
  go_wp2_with fail
  refine (valid_yes _ _ HT.out).mono ?_
  rintro e w1 ⟨rfl, rfl⟩
  go_wp2_with fail
  refine (of_any 1 _ (by omega)).mono ?_
  rintro e w1 ⟨rfl, b1⟩
  go_wp2
  go_loopw [5, 6, 7] (fun sum weight i wr => ∃ k : Nat, k ≤ nbits (V s) ∧ i = .int .i64 k ∧ sum = .string (E (V s % 2 ^ k)) ∧ weight = .string (E (2 ^ k)) ∧ Below w.heap.size w wr) (fun _ _ i _ => 500 - (intOf i).toNat)
  case atStart => exact ⟨0, Nat.zero_le _, rfl, by rw [Nat.pow_zero, Nat.mod_one]; rfl, rfl, b1⟩
  case round =>
    obtain ⟨k, hk, rfl, rfl, rfl, hbel⟩ := hrel
    by_cases hlt : k < nbits (V s)
    · have hp := pow_lim (show k ≤ 1000 by omega)
      have hp2 := pow_lim (show k + 1 ≤ 1000 by omega)
      have hmod : V s % 2 ^ (k + 1) < Lim := Nat.lt_trans (Nat.mod_lt _ (Nat.pow_pos (by omega))) hp2
      have hmod0 : V s % 2 ^ k < Lim := Nat.lt_trans (Nat.mod_lt _ (Nat.pow_pos (by omega))) hp
      have hdbl : 2 ^ k + 2 ^ k = 2 ^ (k + 1) := by rw [Nat.pow_succ]; omega
      have HP := Lib.hid hp; clear hp
      have HP2 := Lib.hid hp2; clear hp2
      have HMOD := Lib.hid hmod; clear hmod
      have HMOD0 := Lib.hid hmod0; clear hmod0
      have HDB := Lib.hid hdbl; clear hdbl
      cases hbit : (V s).testBit k
      · have HB := Lib.hid hbit; clear hbit
        go_wp2_with fail
        refine (bits_yes _ _ HS.out).mono ?_
        rintro e w2 ⟨rfl, rfl⟩
        go_wp2_with fail
        refine (bit_yes s k _ HS.out (by omega)).mono ?_
        rintro e w2 ⟨rfl, rfl⟩
        rw [HB.out]
        go_wp2_with fail
        refine (add_yes _ _ _ (can_E' HP.out) (can_E' HP.out)).mono ?_
        rintro e w3 ⟨rfl, b3⟩
        rw [V_E, HDB.out, okN_yes HP2.out]
        have b3 := bnext hbel b3
        go_wp2
        go_roundw
        case rel => exact ⟨k + 1, by omega, by go_num, by rw [bit_step_no HB.out], rfl, b3⟩
        case measure => simp [intOf]; omega
      · have HB := Lib.hid hbit; clear hbit
        go_wp2_with fail
        refine (bits_yes _ _ HS.out).mono ?_
        rintro e w2 ⟨rfl, rfl⟩
        go_wp2_with fail
        refine (bit_yes s k _ HS.out (by omega)).mono ?_
        rintro e w2 ⟨rfl, rfl⟩
        rw [HB.out]
        go_wp2_with fail
        refine (add_yes _ _ _ (can_E' HMOD0.out) (can_E' HP.out)).mono ?_
        rintro e w2 ⟨rfl, b2⟩
        rw [V_E, V_E, bit_step_yes HB.out, okN_yes HMOD.out]
        have b2 := bnext hbel b2
        go_wp2_with fail
        refine (add_yes _ _ _ (can_E' HP.out) (can_E' HP.out)).mono ?_
        rintro e w3 ⟨rfl, b3⟩
        rw [V_E, HDB.out, okN_yes HP2.out]
        have b3 := bnext b2 b3
        go_wp2
        go_roundw
        case rel => exact ⟨k + 1, by omega, by go_num, rfl, rfl, b3⟩
        case measure => simp [intOf]; omega
    · obtain rfl : k = nbits (V s) := by omega
      rw [Nat.mod_eq_of_lt (lt_nbits (V s)), E_V HS.out]
      have hab := Lib.hid (bit_above (V s))
      by_cases h0 : t.size = 0
      · have hE := empty_of h0
        have hz : divN (V s) (V t) = .tuple #[.string (E 0), .string (E 0), .int .i64 11] := by unfold divN; rw [if_pos ((V_zero_iff HT.out).2 h0)]
        have HZ := Lib.hid hz; clear hz h0
        go_wp2_with fail
        refine (bits_yes _ _ HS.out).mono ?_
        rintro e w2 ⟨rfl, rfl⟩
        go_wp2_with fail
        refine (bits_yes _ _ HS.out).mono ?_
        rintro e w2 ⟨rfl, rfl⟩
        go_wp2_with fail
        refine (bit_yes s (nbits (V s)) _ HS.out (by omega)).mono ?_
        rintro e w2 ⟨rfl, rfl⟩
        rw [hab.out]
        go_wp2_with fail
        refine (divMod_yes _ _ _ HS.out HT.out).mono ?_
        rintro e w2 ⟨rfl, b2⟩
        rw [HZ.out]
        have b2 := bnext hbel b2
        go_wp2_with fail
        refine (awake1 _).mono ?_
        rintro e w3 ⟨rfl, b3⟩
        have b3 := bnext b2 b3
        go_wp2
        go_ret
        exact ⟨rfl, b3⟩
      · have hE := not_empty_of h0
        have hv0 : 0 < V t := by
          rcases Nat.eq_zero_or_pos (V t) with e | e
          · exact absurd ((V_zero_iff HT.out).1 e) h0
          · exact e
        have hz := divN_pos (a := V s) hv0
        have hVs := V_lim HS.out
        have hdm : V s / V t * V t + V s % V t = V s := by rw [Nat.mul_comm]; exact Nat.div_add_mod _ _
        have hq : V s / V t < Lim := Nat.lt_of_le_of_lt (Nat.div_le_self _ _) hVs
        have hr : V s % V t < Lim := Nat.lt_of_le_of_lt (Nat.mod_le _ _) hVs
        have hp : V s / V t * V t < Lim := Nat.lt_of_le_of_lt (Nat.div_mul_le_self _ _) hVs
        have hsg := sgn_lt (Nat.mod_lt (V s) hv0)
        have HZ := Lib.hid hz; clear hz h0 hv0
        have HVS := Lib.hid hVs; clear hVs
        have HDM := Lib.hid hdm; clear hdm
        have HQ := Lib.hid hq; clear hq
        have HR := Lib.hid hr; clear hr
        have HP := Lib.hid hp; clear hp
        have HSG := Lib.hid hsg; clear hsg
        go_wp2_with fail
        refine (bits_yes _ _ HS.out).mono ?_
        rintro e w2 ⟨rfl, rfl⟩
        go_wp2_with fail
        refine (bits_yes _ _ HS.out).mono ?_
        rintro e w2 ⟨rfl, rfl⟩
        go_wp2_with fail
        refine (bit_yes s (nbits (V s)) _ HS.out (by omega)).mono ?_
        rintro e w2 ⟨rfl, rfl⟩
        rw [hab.out]
        go_wp2_with fail
        refine (divMod_yes _ _ _ HS.out HT.out).mono ?_
        rintro e w2 ⟨rfl, b2⟩
        rw [HZ.out]
        have b2 := bnext hbel b2
        go_wp2_with fail
        refine (mul_yes _ _ _ (can_E' HQ.out) HT.out).mono ?_
        rintro e w3 ⟨rfl, b3⟩
        rw [V_E, okN_yes HP.out]
        have b3 := bnext b2 b3
        go_wp2_with fail
        refine (add_yes _ _ _ (can_E' HP.out) (can_E' HR.out)).mono ?_
        rintro e w4 ⟨rfl, b4⟩
        rw [V_E, V_E, HDM.out, okN_yes HVS.out, E_V HS.out]
        have b4 := bnext b3 b4
        go_wp2_with fail
        refine (awake1 _).mono ?_
        rintro e w5 ⟨rfl, b5⟩
        have b5 := bnext b4 b5
        go_wp2_with fail
        refine (cmp_yes _ _ _ (can_E' HR.out) HT.out).mono ?_
        rintro e w6 ⟨rfl, rfl⟩
        rw [V_E, HSG.out]
        go_wp2
        go_ret
        exact ⟨rfl, b5⟩

set_option maxHeartbeats 4000000 in
set_option maxRecDepth 20000 in
theorem naturalDivides_skip (s t : ByteArray) (w : World) (ws : s.size ≤ maxLen) (wt : t.size ≤ maxLen) (h : ¬ (s.size ≤ 60 ∧ t.size ≤ 60 ∧ Can s ∧ Can t)) :
    Calls Try.prog 11 #[.string s, .string t] w fun e w' => e = .returned (.bool true) ∧ Below w.heap.size w w' := by
  unfold maxLen at ws wt
  by_cases h1 : s.size ≤ 60
  · by_cases h2 : t.size ≤ 60
    · by_cases hs : Can s
      · have ht : ¬ Can t := fun q => h ⟨h1, h2, hs, q⟩
        clear h
        have HS := Lib.hid hs; clear hs
        have HT := Lib.hid ht; clear ht
        go_enter Try.func11, Try.ntmps11
        go_wp2_with fail
        refine (valid_yes _ _ HS.out).mono ?_
        rintro e w1 ⟨rfl, rfl⟩
        go_wp2_with fail
        refine (valid_no _ _ HT.out).mono ?_
        rintro e w1 ⟨rfl, rfl⟩
        go_wp2_with fail
        refine (awake1 _).mono ?_
        rintro e w8 ⟨rfl, b8⟩
        go_wp2
        go_ret
        exact ⟨rfl, b8⟩
      · clear h
        have HS := Lib.hid hs; clear hs
        go_enter Try.func11, Try.ntmps11
        go_wp2_with fail
        refine (valid_no _ _ HS.out).mono ?_
        rintro e w1 ⟨rfl, rfl⟩
        go_wp2_with fail
        refine (awake1 _).mono ?_
        rintro e w8 ⟨rfl, b8⟩
        go_wp2
        go_ret
        exact ⟨rfl, b8⟩
    · clear h
      go_enter Try.func11, Try.ntmps11
      go_wp2_with fail
      refine (awake1 _).mono ?_
      rintro e w8 ⟨rfl, b8⟩
      go_wp2
      go_ret
      exact ⟨rfl, b8⟩
  · clear h
    go_enter Try.func11, Try.ntmps11
    go_wp2_with fail
    refine (awake1 _).mono ?_
    rintro e w8 ⟨rfl, b8⟩
    go_wp2
    go_ret
    exact ⟨rfl, b8⟩

theorem law_NaturalDivides (a0 a1 : ByteArray) (w0 : a0.size ≤ maxLen) (w1 : a1.size ≤ maxLen) (w : World) :
    Calls Try.prog 11 #[.string a0, .string a1] w fun e w' => e = .returned (.bool true) ∧ Below w.heap.size w w' := by
  by_cases h : a0.size ≤ 60 ∧ a1.size ≤ 60 ∧ Can a0 ∧ Can a1
  · obtain ⟨h1, h2, h3, h4⟩ := h
    exact naturalDivides_walk a0 a1 w h1 h2 h3 h4
  · exact naturalDivides_skip a0 a1 w w0 w1 h
end Go.Proofs.Ythiinmfelkhakaa
