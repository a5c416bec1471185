/-
  The walks of NaturalField and NaturalDivides.
-/
import Derived.Test.YthiinmfelkhakaaLaw1a
namespace Go.Proofs.Ythiinmfelkhakaa
open Go.RowKit
set_option linter.unusedVariables false

/-- The bound of 40 bytes. -/
def Q40 : Nat := 256 ^ 40
theorem q40_lim : 4 * (Q40 * Q40) ≤ Lim ∧ 1 ≤ Q40 := by
  unfold Q40
  exact ⟨lim_eq ▸ (by decide +kernel), by decide +kernel⟩
theorem V_q40 {s : ByteArray} (h : s.size ≤ 40) : V s < Q40 := Nat.lt_of_lt_of_le (V_lt s) (Nat.pow_le_pow_right (by omega) h)
theorem field_bounds {a b c : Nat} (ha : a < Q40) (hb : b < Q40) (hc : c < Q40) : a + b < Lim ∧ (a + b) * c < Lim ∧ c * a < Lim ∧ b * c < Lim ∧ (a + b) * c = c * a + b * c := by
  have ⟨h, h1⟩ := q40_lim
  have e1 := Nat.mul_le_mul (show a + b ≤ 2 * Q40 by omega) (Nat.le_of_lt hc)
  have e2 := Nat.mul_le_mul (Nat.le_of_lt hc) (Nat.le_of_lt ha)
  have e3 := Nat.mul_le_mul (Nat.le_of_lt hb) (Nat.le_of_lt hc)
  have e4 : Q40 ≤ Q40 * Q40 := Nat.le_mul_of_pos_left _ (by omega)
  rw [Nat.mul_assoc] at e1
  have e5 : (a + b) * c = c * a + b * c := by rw [Nat.add_mul, Nat.mul_comm a c]
  generalize Q40 * Q40 = z at *
  refine ⟨by omega, ?_, ?_, ?_, e5⟩ <;> omega

set_option maxHeartbeats 4000000 in
set_option maxRecDepth 20000 in
theorem naturalField_walk (s t u : ByteArray) (w : World) (h1 : s.size ≤ 40) (h2 : t.size ≤ 40) (h3 : u.size ≤ 40) (hs : Can s) (ht : Can t) (hu : Can u) :
    Calls Try.prog 10 #[.string s, .string t, .string u] w fun e w' => e = .returned (.bool true) ∧ Below w.heap.size w w' := by
  have hb := field_bounds (V_q40 h1) (V_q40 h2) (V_q40 h3)
  have HB := Lib.hid hb; clear hb
  have HS := Lib.hid hs; clear hs
  have HT := Lib.hid ht; clear ht
  have HU := Lib.hid hu; clear hu
  go_enter Try.func10, Try.ntmps10
  go_wp2_with fail
  refine (valid_yes _ _ HS.out).mono ?_
  rintro e w1 ⟨rfl, rfl⟩
  go_wp2_with fail
  refine (valid_yes _ _ HT.out).mono ?_
  rintro e w1 ⟨rfl, rfl⟩
  go_wp2_with fail
  refine (valid_yes _ _ HU.out).mono ?_
  rintro e w1 ⟨rfl, rfl⟩
  go_wp2_with fail
  refine (add_yes _ _ _ HS.out HT.out).mono ?_
  rintro e w1 ⟨rfl, b1⟩
  rw [okN_yes HB.out.1]
  go_wp2_with fail
  refine (add_yes _ _ _ HT.out HS.out).mono ?_
  rintro e w2 ⟨rfl, b2⟩
  rw [Nat.add_comm, okN_yes HB.out.1]
  have b2 := bnext b1 b2; clear b1
  go_wp2_with fail
  refine (mul_yes _ _ _ (can_E' HB.out.1) HU.out).mono ?_
  rintro e w3 ⟨rfl, b3⟩
  rw [V_E, okN_yes HB.out.2.1]
  have b3 := bnext b2 b3; clear b2
  go_wp2_with fail
  refine (mul_yes _ _ _ HU.out HS.out).mono ?_
  rintro e w4 ⟨rfl, b4⟩
  rw [okN_yes HB.out.2.2.1]
  have b4 := bnext b3 b4; clear b3
  go_wp2_with fail
  refine (mul_yes _ _ _ HT.out HU.out).mono ?_
  rintro e w5 ⟨rfl, b5⟩
  rw [okN_yes HB.out.2.2.2.1]
  have b5 := bnext b4 b5; clear b4
  go_wp2_with fail
  refine (add_yes _ _ _ (can_E' HB.out.2.2.1) (can_E' HB.out.2.2.2.1)).mono ?_
  rintro e w6 ⟨rfl, b6⟩
  rw [V_E, V_E, ← HB.out.2.2.2.2, okN_yes HB.out.2.1]
  have b6 := bnext b5 b6; clear b5
  go_wp2_with fail
  refine (sub_yes _ _ _ (can_E' HB.out.1) HT.out).mono ?_
  rintro e w7 ⟨rfl, b7⟩
  rw [V_E, subN_yes (Nat.le_add_left _ _), Nat.add_sub_cancel, E_V HS.out]
  have b7 := bnext b6 b7; clear b6
  go_wp2_with fail
  refine (awake1 _).mono ?_
  rintro e w8 ⟨rfl, b8⟩
  have b8 := bnext b7 b8; clear b7
  go_wp2
  go_ret
  exact ⟨rfl, b8⟩

set_option maxHeartbeats 4000000 in
set_option maxRecDepth 20000 in
theorem naturalField_skip (s t u : ByteArray) (w : World) (ws : s.size ≤ maxLen) (wt : t.size ≤ maxLen) (wu : u.size ≤ maxLen) (h : ¬ (s.size ≤ 40 ∧ t.size ≤ 40 ∧ u.size ≤ 40 ∧ Can s ∧ Can t ∧ Can u)) :
    Calls Try.prog 10 #[.string s, .string t, .string u] w fun e w' => e = .returned (.bool true) ∧ Below w.heap.size w w' := by
  unfold maxLen at ws wt wu
  by_cases h1 : s.size ≤ 40
  · by_cases h2 : t.size ≤ 40
    · by_cases h3 : u.size ≤ 40
      · by_cases hs : Can s
        · by_cases ht : Can t
          · have hu : ¬ Can u := fun q => h ⟨h1, h2, h3, hs, ht, q⟩
            clear h
            have HS := Lib.hid hs; clear hs
            have HT := Lib.hid ht; clear ht
            have HU := Lib.hid hu; clear hu
            go_enter Try.func10, Try.ntmps10
            go_wp2_with fail
            refine (valid_yes _ _ HS.out).mono ?_
            rintro e w1 ⟨rfl, rfl⟩
            go_wp2_with fail
            refine (valid_yes _ _ HT.out).mono ?_
            rintro e w1 ⟨rfl, rfl⟩
            go_wp2_with fail
            refine (valid_no _ _ HU.out).mono ?_
            rintro e w1 ⟨rfl, rfl⟩
            go_wp2_with fail
            refine (awake1 _).mono ?_
            rintro e w8 ⟨rfl, b8⟩
            go_wp2
            go_ret
            exact ⟨rfl, b8⟩
          · clear h
            have HS := Lib.hid hs; clear hs
            have HT := Lib.hid ht; clear ht
            go_enter Try.func10, Try.ntmps10
            go_wp2_with fail
            refine (valid_yes _ _ HS.out).mono ?_
            rintro e w1 ⟨rfl, rfl⟩
            go_wp2_with fail
            refine (valid_no _ _ HT.out).mono ?_
            rintro e w1 ⟨rfl, rfl⟩
            go_wp2_with fail
            refine (awake1 _).mono ?_
            rintro e w8 ⟨rfl, b8⟩
            go_wp2
            go_ret
            exact ⟨rfl, b8⟩
        · clear h
          have HS := Lib.hid hs; clear hs
          go_enter Try.func10, Try.ntmps10
          go_wp2_with fail
          refine (valid_no _ _ HS.out).mono ?_
          rintro e w1 ⟨rfl, rfl⟩
          go_wp2_with fail
          refine (awake1 _).mono ?_
          rintro e w8 ⟨rfl, b8⟩
          go_wp2
          go_ret
          exact ⟨rfl, b8⟩
      · clear h
        go_enter Try.func10, Try.ntmps10
        go_wp2_with fail
        refine (awake1 _).mono ?_
        rintro e w8 ⟨rfl, b8⟩
        go_wp2
        go_ret
        exact ⟨rfl, b8⟩
    · clear h
      go_enter Try.func10, Try.ntmps10
      go_wp2_with fail
      refine (awake1 _).mono ?_
      rintro e w8 ⟨rfl, b8⟩
      go_wp2
      go_ret
      exact ⟨rfl, b8⟩
  · clear h
    go_enter Try.func10, Try.ntmps10
    go_wp2_with fail
    refine (awake1 _).mono ?_
    rintro e w8 ⟨rfl, b8⟩
    go_wp2
    go_ret
    exact ⟨rfl, b8⟩

theorem law_NaturalField (a0 a1 a2 : ByteArray) (w0 : a0.size ≤ maxLen) (w1 : a1.size ≤ maxLen) (w2 : a2.size ≤ maxLen) (w : World) :
    Calls Try.prog 10 #[.string a0, .string a1, .string a2] w fun e w' => e = .returned (.bool true) ∧ Below w.heap.size w w' := by
  by_cases h : a0.size ≤ 40 ∧ a1.size ≤ 40 ∧ a2.size ≤ 40 ∧ Can a0 ∧ Can a1 ∧ Can a2
  · obtain ⟨h1, h2, h3, h4, h5, h6⟩ := h
    exact naturalField_walk a0 a1 a2 w h1 h2 h3 h4 h5 h6
  · exact naturalField_skip a0 a1 a2 w w0 w1 w2 h
end Go.Proofs.Ythiinmfelkhakaa
