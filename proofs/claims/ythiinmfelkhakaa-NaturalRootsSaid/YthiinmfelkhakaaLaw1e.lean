/-
  The walk of NaturalMultiplies.
-/
import Derived.Test.YthiinmfelkhakaaRef6
import Derived.Test.YthiinmfelkhakaaLaw1d
namespace Go.Proofs.Ythiinmfelkhakaa
open Go.RowKit
set_option linter.unusedVariables false

theorem mul_agree (s t : ByteArray) : ∃ (b : ByteArray) (v : Nat), v ≤ 100 ∧
    (∀ w, Calls Try.prog 32 #[.string s, .string t] w fun e w' => e = .returned (.tuple #[.string b, .int .i64 v]) ∧ Below w.heap.size w w') ∧
    (∀ w, Calls Try.prog 33 #[.string s, .string t] w fun e w' => e = .returned (.tuple #[.string b, .int .i64 v]) ∧ Below w.heap.size w w') := by
  by_cases h : Can s ∧ Can t
  · obtain ⟨b, v, hv, hl⟩ := okN_code (V s * V t)
    exact ⟨b, v, hl, fun w => hv ▸ mul_yes s t w h.1 h.2, fun w => hv ▸ rmul_yes s t w h.1 h.2⟩
  · exact ⟨E 0, 3, by omega, fun w => (mul_no s t w h).mono fun _ _ => same_below, fun w => (rmul_no s t w h).mono fun _ _ => same_below⟩
theorem divN_code (n m : Nat) : ∃ (b c : ByteArray) (v : Nat), divN n m = .tuple #[.string b, .string c, .int .i64 v] ∧ v ≤ 100 := by
  unfold divN; split
  · exact ⟨_, _, 11, rfl, by omega⟩
  · exact ⟨_, _, 0, rfl, by omega⟩
theorem divMod_agree (s t : ByteArray) : ∃ (b c : ByteArray) (v : Nat), v ≤ 100 ∧
    (∀ w, Calls Try.prog 34 #[.string s, .string t] w fun e w' => e = .returned (.tuple #[.string b, .string c, .int .i64 v]) ∧ Below w.heap.size w w') ∧
    (∀ w, Calls Try.prog 35 #[.string s, .string t] w fun e w' => e = .returned (.tuple #[.string b, .string c, .int .i64 v]) ∧ Below w.heap.size w w') := by
  by_cases h : Can s ∧ Can t
  · obtain ⟨b, c, v, hv, hl⟩ := divN_code (V s) (V t)
    exact ⟨b, c, v, hl, fun w => hv ▸ divMod_yes s t w h.1 h.2, fun w => hv ▸ rdivMod_yes s t w h.1 h.2⟩
  · exact ⟨E 0, E 0, 3, by omega, fun w => (divMod_no s t w h).mono fun _ _ => same_below, fun w => (rdivMod_no s t w h).mono fun _ _ => same_below⟩

set_option maxHeartbeats 4000000 in
set_option maxRecDepth 20000 in
theorem law_NaturalMultiplies (a0 a1 : ByteArray) (w0 : a0.size ≤ maxLen) (w1 : a1.size ≤ maxLen) (w : World) :
    Calls Try.prog 6 #[.string a0, .string a1] w fun e w' => e = .returned (.bool true) ∧ Below w.heap.size w w' := by
  unfold maxLen at w0 w1
  have hal := (Below.refl w.heap.size w).alloc (Nat.le_refl _) (.cells #[.string a0, .string a1] 22)
  have hst := str2 w a0 a1 22
  have HST := Lib.hid hst; clear hst
  have HAL := Lib.hid hal; clear hal
  by_cases hf : a0.size ≤ 200 ∧ a1.size ≤ 200
  · obtain ⟨x1, v1, l1, ha1, ha2⟩ := mul_agree a0 a1
    obtain ⟨x2, y2, v2, l2, hs1, hs2⟩ := divMod_agree a0 a1
    have ha1 := Lib.hid ha1
    have ha2 := Lib.hid ha2
    have hs1 := Lib.hid hs1
    have hs2 := Lib.hid hs2
    have hfew : ∀ j, j < 2 → (if j = 0 then a0 else a1).size ≤ 200 := fun j _ => by split; exact hf.1; exact hf.2
    have HF := Lib.hid hfew
    clear hfew hf
    have e1 := l_beq x1
    have e2 := l_beq x2
    have e3 := l_beq y2
    have e4 := i_beq v1
    have e5 := i_beq v2
    go_enter Try.func6, Try.ntmps6
    go_wp2_with fail
    refine (few_yes _ 2 _ _ (by omega) HST.out HF.out).mono ?_
    rintro e w1 ⟨rfl, rfl⟩
    go_wp2_with fail
    refine (ha1.out _).mono ?_
    rintro e w1 ⟨rfl, d1⟩
    have d1 := bnext HAL.out d1; clear HAL HST
    go_wp2_with fail
    refine (ha2.out _).mono ?_
    rintro e w2 ⟨rfl, d2⟩
    have d2 := bnext d1 d2; clear d1
    go_wp2_with fail
    refine (hs1.out _).mono ?_
    rintro e w3 ⟨rfl, d3⟩
    have d3 := bnext d2 d3; clear d2
    go_wp2_with fail
    refine (hs2.out _).mono ?_
    rintro e w4 ⟨rfl, d4⟩
    have d4 := bnext d3 d4; clear d3
    go_wp2_with fail
    refine (awake1 _).mono ?_
    rintro e w5 ⟨rfl, d5⟩
    have d5 := bnext d4 d5; clear d4
    go_wp2
    go_ret
    exact ⟨rfl, d5⟩
  · have hfew : ¬ ∀ j, j < 2 → (if j = 0 then a0 else a1).size ≤ 200 := fun q => hf ⟨q 0 (by omega), q 1 (by omega)⟩
    have HF := Lib.hid hfew
    have hm : ∀ j, j < 2 → (if j = 0 then a0 else a1).size ≤ 9223372036854775807 := fun j _ => by split <;> omega
    have HM := Lib.hid hm
    clear hfew hf hm
    go_enter Try.func6, Try.ntmps6
    go_wp2_with fail
    refine (few_no _ 2 _ _ (by omega) HST.out HM.out HF.out).mono ?_
    rintro e w1 ⟨rfl, rfl⟩
    go_wp2_with fail
    refine (awake1 _).mono ?_
    rintro e w1 ⟨rfl, c1⟩
    have c1 := bnext HAL.out c1
    go_wp2
    go_ret
    exact ⟨rfl, c1⟩
end Go.Proofs.Ythiinmfelkhakaa
