/-
  The walk of NaturalRoots.
-/
import Derived.Test.YthiinmfelkhakaaRef7
import Derived.Test.YthiinmfelkhakaaLaw1e
namespace Go.Proofs.Ythiinmfelkhakaa
open Go.RowKit
set_option linter.unusedVariables false

theorem gcd_agree (s t : ByteArray) : ∃ (b : ByteArray) (v : Nat), v ≤ 100 ∧
    (∀ w, Calls Try.prog 36 #[.string s, .string t] w fun e w' => e = .returned (.tuple #[.string b, .int .i64 v]) ∧ Below w.heap.size w w') ∧
    (∀ w, Calls Try.prog 37 #[.string s, .string t] w fun e w' => e = .returned (.tuple #[.string b, .int .i64 v]) ∧ Below w.heap.size w w') := by
  by_cases h : Can s ∧ Can t
  · exact ⟨_, 0, by omega, fun w => gcd_yes s t w h.1 h.2, fun w => rgcd_yes s t w h.1 h.2⟩
  · exact ⟨E 0, 3, by omega, fun w => (gcd_no s t w h).mono fun _ _ => same_below, fun w => (rgcd_no s t w h).mono fun _ _ => same_below⟩
theorem sqrt_agree (s : ByteArray) : ∃ (b : ByteArray) (v : Nat), v ≤ 100 ∧
    (∀ w, Calls Try.prog 38 #[.string s] w fun e w' => e = .returned (.tuple #[.string b, .int .i64 v]) ∧ Below w.heap.size w w') ∧
    (∀ w, Calls Try.prog 39 #[.string s] w fun e w' => e = .returned (.tuple #[.string b, .int .i64 v]) ∧ Below w.heap.size w w') := by
  by_cases h : Can s
  · exact ⟨_, 0, by omega, fun w => sqrt_yes s w h, fun w => rsqrt_yes s w h⟩
  · exact ⟨E 0, 3, by omega, fun w => (sqrt_no s w h).mono fun _ _ => same_below, fun w => (rsqrt_no s w h).mono fun _ _ => same_below⟩

set_option maxHeartbeats 4000000 in
set_option maxRecDepth 20000 in
theorem naturalRoots_walk (a0 a1 : ByteArray) (w : World) (h0 : a0.size ≤ 60) (h1 : a1.size ≤ 60) :
    Calls Try.prog 7 #[.string a0, .string a1] w fun e w' => e = .returned (.bool true) ∧ Below w.heap.size w w' := by
  obtain ⟨x1, v1, l1, ha1, ha2⟩ := gcd_agree a0 a1
  obtain ⟨x2, v2, l2, hs1, hs2⟩ := sqrt_agree a0
  have ha1 := Lib.hid ha1
  have ha2 := Lib.hid ha2
  have hs1 := Lib.hid hs1
  have hs2 := Lib.hid hs2
  have e1 := l_beq x1
  have e2 := l_beq x2
  have e3 := i_beq v1
  have e4 := i_beq v2
  go_enter Try.func7, Try.ntmps7
  go_wp2_with fail
  refine (ha1.out _).mono ?_
  rintro e w1 ⟨rfl, d1⟩
  go_wp2_with fail
  refine (ha2.out _).mono ?_
  rintro e w2 ⟨rfl, d2⟩
  have d2 := bnext d1 d2; clear d1
  go_wp2_with fail
  refine (hs1.out _).mono ?_
  rintro e w3 ⟨rfl, d3⟩
  have d3 := bnext d2 d3; clear d2
  go_wp2_with fail
  refine (hs2.out _).mono ?_
  rintro e w4 ⟨rfl, d4⟩
  have d4 := bnext d3 d4; clear d3
  go_wp2_with fail
  refine (awake1 _).mono ?_
  rintro e w5 ⟨rfl, d5⟩
  have d5 := bnext d4 d5; clear d4
  go_wp2
  go_ret
  exact ⟨rfl, d5⟩

set_option maxHeartbeats 4000000 in
set_option maxRecDepth 20000 in
theorem law_NaturalRoots (a0 a1 : ByteArray) (w0 : a0.size ≤ maxLen) (w1 : a1.size ≤ maxLen) (w : World) :
    Calls Try.prog 7 #[.string a0, .string a1] w fun e w' => e = .returned (.bool true) ∧ Below w.heap.size w w' := by
  unfold maxLen at w0 w1
  by_cases h0 : a0.size ≤ 60
  · by_cases h1 : a1.size ≤ 60
    · exact naturalRoots_walk a0 a1 w h0 h1
    · go_enter Try.func7, Try.ntmps7
      go_wp2_with fail
      refine (awake1 _).mono ?_
      rintro e w1 ⟨rfl, c1⟩
      go_wp2
      go_ret
      exact ⟨rfl, c1⟩
  · go_enter Try.func7, Try.ntmps7
    go_wp2_with fail
    refine (awake1 _).mono ?_
    rintro e w1 ⟨rfl, c1⟩
    go_wp2
    go_ret
    exact ⟨rfl, c1⟩
end Go.Proofs.Ythiinmfelkhakaa
