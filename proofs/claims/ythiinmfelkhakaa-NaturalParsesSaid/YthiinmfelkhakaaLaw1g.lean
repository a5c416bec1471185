/-
  The walk of NaturalParses.
-/
import Derived.Test.YthiinmfelkhakaaRef9
import Derived.Test.YthiinmfelkhakaaLaw1d
namespace Go.Proofs.Ythiinmfelkhakaa
open Go.RowKit
set_option linter.unusedVariables false

theorem parse_yes (s : ByteArray) (w : World) (hs : s.size ≤ 1000) (h : DecS s) :
    Calls Try.prog 42 #[.string s] w fun e w' => e = .returned (okN (pv s s.size)) ∧ Below w.heap.size w w' := by
  by_cases hl : s.size ≤ 309
  · exact parse_short s w h hl
  · exact (parse_long s w hs h hl).mono fun _ _ => same_below
theorem parse_agree (s : ByteArray) (hs : s.size ≤ 1000) : ∃ (b : ByteArray) (v : Nat), v ≤ 100 ∧
    (∀ w, Calls Try.prog 42 #[.string s] w fun e w' => e = .returned (.tuple #[.string b, .int .i64 v]) ∧ Below w.heap.size w w') ∧
    (∀ w, Calls Try.prog 43 #[.string s] w fun e w' => e = .returned (.tuple #[.string b, .int .i64 v]) ∧ Below w.heap.size w w') := by
  by_cases h : DecS s
  · obtain ⟨b, v, hv, hl⟩ := okN_code (pv s s.size)
    exact ⟨b, v, hl, fun w => hv ▸ parse_yes s w hs h, fun w => hv ▸ rparse_yes s w hs h⟩
  · exact ⟨E 0, 4, by omega, fun w => (parse_no s w hs h).mono fun _ _ => same_below, fun w => (rparse_no s w hs h).mono fun _ _ => same_below⟩

set_option maxHeartbeats 4000000 in
set_option maxRecDepth 20000 in
theorem law_NaturalParses (a0 : ByteArray) (w0 : a0.size ≤ maxLen) (w : World) :
    Calls Try.prog 9 #[.string a0] w fun e w' => e = .returned (.bool true) ∧ Below w.heap.size w w' := by
  unfold maxLen at w0
  by_cases h0 : a0.size ≤ 400
  · obtain ⟨x1, v1, l1, ha1, ha2⟩ := parse_agree a0 (by omega)
    have ha1 := Lib.hid ha1
    have ha2 := Lib.hid ha2
    have e1 := l_beq x1
    have e3 := i_beq v1
    go_enter Try.func9, Try.ntmps9
    go_wp2_with fail
    refine (ha1.out _).mono ?_
    rintro e w1 ⟨rfl, d1⟩
    go_wp2_with fail
    refine (ha2.out _).mono ?_
    rintro e w2 ⟨rfl, d2⟩
    have d2 := bnext d1 d2; clear d1
    go_wp2_with fail
    refine (awake1 _).mono ?_
    rintro e w5 ⟨rfl, d5⟩
    have d5 := bnext d2 d5; clear d2
    go_wp2
    go_ret
    exact ⟨rfl, d5⟩
  · go_enter Try.func9, Try.ntmps9
    go_wp2_with fail
    refine (awake1 _).mono ?_
    rintro e w1 ⟨rfl, c1⟩
    go_wp2
    go_ret
    exact ⟨rfl, c1⟩
end Go.Proofs.Ythiinmfelkhakaa
