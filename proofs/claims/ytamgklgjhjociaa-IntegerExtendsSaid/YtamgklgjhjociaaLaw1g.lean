/-
  The walk of NaturalParses.
-/
import Derived.Test.YtamgklgjhjociaaRef9
import Derived.Test.YtamgklgjhjociaaLaw1d
namespace Go.Proofs.Ytamgklgjhjociaa
open Go.RowKit
set_option linter.unusedVariables false

theorem parse_yes (s : ByteArray) (w : World) (hs : s.size ≤ 1000) (h : DecS s) :
    Calls Try.prog 68 #[.string s] w fun e w' => e = .returned (okN (pv s s.size)) ∧ Below w.heap.size w w' := by
  by_cases hl : s.size ≤ 309
  · exact parse_short s w h hl
  · exact (parse_long s w hs h hl).mono fun _ _ => same_below
theorem parse_agree (s : ByteArray) (hs : s.size ≤ 1000) : ∃ (b : ByteArray) (v : Nat), v ≤ 100 ∧
    (∀ w, Calls Try.prog 68 #[.string s] w fun e w' => e = .returned (.tuple #[.string b, .int .i64 v]) ∧ Below w.heap.size w w') ∧
    (∀ w, Calls Try.prog 69 #[.string s] w fun e w' => e = .returned (.tuple #[.string b, .int .i64 v]) ∧ Below w.heap.size w w') := by
  by_cases h : DecS s
  · obtain ⟨b, v, hv, hl⟩ := okN_code (pv s s.size)
    exact ⟨b, v, hl, fun w => hv ▸ parse_yes s w hs h, fun w => hv ▸ rparse_yes s w hs h⟩
  · exact ⟨E 0, 4, by omega, fun w => (parse_no s w hs h).mono fun _ _ => same_below, fun w => (rparse_no s w hs h).mono fun _ _ => same_below⟩

end Go.Proofs.Ytamgklgjhjociaa
