/-
  Layer 3's statements: Jacobis.
-/
import Derived.Test.YtjbcicgbemepbaaGreatDoorLaw3a
import Derived.Test.YtjbcicgbemepbaaGreatDoorRM7
namespace Go.Proofs.YtjbcicgbemepbaaGreatDoor
open Go.RowKit
set_option linter.unusedVariables false

theorem jac_agree (a n : ByteArray) : ∃ (s v : Int),
    (∀ w, Calls Tryz.prog 28 #[.string a, .string n] w fun e w' => e = .returned (.tuple #[.int .i64 s, .int .i64 v]) ∧ Below w.heap.size w w') ∧
    (∀ w, Calls Tryz.prog 29 #[.string a, .string n] w fun e w' => e = .returned (.tuple #[.int .i64 s, .int .i64 v]) ∧ Below w.heap.size w w') := by
  by_cases hc : Can n ∧ ∀ s, s ∈ [a] → Can s
  · have ha : Can a := hc.2 a (by simp)
    by_cases h0 : n.size = 0
    · exact ⟨0, 11, fun w => mjac_err a n 11 w (fun c h => h.zero hc h0) (by decide), fun w => rjac_err a n 11 w (fun c h => h.zero hc h0) (by decide)⟩
    · by_cases hodd : V n % 2 = 1
      · exact ⟨_, 0, fun w => mjac_ok a n w ha hc.1 (by omega) hodd, fun w => rjac_m a n w ha hc.1 (by omega) hodd⟩
      · exact ⟨0, 1, fun w => mjac_even a n w ha hc.1 (by omega) (by omega), fun w => rjac_even a n w ha hc.1 (by omega) (by omega)⟩
  · exact ⟨0, 3, fun w => mjac_err a n 3 w (fun c h => h.form hc) (by decide), fun w => rjac_err a n 3 w (fun c h => h.form hc) (by decide)⟩

set_option maxHeartbeats 1000000 in
set_option maxRecDepth 20000 in
theorem jac_skip1 (a n : ByteArray) (w : World) (m1 : a.size ≤ 9223372036854775807) (m2 : n.size ≤ 9223372036854775807) (l1 : (24 : Int) < a.size) :
    Calls Tryz.prog 7 #[.string a, .string n] w fun e w' => e = .returned (.bool true) ∧ Below w.heap.size w w' := by
  go_enter Tryz.func7, Tryz.ntmps7
  go_wp2_with fail
  refine (awake3 _).mono ?_; rintro e w1 ⟨rfl, b1⟩
  go_wp2
  go_ret
  exact ⟨rfl, b1⟩
set_option maxHeartbeats 1000000 in
set_option maxRecDepth 20000 in
theorem jac_skip2 (a n : ByteArray) (w : World) (m1 : a.size ≤ 9223372036854775807) (m2 : n.size ≤ 9223372036854775807) (l1 : ¬ (24 : Int) < a.size) (l2 : (12 : Int) < n.size) :
    Calls Tryz.prog 7 #[.string a, .string n] w fun e w' => e = .returned (.bool true) ∧ Below w.heap.size w w' := by
  go_enter Tryz.func7, Tryz.ntmps7
  go_wp2_with fail
  refine (awake3 _).mono ?_; rintro e w1 ⟨rfl, b1⟩
  go_wp2
  go_ret
  exact ⟨rfl, b1⟩
set_option maxHeartbeats 1000000 in
set_option maxRecDepth 20000 in
theorem jac_yes (a n : ByteArray) (s v : Int) (w : World) (l1 : ¬ (24 : Int) < a.size) (l2 : ¬ (12 : Int) < n.size)
    (h1 : ∀ w, Calls Tryz.prog 28 #[.string a, .string n] w fun e w' => e = .returned (.tuple #[.int .i64 s, .int .i64 v]) ∧ Below w.heap.size w w')
    (h2 : ∀ w, Calls Tryz.prog 29 #[.string a, .string n] w fun e w' => e = .returned (.tuple #[.int .i64 s, .int .i64 v]) ∧ Below w.heap.size w w') :
    Calls Tryz.prog 7 #[.string a, .string n] w fun e w' => e = .returned (.bool true) ∧ Below w.heap.size w w' := by
  have H1 := Lib.hid h1; clear h1
  have H2 := Lib.hid h2; clear h2
  go_enter Tryz.func7, Tryz.ntmps7
  go_wp2_with fail
  refine (H1.out _).mono ?_; rintro e w1 ⟨rfl, b1⟩
  have B1 := Lib.hid b1; clear b1
  go_wp2_with fail
  refine (H2.out _).mono ?_; rintro e w2 ⟨rfl, b2⟩
  have B2 := Lib.hid (bnext B1.out b2); clear b2
  go_wp2_with fail
  refine (awake3 _).mono ?_; rintro e w3 ⟨rfl, b3⟩
  have B3 := Lib.hid (bnext B2.out b3); clear b3
  go_wp2
  go_ret
  exact ⟨rfl, B3.out⟩
theorem law_ModularJacobis (a n : ByteArray) (l1 : a.size ≤ maxLen) (l2 : n.size ≤ maxLen) (w : World) :
    Calls Tryz.prog 7 #[.string a, .string n] w fun e w' => e = .returned (.bool true) ∧ Below w.heap.size w w' := by
  unfold maxLen at l1 l2
  by_cases k1 : (24 : Int) < a.size
  · exact jac_skip1 a n w (by omega) (by omega) k1
  · by_cases k2 : (12 : Int) < n.size
    · exact jac_skip2 a n w (by omega) (by omega) k1 k2
    · obtain ⟨s, v, h1, h2⟩ := jac_agree a n
      exact jac_yes a n s v w k1 k2 h1 h2
end Go.Proofs.YtjbcicgbemepbaaGreatDoor
