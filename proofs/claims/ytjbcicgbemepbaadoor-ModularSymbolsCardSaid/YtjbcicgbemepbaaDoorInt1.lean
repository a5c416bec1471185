/-
  Contracts of package integer, the first part: Valid, signed.
-/
import Derived.Test.YtjbcicgbemepbaaDoorRef3
namespace Go.Proofs.YtjbcicgbemepbaaDoor
open Go.RowKit
set_option linter.unusedVariables false

/-- An integer's value. -/
def IV (g : Bool) (s : ByteArray) : Value := .agg #[.bool g, .string s]

set_option maxHeartbeats 400000 in
theorem ivalid_no (g : Bool) (s : ByteArray) (w : World) (h : ¬ Can s) :
    Calls Tryd.prog 61 #[.agg #[.bool g, .string s]] w fun e w' => e = .returned (.bool false) ∧ Below w.heap.size w w' := by
  have HC := Lib.hid h; clear h
  go_enter Tryd.func61, Tryd.ntmps61
  go_wp2_with fail
  refine (valid_no s _ HC.out).mono ?_; rintro e w' ⟨rfl, rfl⟩
  go_wp2
  go_ret
  exact ⟨rfl, (Below.refl _ _).alloc (Nat.le_refl _) _⟩
set_option maxHeartbeats 400000 in
theorem ivalid_zero (g : Bool) (s : ByteArray) (w : World) (h : Can s) (h0 : s.size = 0) :
    Calls Tryd.prog 61 #[.agg #[.bool g, .string s]] w fun e w' => e = .returned (.bool (!g)) ∧ Below w.heap.size w w' := by
  have hE := empty_of h0
  have HC := Lib.hid h; clear h h0
  cases g
  · go_enter Tryd.func61, Tryd.ntmps61
    go_wp2_with fail
    refine (valid_yes s _ HC.out).mono ?_; rintro e w' ⟨rfl, rfl⟩
    go_wp2
    go_ret
    exact ⟨rfl, (Below.refl _ _).alloc (Nat.le_refl _) _⟩
  · go_enter Tryd.func61, Tryd.ntmps61
    go_wp2_with fail
    refine (valid_yes s _ HC.out).mono ?_; rintro e w' ⟨rfl, rfl⟩
    go_wp2
    go_ret
    exact ⟨rfl, (Below.refl _ _).alloc (Nat.le_refl _) _⟩
set_option maxHeartbeats 400000 in
theorem ivalid_yes (g : Bool) (s : ByteArray) (w : World) (h : Can s) (h0 : s.size ≠ 0) :
    Calls Tryd.prog 61 #[.agg #[.bool g, .string s]] w fun e w' => e = .returned (.bool true) ∧ Below w.heap.size w w' := by
  have hE := not_empty_of h0
  have HC := Lib.hid h; clear h h0
  cases g
  · go_enter Tryd.func61, Tryd.ntmps61
    go_wp2_with fail
    refine (valid_yes s _ HC.out).mono ?_; rintro e w' ⟨rfl, rfl⟩
    go_wp2
    go_ret
    exact ⟨rfl, (Below.refl _ _).alloc (Nat.le_refl _) _⟩
  · go_enter Tryd.func61, Tryd.ntmps61
    go_wp2_with fail
    refine (valid_yes s _ HC.out).mono ?_; rintro e w' ⟨rfl, rfl⟩
    go_wp2
    go_ret
    exact ⟨rfl, (Below.refl _ _).alloc (Nat.le_refl _) _⟩
set_option maxHeartbeats 400000 in
theorem signed_any (g : Bool) (s : ByteArray) (w : World) :
    Calls Tryd.prog 62 #[.bool g, .string s] w fun e w' => e = .returned (.agg #[.bool (g && !s.toList.isEmpty), .string s]) ∧ Below w.heap.size w w' := by
  cases g
  · go_enter Tryd.func62, Tryd.ntmps62
    go_wp2
    refine bodyPost_ret (v := .agg #[.bool (false && !s.toList.isEmpty), .string s]) (by simp [results, Tryd.results62, go_sem]) rfl ⟨rfl, ?_⟩
    exact (Below.refl _ _).alloc (Nat.le_refl _) _
  · by_cases h0 : s.size = 0
    · have hE := empty_of h0
      rw [hE]
      go_enter Tryd.func62, Tryd.ntmps62
      go_wp2
      refine bodyPost_ret (v := .agg #[.bool false, .string s]) (by simp [results, Tryd.results62, go_sem]) rfl ⟨rfl, ?_⟩
      exact (Below.refl _ _).alloc (Nat.le_refl _) _
    · have hE := not_empty_of h0
      rw [hE]
      go_enter Tryd.func62, Tryd.ntmps62
      go_wp2
      refine bodyPost_ret (v := .agg #[.bool true, .string s]) (by simp [results, Tryd.results62, go_sem]) rfl ⟨rfl, ?_⟩
      exact (Below.refl _ _).alloc (Nat.le_refl _) _
end Go.Proofs.YtjbcicgbemepbaaDoor
