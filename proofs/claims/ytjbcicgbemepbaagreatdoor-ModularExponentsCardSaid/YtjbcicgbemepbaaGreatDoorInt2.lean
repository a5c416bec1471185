/-
  Contracts of package integer and of its reference, the second part: the reference's Valid and Make; From.
-/
import Derived.Test.YtjbcicgbemepbaaGreatDoorInt1
namespace Go.Proofs.YtjbcicgbemepbaaGreatDoor
open Go.RowKit
set_option linter.unusedVariables false

set_option maxHeartbeats 400000 in
theorem rivalid_no (g : Bool) (s : ByteArray) (w : World) (h : ¬ Can s) :
    Calls Tryz.prog 47 #[.agg #[.bool g, .string s]] w fun e w' => e = .returned (.bool false) ∧ Below w.heap.size w w' := by
  have HC := Lib.hid h; clear h
  go_enter Tryz.func47, Tryz.ntmps47
  go_wp2_with fail
  refine (rvalid_no s _ HC.out).mono ?_; rintro e w' ⟨rfl, rfl⟩
  go_wp2
  go_ret
  exact ⟨rfl, (Below.refl _ _).alloc (Nat.le_refl _) _⟩
set_option maxHeartbeats 400000 in
theorem rivalid_zero (g : Bool) (s : ByteArray) (w : World) (h : Can s) (h0 : s.size = 0) :
    Calls Tryz.prog 47 #[.agg #[.bool g, .string s]] w fun e w' => e = .returned (.bool (!g)) ∧ Below w.heap.size w w' := by
  have hE := empty_of h0
  have HC := Lib.hid h; clear h h0
  cases g
  · go_enter Tryz.func47, Tryz.ntmps47
    go_wp2_with fail
    refine (rvalid_yes s _ HC.out).mono ?_; rintro e w' ⟨rfl, rfl⟩
    go_wp2
    go_ret
    exact ⟨rfl, (Below.refl _ _).alloc (Nat.le_refl _) _⟩
  · go_enter Tryz.func47, Tryz.ntmps47
    go_wp2_with fail
    refine (rvalid_yes s _ HC.out).mono ?_; rintro e w' ⟨rfl, rfl⟩
    go_wp2
    go_ret
    exact ⟨rfl, (Below.refl _ _).alloc (Nat.le_refl _) _⟩
set_option maxHeartbeats 400000 in
theorem rivalid_yes (g : Bool) (s : ByteArray) (w : World) (h : Can s) (h0 : s.size ≠ 0) :
    Calls Tryz.prog 47 #[.agg #[.bool g, .string s]] w fun e w' => e = .returned (.bool true) ∧ Below w.heap.size w w' := by
  have hE := not_empty_of h0
  have HC := Lib.hid h; clear h h0
  cases g
  · go_enter Tryz.func47, Tryz.ntmps47
    go_wp2_with fail
    refine (rvalid_yes s _ HC.out).mono ?_; rintro e w' ⟨rfl, rfl⟩
    go_wp2
    go_ret
    exact ⟨rfl, (Below.refl _ _).alloc (Nat.le_refl _) _⟩
  · go_enter Tryz.func47, Tryz.ntmps47
    go_wp2_with fail
    refine (rvalid_yes s _ HC.out).mono ?_; rintro e w' ⟨rfl, rfl⟩
    go_wp2
    go_ret
    exact ⟨rfl, (Below.refl _ _).alloc (Nat.le_refl _) _⟩
set_option maxHeartbeats 400000 in
theorem make_any (g : Bool) (s : ByteArray) (w : World) :
    Calls Tryz.prog 62 #[.bool g, .string s] w fun e w' => e = .returned (.agg #[.bool (g && !s.toList.isEmpty), .string s]) ∧ Below w.heap.size w w' := by
  cases g
  · go_enter Tryz.func62, Tryz.ntmps62
    go_wp2
    refine bodyPost_ret (v := .agg #[.bool (false && !s.toList.isEmpty), .string s]) (by simp [results, Tryz.results62, go_sem]) rfl ⟨rfl, ?_⟩
    exact (Below.refl _ _).alloc (Nat.le_refl _) _
  · by_cases h0 : s.size = 0
    · have hE := empty_of h0
      rw [hE]
      go_enter Tryz.func62, Tryz.ntmps62
      go_wp2
      refine bodyPost_ret (v := .agg #[.bool false, .string s]) (by simp [results, Tryz.results62, go_sem]) rfl ⟨rfl, ?_⟩
      exact (Below.refl _ _).alloc (Nat.le_refl _) _
    · have hE := not_empty_of h0
      rw [hE]
      go_enter Tryz.func62, Tryz.ntmps62
      go_wp2
      refine bodyPost_ret (v := .agg #[.bool true, .string s]) (by simp [results, Tryz.results62, go_sem]) rfl ⟨rfl, ?_⟩
      exact (Below.refl _ _).alloc (Nat.le_refl _) _

set_option maxHeartbeats 400000 in
theorem from_yes (s : ByteArray) (w : World) (h : Can s) :
    Calls Tryz.prog 112 #[.string s] w fun e w' => e = .returned (.agg #[.bool false, .string s]) ∧ Below w.heap.size w w' := by
  have HC := Lib.hid h; clear h
  go_enter Tryz.func112, Tryz.ntmps112
  go_wp2_with fail
  refine (valid_yes s _ HC.out).mono ?_; rintro e w' ⟨rfl, rfl⟩
  go_wp2
  refine bodyPost_ret (v := .agg #[.bool false, .string s]) (by simp [results, Tryz.results112, go_sem]) rfl ⟨rfl, ?_⟩
  exact (Below.refl _ _).alloc (Nat.le_refl _) _
set_option maxHeartbeats 400000 in
theorem from_no (s : ByteArray) (w : World) (h : ¬ Can s) :
    Calls Tryz.prog 112 #[.string s] w fun e w' => e = .returned (.agg #[.bool false, .string ⟨#[]⟩]) ∧ Below w.heap.size w w' := by
  have HC := Lib.hid h; clear h
  go_enter Tryz.func112, Tryz.ntmps112
  go_wp2_with fail
  refine (valid_no s _ HC.out).mono ?_; rintro e w' ⟨rfl, rfl⟩
  go_wp2
  refine bodyPost_ret (v := .agg #[.bool false, .string ⟨#[]⟩]) (by simp [results, Tryz.results112, go_sem]) rfl ⟨rfl, ?_⟩
  exact (Below.refl _ _).alloc (Nat.le_refl _) _
end Go.Proofs.YtjbcicgbemepbaaGreatDoor
