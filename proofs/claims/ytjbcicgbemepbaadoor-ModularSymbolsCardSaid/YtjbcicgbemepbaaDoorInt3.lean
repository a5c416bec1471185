/-
  Contracts of package integer, the third part: Of.
-/
import Derived.Test.YtjbcicgbemepbaaDoorInt2
namespace Go.Proofs.YtjbcicgbemepbaaDoor
open Go.RowKit
set_option linter.unusedVariables false

/-- A result variable made before a call stands behind it. -/
theorem var_after {w w' : World} {c0 c1 : Value} {t : TypeId} (b : Below (w.alloc (.cells #[c0, c1] t)).heap.size (w.alloc (.cells #[c0, c1] t)) w') :
    w'.cell? ⟨w.heap.size, 0, none⟩ = some c0 ∧ w'.cell? ⟨w.heap.size, 1, none⟩ = some c1 ∧ w'.frozen? ⟨w.heap.size, 0, none⟩ = false ∧ w'.frozen? ⟨w.heap.size, 1, none⟩ = false := by
  have hlt : w.heap.size < (w.alloc (.cells #[c0, c1] t)).heap.size := by simp
  refine ⟨?_, ?_, ?_, ?_⟩
  · rw [b.cell (p := ⟨w.heap.size, 0, none⟩) hlt, World.cell?_alloc_new]; rfl
  · rw [b.cell (p := ⟨w.heap.size, 1, none⟩) hlt, World.cell?_alloc_new]; rfl
  · rw [b.frozen (p := ⟨w.heap.size, 0, none⟩) hlt]; simp
  · rw [b.frozen (p := ⟨w.heap.size, 1, none⟩) hlt]; simp

set_option maxHeartbeats 400000 in
theorem iof_pos (n : Nat) (w : World) (h : n < 9223372036854775808) :
    Calls Tryd.prog 42 #[.int .i64 n] w fun e w' => e = .returned (.agg #[.bool false, .string (E n)]) ∧ Below w.heap.size w w' := by
  have hn : n < 18446744073709551616 := by omega
  go_enter Tryd.func42, Tryd.ntmps42
  go_wp2_with fail
  refine (of_any n _ hn).mono ?_; rintro e w' ⟨rfl, b1⟩
  obtain ⟨hc0, hc1, hf0, hf1⟩ := var_after b1
  go_wp2
  refine bodyPost_ret (v := .agg #[.bool false, .string (E n)]) (by simp [results, Tryd.results42, go_sem, hc0, hc1]) rfl ⟨rfl, ?_⟩
  have hb : Below w.heap.size w w' := ((Below.refl w.heap.size w).alloc (Nat.le_refl _) _).trans (b1.mono (by simp))
  exact (hb.setCell (p := ⟨w.heap.size, 0, none⟩) (Nat.le_refl _) _).setCell (p := ⟨w.heap.size, 1, none⟩) (Nat.le_refl _) _
end Go.Proofs.YtjbcicgbemepbaaDoor
