/-
  Contracts of package integer and of its reference: Add, Mul.
-/
import Derived.Test.YtfokiokcofabcaaDoorIA
import Derived.Test.YtfokiokcofabcaaDoorRef6
import Derived.Test.YtfokiokcofabcaaDoorLaw1d
namespace Go.Proofs.YtfokiokcofabcaaDoor
open Go.RowKit
set_option linter.unusedVariables false

theorem addr_ne {g h i j : Nat} (hn : g ≠ h) : (⟨g, i, none⟩ : Addr) ≠ ⟨h, j, none⟩ := by
  intro q; exact hn (Addr.mk.inj q).1
theorem Two.set {w : World} {g : Nat} {c0 c1 : Value} (h : Two w g c0 c1) (u v : Value) : Two ((w.setCell ⟨g, 0, none⟩ u).setCell ⟨g, 1, none⟩ v) g u v := by
  obtain ⟨h0, h1, h2, h3, h4⟩ := h
  have d : (⟨g, 1, none⟩ : Addr) ≠ ⟨g, 0, none⟩ := by intro q; have := (Addr.mk.inj q).2.1; omega
  have d' : (⟨g, 0, none⟩ : Addr) ≠ ⟨g, 1, none⟩ := by intro q; have := (Addr.mk.inj q).2.1; omega
  refine ⟨?_, ?_, by simp [h2], by simp [h3], by simp [h4]⟩
  · rw [World.cell?_setCell_other _ _ _ _ d]; exact World.cell?_setCell_same _ _ _ h0
  · exact World.cell?_setCell_same _ _ _ (u := c1) (by rw [World.cell?_setCell_other _ _ _ _ d']; exact h1)
theorem Two.set_ne {w : World} {g : Nat} {c0 c1 : Value} (h : Two w g c0 c1) (a : Nat) (u v : Value) (hn : a ≠ g) : Two ((w.setCell ⟨a, 0, none⟩ u).setCell ⟨a, 1, none⟩ v) g c0 c1 := by
  obtain ⟨h0, h1, h2, h3, h4⟩ := h
  refine ⟨?_, ?_, by simp [h2], by simp [h3], by simp [h4]⟩
  · rw [World.cell?_setCell_other _ _ _ _ (addr_ne hn), World.cell?_setCell_other _ _ _ _ (addr_ne hn)]; exact h0
  · rw [World.cell?_setCell_other _ _ _ _ (addr_ne hn), World.cell?_setCell_other _ _ _ _ (addr_ne hn)]; exact h1
theorem sg_add (g : Bool) (m n : Nat) : sg g m + sg g n = sg g (m + n) := by cases g <;> simp [sg] <;> omega
theorem sg_sub (g : Bool) {m n : Nat} (h : n ≤ m) : sg g m + sg (!g) n = sg g (m - n) := by cases g <;> simp [sg] <;> omega
theorem sg_sub' (g : Bool) {m n : Nat} (h : m ≤ n) : sg g m + sg (!g) n = sg (!g) (n - m) := by cases g <;> simp [sg] <;> omega
theorem sg_mul (g h : Bool) (m n : Nat) : sg g m * sg h n = sg (g != h) (m * n) := by cases g <;> cases h <;> simp [sg, Int.neg_mul, Int.mul_neg]
/-- What a result of layer 1 becomes under a sign. -/
theorem okN_sg (g : Bool) (n : Nat) : (okN n = .tuple #[.string (E n), .int .i64 0] ∧ zokN (sg g n) = .tuple #[Z (sg g n), .int .i64 0]) ∨ (okN n = .tuple #[.string (E 0), .int .i64 5] ∧ zokN (sg g n) = .tuple #[Z 0, .int .i64 5]) := by
  by_cases h : n < Lim
  · exact .inl ⟨okN_yes h, zokN_yes (by rw [sg_natAbs]; exact h)⟩
  · exact .inr ⟨okN_no h, zokN_no (by rw [sg_natAbs]; exact h)⟩
theorem okN_sg' (g : Bool) (n : Nat) : ∃ (m : Nat) (v : Int), okN n = .tuple #[.string (E m), .int .i64 v] ∧ zokN (sg g n) = .tuple #[Z (sg g m), .int .i64 v] := by
  rcases okN_sg g n with ⟨a, b⟩ | ⟨a, b⟩
  · exact ⟨n, 0, a, b⟩
  · exact ⟨0, 5, a, by rw [b]; cases g <;> rfl⟩

end Go.Proofs.YtfokiokcofabcaaDoor
