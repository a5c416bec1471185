/-
  Contracts of package integer: step.
-/
import Derived.Test.YtfokiokcofabcaaDoorIB
import Derived.Deep.DeepCutAuto
namespace Go.Proofs.YtfokiokcofabcaaDoor
open Go.RowKit
set_option linter.unusedVariables false

/-- Four cells of a variable. -/
def Four (w : World) (g : Nat) (a b c d : Value) : Prop :=
  Two w g a b ∧ w.cell? ⟨g, 2, none⟩ = some c ∧ w.cell? ⟨g, 3, none⟩ = some d ∧ w.frozen? ⟨g, 2, none⟩ = false ∧ w.frozen? ⟨g, 3, none⟩ = false
theorem Four.lt {w : World} {g : Nat} {a b c d : Value} (h : Four w g a b c d) : g < w.heap.size := h.1.2.2.2.2
theorem Four.new (w : World) (a b c d : Value) (t : TypeId) (g : Nat) (hg : g = w.heap.size) : Four (w.alloc (.cells #[a, b, c, d] t)) g a b c d := by
  subst hg
  refine ⟨⟨?_, ?_, ?_, ?_, ?_⟩, ?_, ?_, ?_, ?_⟩
  · rw [World.cell?_alloc_new]; rfl
  · rw [World.cell?_alloc_new]; rfl
  · simp
  · simp
  · simp
  · rw [World.cell?_alloc_new]; rfl
  · rw [World.cell?_alloc_new]; rfl
  · simp
  · simp
theorem Four.below {w w' : World} {B g : Nat} {a b c d : Value} (h : Four w g a b c d) (k : Below B w w') (hB : B = w.heap.size) : Four w' g a b c d := by
  subst hB
  have h4 := h.lt
  obtain ⟨h0, h1, h2, h3, h5⟩ := h
  refine ⟨h0.below k rfl, ?_, ?_, ?_, ?_⟩
  · rw [k.cell (p := ⟨g, 2, none⟩) h4, h1]
  · rw [k.cell (p := ⟨g, 3, none⟩) h4, h2]
  · rw [k.frozen (p := ⟨g, 2, none⟩) h4, h3]
  · rw [k.frozen (p := ⟨g, 3, none⟩) h4, h5]
theorem Four.alloc {w : World} {g : Nat} {a b c d : Value} (h : Four w g a b c d) (o : Obj) : Four (w.alloc o) g a b c d :=
  h.below ((Below.refl _ _).alloc (Nat.le_refl _) _) rfl
theorem Four.allocD {w : World} {g : Nat} {a b c d : Value} (h : Four w g a b c d) (o : Obj) : Four (w.alloc o).drew g a b c d := h.alloc o
theorem Four.drewD {w : World} {g : Nat} {a b c d : Value} (h : Four w g a b c d) : Four w.drew g a b c d := h
theorem Four.set_ne {w : World} {g : Nat} {a b c d : Value} (h : Four w g a b c d) (x : Nat) (u v : Value) (hn : x ≠ g) : Four ((w.setCell ⟨x, 0, none⟩ u).setCell ⟨x, 1, none⟩ v) g a b c d := by
  obtain ⟨h0, h1, h2, h3, h4⟩ := h
  refine ⟨h0.set_ne x u v hn, ?_, ?_, by simp [h3], by simp [h4]⟩
  · rw [World.cell?_setCell_other _ _ _ _ (addr_ne hn), World.cell?_setCell_other _ _ _ _ (addr_ne hn)]; exact h1
  · rw [World.cell?_setCell_other _ _ _ _ (addr_ne hn), World.cell?_setCell_other _ _ _ _ (addr_ne hn)]; exact h2
theorem far4 {w : World} {g : Nat} {i j : Nat} (hn : i ≠ j) (u : Value) : (w.setCell ⟨g, i, none⟩ u).cell? ⟨g, j, none⟩ = w.cell? ⟨g, j, none⟩ :=
  World.cell?_setCell_other _ _ _ _ (by intro q; exact hn (Addr.mk.inj q).2.1)
theorem near4 {w : World} {g i : Nat} {a : Value} (u : Value) (h : w.cell? ⟨g, i, none⟩ = some a) : (w.setCell ⟨g, i, none⟩ u).cell? ⟨g, i, none⟩ = some u :=
  World.cell?_setCell_same _ _ _ h
theorem Four.set {w : World} {g : Nat} {a b c d : Value} (h : Four w g a b c d) (x y z u : Value) :
    Four ((((w.setCell ⟨g, 0, none⟩ x).setCell ⟨g, 1, none⟩ y).setCell ⟨g, 2, none⟩ z).setCell ⟨g, 3, none⟩ u) g x y z u := by
  obtain ⟨⟨h0, h1, h2, h3, h4⟩, h5, h6, h7, h8⟩ := h
  refine ⟨⟨?_, ?_, by simp [h2], by simp [h3], by simp [h4]⟩, ?_, ?_, by simp [h7], by simp [h8]⟩
  · rw [far4 (by decide), far4 (by decide), far4 (by decide)]; exact near4 _ h0
  · rw [far4 (by decide), far4 (by decide)]; exact near4 _ ((far4 (by decide) _).trans h1)
  · rw [far4 (by decide)]; exact near4 _ ((far4 (by decide) _).trans ((far4 (by decide) _).trans h5))
  · exact near4 _ ((far4 (by decide) _).trans ((far4 (by decide) _).trans ((far4 (by decide) _).trans h6)))
theorem Four.out {w : World} {g : Nat} {a b c d : Value} (h : Four w g a b c d) : w.cell? ⟨g, 0, none⟩ = some a ∧ w.cell? ⟨g, 1, none⟩ = some b ∧ w.cell? ⟨g, 2, none⟩ = some c ∧ w.cell? ⟨g, 3, none⟩ = some d := ⟨h.1.1, h.1.2.1, h.2.1, h.2.2.1⟩

end Go.Proofs.YtfokiokcofabcaaDoor
