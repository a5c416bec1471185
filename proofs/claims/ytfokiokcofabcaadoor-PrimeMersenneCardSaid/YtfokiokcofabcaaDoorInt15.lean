/-
  Contracts of package integer: Extended.
-/
import Derived.Test.YtfokiokcofabcaaDoorInt14
import Derived.Deep.LoopGhost
namespace Go.Proofs.YtfokiokcofabcaaDoor
open Go.RowKit
set_option linter.unusedVariables false

/-- What Extended's variables hold ahead of each round. -/
def ExtR (a b : Nat) (w : World) (n gX gY r1 : Nat) (wr : World) : Prop :=
  ∃ (r0 X0 X1 Y0 Y1 : Nat) (σ : Bool), Inv a b r0 r1 σ X0 X1 Y0 Y1 ∧ r0 < Lim ∧ r1 < Lim ∧
    Two wr (n + 1 + 1) (.string (E r0)) (.string (E r1)) ∧
    Four wr gX (.bool (ZG (sg σ X0))) (.string (ZS (sg σ X0))) (.bool (ZG (sg (!σ) X1))) (.string (ZS (sg (!σ) X1))) ∧
    Four wr gY (.bool (ZG (sg (!σ) Y0))) (.string (ZS (sg (!σ) Y0))) (.bool (ZG (sg σ Y1))) (.string (ZS (sg σ Y1))) ∧
    Two wr n (.bool false) (.string ⟨#[]⟩) ∧ Two wr (n + 1) (.bool false) (.string ⟨#[]⟩) ∧ Below n w wr ∧ n + 1 + 1 < gX ∧ gX < gY
theorem Four.setAll {w : World} {g : Nat} {a b c d : Value} (h : Four w g a b c d) (x y z u : Value) :
    Four ((((w.setCell ⟨g, 0, none⟩ x).setCell ⟨g, 1, none⟩ y).setCell ⟨g, 2, none⟩ z).setCell ⟨g, 3, none⟩ u) g x y z u := h.set x y z u
theorem Two.set4_ne {w : World} {g : Nat} {a b : Value} (h : Two w g a b) (p : Nat) (x y z u : Value) (hn : p ≠ g) :
    Two ((((w.setCell ⟨p, 0, none⟩ x).setCell ⟨p, 1, none⟩ y).setCell ⟨p, 2, none⟩ z).setCell ⟨p, 3, none⟩ u) g a b := by
  obtain ⟨h0, h1, h2, h3, h4⟩ := h
  refine ⟨?_, ?_, by simp [h2], by simp [h3], by simp [h4]⟩
  · rw [World.cell?_setCell_other _ _ _ _ (addr_ne hn), World.cell?_setCell_other _ _ _ _ (addr_ne hn), World.cell?_setCell_other _ _ _ _ (addr_ne hn), World.cell?_setCell_other _ _ _ _ (addr_ne hn)]; exact h0
  · rw [World.cell?_setCell_other _ _ _ _ (addr_ne hn), World.cell?_setCell_other _ _ _ _ (addr_ne hn), World.cell?_setCell_other _ _ _ _ (addr_ne hn), World.cell?_setCell_other _ _ _ _ (addr_ne hn)]; exact h1
theorem Four.set4_ne {w : World} {g : Nat} {a b c d : Value} (h : Four w g a b c d) (p : Nat) (x y z u : Value) (hn : p ≠ g) :
    Four ((((w.setCell ⟨p, 0, none⟩ x).setCell ⟨p, 1, none⟩ y).setCell ⟨p, 2, none⟩ z).setCell ⟨p, 3, none⟩ u) g a b c d := by
  obtain ⟨h0, h1, h2, h3, h4⟩ := h
  refine ⟨h0.set4_ne p x y z u hn, ?_, ?_, by simp [h3], by simp [h4]⟩
  · rw [World.cell?_setCell_other _ _ _ _ (addr_ne hn), World.cell?_setCell_other _ _ _ _ (addr_ne hn), World.cell?_setCell_other _ _ _ _ (addr_ne hn), World.cell?_setCell_other _ _ _ _ (addr_ne hn)]; exact h1
  · rw [World.cell?_setCell_other _ _ _ _ (addr_ne hn), World.cell?_setCell_other _ _ _ _ (addr_ne hn), World.cell?_setCell_other _ _ _ _ (addr_ne hn), World.cell?_setCell_other _ _ _ _ (addr_ne hn)]; exact h2
theorem Four.set01 {w : World} {g : Nat} {a b c d : Value} (h : Four w g a b c d) (x y : Value) :
    Four ((w.setCell ⟨g, 0, none⟩ x).setCell ⟨g, 1, none⟩ y) g x y c d := by
  obtain ⟨h0, h5, h6, h7, h8⟩ := h
  refine ⟨h0.set x y, ?_, ?_, by simp [h7], by simp [h8]⟩
  · rw [far4 (by decide), far4 (by decide)]; exact h5
  · rw [far4 (by decide), far4 (by decide)]; exact h6
theorem bset4 {w a : World} {B g : Nat} {x y z u : Value} (h : Below B w a) (hB : B ≤ g) :
    Below B w ((((a.setCell ⟨g, 0, none⟩ x).setCell ⟨g, 1, none⟩ y).setCell ⟨g, 2, none⟩ z).setCell ⟨g, 3, none⟩ u) :=
  (((h.setCell (p := ⟨g, 0, none⟩) hB _).setCell (p := ⟨g, 1, none⟩) hB _).setCell (p := ⟨g, 2, none⟩) hB _).setCell (p := ⟨g, 3, none⟩) hB _

theorem bounds4 {a b r0 r1 X0 X1 Y0 Y1 : Nat} {σ : Bool} (h : Inv a b r0 r1 σ X0 X1 Y0 Y1) : X0 < Lim ∧ X1 < Lim ∧ Y0 < Lim ∧ Y1 < Lim := h.2.2.2.2.2.2
theorem mul_sg_lim (q : Nat) (g : Bool) {n m : Nat} (h : m + q * n < Lim) : ((q : Int) * sg g n).natAbs < Lim := by
  rw [Int.natAbs_mul, sg_natAbs, Int.natAbs_natCast]; omega
end Go.Proofs.YtfokiokcofabcaaDoor
