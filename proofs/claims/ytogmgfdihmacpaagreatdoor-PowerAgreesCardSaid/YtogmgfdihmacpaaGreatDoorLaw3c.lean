/-
  Layer 3's statements: the struct Numbers; Adds.
-/
import Derived.Test.YtogmgfdihmacpaaGreatDoorMD
import Derived.Test.YtogmgfdihmacpaaGreatDoorRA
import Derived.OpenShut
namespace Go.Proofs.YtogmgfdihmacpaaGreatDoor
open Go.RowKit
set_option linter.unusedVariables false

/-- The five cells of a variable of the struct Numbers. -/
def Num5 (w : World) (p : Nat) (a b : ByteArray) (g : Bool) (e m : ByteArray) : Prop :=
  w.cell? ⟨p, 0, none⟩ = some (.string a) ∧ w.cell? ⟨p, 1, none⟩ = some (.string b) ∧ w.cell? ⟨p, 2, none⟩ = some (.bool g) ∧ w.cell? ⟨p, 3, none⟩ = some (.string e) ∧ w.cell? ⟨p, 4, none⟩ = some (.string m) ∧ p < w.heap.size
theorem Num5.new (w : World) (a b : ByteArray) (g : Bool) (e m : ByteArray) (t : TypeId) : Num5 (w.alloc (.cells #[.string a, .string b, .bool g, .string e, .string m] t)) w.heap.size a b g e m := by
  have hr : (w.alloc (.cells #[.string a, .string b, .bool g, .string e, .string m] t)).rowIs w.heap.size t 5 (fun i => (#[.string a, .string b, .bool g, .string e, .string m] : Array Value)[i]?.getD (.bool false)) :=
    World.rowIs_alloc w _ _ _ (fun i hi => by simp at hi ⊢; simp [hi])
  exact ⟨hr.cell (by omega), hr.cell (by omega), hr.cell (by omega), hr.cell (by omega), hr.cell (by omega), by simp⟩
theorem Num5.below {w w' : World} {p : Nat} {a b e m : ByteArray} {g : Bool} (h : Num5 w p a b g e m) (hb : Below w.heap.size w w') : Num5 w' p a b g e m := by
  obtain ⟨h0, h1, h2, h3, h4, h5⟩ := h
  exact ⟨(hb.cell (p := ⟨p, 0, none⟩) h5).trans h0, (hb.cell (p := ⟨p, 1, none⟩) h5).trans h1, (hb.cell (p := ⟨p, 2, none⟩) h5).trans h2, (hb.cell (p := ⟨p, 3, none⟩) h5).trans h3, (hb.cell (p := ⟨p, 4, none⟩) h5).trans h4, Nat.lt_of_lt_of_le h5 hb.size⟩

/-- Whether the numbers are short. -/
def Few3 (a b e m : ByteArray) : Prop := a.size ≤ 24 ∧ b.size ≤ 24 ∧ e.size ≤ 16 ∧ m.size ≤ 8
end Go.Proofs.YtogmgfdihmacpaaGreatDoor
