/-
  Tapes in memory: variables of three cells, slices of strings that lie anywhere.
-/
import Derived.Test.YtogmgfdihmacpaaGreatDoorAwake1
import Derived.SliceStrings
import Derived.RangeFuncOwn
namespace Go.Proofs.YtogmgfdihmacpaaGreatDoor
open Go.RowKit
set_option linter.unusedVariables false

/-- Three cells of a variable. -/
def Three (w : World) (g : Nat) (c0 c1 c2 : Value) : Prop :=
  w.cell? ⟨g, 0, none⟩ = some c0 ∧ w.cell? ⟨g, 1, none⟩ = some c1 ∧ w.cell? ⟨g, 2, none⟩ = some c2 ∧ w.frozen? ⟨g, 0, none⟩ = false ∧ w.frozen? ⟨g, 1, none⟩ = false ∧ w.frozen? ⟨g, 2, none⟩ = false ∧ g < w.heap.size
theorem Three.new (w : World) (c0 c1 c2 : Value) (t : TypeId) (g : Nat) (hg : g = w.heap.size) : Three (w.alloc (.cells #[c0, c1, c2] t)) g c0 c1 c2 := by
  subst hg
  refine ⟨?_, ?_, ?_, ?_, ?_, ?_, ?_⟩
  · rw [World.cell?_alloc_new]; rfl
  · rw [World.cell?_alloc_new]; rfl
  · rw [World.cell?_alloc_new]; rfl
  · simp
  · simp
  · simp
  · simp
theorem Three.below {w w' : World} {B g : Nat} {c0 c1 c2 : Value} (h : Three w g c0 c1 c2) (b : Below B w w') (hB : B = w.heap.size) : Three w' g c0 c1 c2 := by
  subst hB
  obtain ⟨h0, h1, h2, h3, h4, h5, h6⟩ := h
  refine ⟨?_, ?_, ?_, ?_, ?_, ?_, ?_⟩
  · rw [b.cell (p := ⟨g, 0, none⟩) h6, h0]
  · rw [b.cell (p := ⟨g, 1, none⟩) h6, h1]
  · rw [b.cell (p := ⟨g, 2, none⟩) h6, h2]
  · rw [b.frozen (p := ⟨g, 0, none⟩) h6, h3]
  · rw [b.frozen (p := ⟨g, 1, none⟩) h6, h4]
  · rw [b.frozen (p := ⟨g, 2, none⟩) h6, h5]
  · exact Nat.lt_of_lt_of_le h6 b.size
theorem Three.alloc {w : World} {g : Nat} {c0 c1 c2 : Value} (h : Three w g c0 c1 c2) (o : Obj) : Three (w.alloc o) g c0 c1 c2 :=
  h.below ((Below.refl _ _).alloc (Nat.le_refl _) _) rfl
theorem Three.draw {w : World} {g : Nat} {c0 c1 c2 : Value} (h : Three w g c0 c1 c2) (q : Nat) : Three (w.drewN q) g c0 c1 c2 := h
theorem add_blk (a : Addr) (i : Nat) : (a.add i).block = a.block := by unfold Addr.add; split <;> rfl
/-- The slice v holds the strings f 0 .. f (k - 1), wherever it begins. -/
def SV (w : World) (v : Value) (k : Nat) (f : Nat → ByteArray) : Prop :=
  ∃ (p : Option Addr) (cap : Nat), v = .slice p k cap ∧ ∀ j, j < k → ∃ a, p = some a ∧ a.block < w.heap.size ∧ w.cell? (a.add j) = some (.string (f j))
theorem SV.below {w w' : World} {v : Value} {k : Nat} {f : Nat → ByteArray} (h : SV w v k f) (b : Below w.heap.size w w') : SV w' v k f := by
  obtain ⟨p, cap, e, hc⟩ := h
  refine ⟨p, cap, e, fun j hj => ?_⟩
  obtain ⟨a, e1, e2, e3⟩ := hc j hj
  exact ⟨a, e1, Nat.lt_of_lt_of_le e2 b.size, (b.cell (p := a.add j) (by rw [add_blk]; exact e2)).trans e3⟩
theorem SV.nil (w : World) (f : Nat → ByteArray) : SV w (.slice none 0 0) 0 f := ⟨none, 0, rfl, fun j hj => absurd hj (by omega)⟩
/-- A slice of strings that came in, opened. -/
theorem sv_open {H : Type} {enc : TypeId × Value → H} {P : Program} {w : World} {base : Nat} {spare : Nat → Bool} {held : Bool} {t e : TypeId} {fuel : Nat} {v : Value} {x : DataW H × List MemPlace}
    (ht : P.underlying t = some (.slice e)) (he : P.underlying e = some .string) (hc : P.cellsOf e = 1) (h : DataW.trod enc P w base spare held fuel t [v] = some x) :
    ∃ (k : Nat) (f : Nat → ByteArray), SV w v k f ∧ k ≤ maxLen ∧ ∀ j, j < k → (f j).size ≤ maxLen := by
  rcases ChangeShapes.open_strings ht he hc h with ⟨hcs, hx⟩ | ⟨a, len, cap, ss, hcs, hb, hl, hm, hz, hx, hcell, hsz⟩
  · cases hcs
    exact ⟨0, fun _ => ⟨#[]⟩, SV.nil _ _, Nat.zero_le _, fun j hj => absurd hj (by omega)⟩
  · cases hcs
    have hlen : len ≤ ss.length := by rw [hz]; split <;> omega
    refine ⟨len, fun i => ss.getD i ByteArray.empty, ⟨some a, cap, rfl, fun j hj => ⟨a, rfl, ?_, hcell j (by omega)⟩⟩, by omega, fun j hj => hsz _ ?_⟩
    · obtain ⟨o, ho, -⟩ := cells_of_cell (hcell j (by omega))
      rw [← add_blk a j]; exact (Array.getElem?_eq_some_iff.1 ho).1
    · have hj2 : j < ss.length := by omega
      show ss.getD j ByteArray.empty ∈ ss
      rw [List.getD_eq_getElem?_getD, List.getElem?_eq_getElem hj2, Option.getD_some]
      exact List.getElem_mem hj2
/-- What a tape says. -/
structure TapeN where
  k : Nat
  f : Nat → ByteArray
  seed : ByteArray
  at_ : Int
/-- Well-formed. -/
def TapeN.Ok (t : TapeN) : Prop := (∀ j, j < t.k → Can (t.f j)) ∧ 0 ≤ t.at_ ∧ t.at_ ≤ 2147483647
end Go.Proofs.YtogmgfdihmacpaaGreatDoor
