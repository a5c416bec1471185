/-
  The reference of package coins, the first part: SameNats, Same.
-/
import Derived.Test.YtehbbghobagkjaaDoorCoi7
namespace Go.Proofs.YtehbbghobagkjaaDoor
open Go.RowKit Go.Deep
set_option linter.unusedVariables false

theorem SV.cell {w wr : World} {p : Option Addr} {k cap : Nat} {f : Nat → ByteArray} (h : SV w (.slice p k cap) k f) (b : Below w.heap.size w wr) {i : Nat} (hi : i < k) : ∃ a, p = some a ∧ wr.cell? (a.add i) = some (.string (f i)) := by
  obtain ⟨q, c, e, hc⟩ := h.below b
  obtain ⟨rfl, rfl⟩ : p = q ∧ cap = c := by cases e; exact ⟨rfl, rfl⟩
  obtain ⟨a, e1, -, e3⟩ := hc i hi
  exact ⟨a, e1, e3⟩
theorem bel_drewq {B : Nat} {a w : World} (h : Below B a w) (n : Nat) : Below B a (w.drewN n) := ⟨h.os, h.tape, h.output, h.size, h.block⟩
theorem beq_no {s t : ByteArray} (h : ¬ s = t) : (s.toList == t.toList) = false := by
  rw [beq_eq_false_iff_ne]
  intro q
  rw [ByteArray.toList_eq, ByteArray.toList_eq] at q
  exact h (ByteArray.ext (Array.toList_inj.1 q))
/-- Equal lists. -/
def EqN (k1 k2 : Nat) (f1 f2 : Nat → ByteArray) : Prop := k1 = k2 ∧ ∀ j, j < k1 → f1 j = f2 j
def IffP (b : Bool) (P : Prop) : Prop := b = true ↔ P
def EqP (P : Prop) (w : World) (e : Ending) (w' : World) : Prop := (∃ b : Bool, e = .returned (.bool b) ∧ IffP b P) ∧ Below w.heap.size w w'
def SnR (w : World) (k : Nat) (f1 f2 : Nat → ByteArray) (v : Value) (wr : World) : Prop := ∃ i : Nat, i ≤ k ∧ v = .int .i64 i ∧ Hid (∀ j, j < i → f1 j = f2 j) ∧ Hid (Below w.heap.size w wr)
set_option maxHeartbeats 2000000 in
set_option maxRecDepth 20000 in
theorem sameNats_any (v1 v2 : Value) (k1 k2 : Nat) (f1 f2 : Nat → ByteArray) (w : World) (h1 : SV w v1 k1 f1) (h2 : SV w v2 k2 f2) (hk1 : k1 ≤ 9223372036854775807) (hk2 : k2 ≤ 9223372036854775807) :
    Calls Tryd.prog 20 #[v1, v2] w fun e w' => EqP (EqN k1 k2 f1 f2) w e w' := by
  have HV1 := Lib.hid h1
  have HV2 := Lib.hid h2
  obtain ⟨p1, cap1, rfl, -⟩ := h1
  obtain ⟨p2, cap2, rfl, -⟩ := h2
  by_cases hk : k1 = k2
  · subst hk
    go_enter Tryd.func20, Tryd.ntmps20
    go_wp2
    go_loopw [5] (fun v wr => SnR w k1 f1 f2 v wr) (fun v _ => k1 - (intOf v).toNat)
    case atStart => exact ⟨0, by omega, rfl, (fun j hj => absurd hj (by omega)), Below.refl _ _⟩
    case round =>
      obtain ⟨i, hi, rfl, HI, HB⟩ := hrel
      by_cases hlt : i < k1
      · obtain ⟨a1, rfl, hc1⟩ := HV1.out.cell HB.out hlt
        obtain ⟨a2, rfl, hc2⟩ := HV2.out.cell HB.out hlt
        have hlti : (i : Int) < (k1 : Int) := by omega
        by_cases he : f1 i = f2 i
        · have HN := Lib.hid (all_upto (P := fun j => f1 j = f2 j) HI.out he)
          rw [← he] at hc2
          go_wp2
          go_quiet (fail)
          go_wp2
          go_roundw
          case rel => exact ⟨i + 1, by omega, by go_num, HN.out, bel_drewq HB.out _⟩
          case measure => simp [intOf]; omega
        · have HR := Lib.hid (show IffP false (EqN k1 k1 f1 f2) from ⟨(fun q => by cases q), fun q => absurd (q.2 i hlt) he⟩)
          have hb := beq_no he
          go_wp2
          go_quiet (fail)
          go_wp2
          go_ret
          exact ⟨⟨false, rfl, HR.out⟩, bel_drewq HB.out _⟩
      · obtain rfl : i = k1 := by omega
        have HR := Lib.hid (show IffP true (EqN i i f1 f2) from ⟨fun _ => ⟨rfl, HI.out⟩, fun _ => rfl⟩)
        go_wp2
        go_ret
        exact ⟨⟨true, rfl, HR.out⟩, HB.out⟩
  · have HR := Lib.hid (show IffP false (EqN k1 k2 f1 f2) from ⟨(fun q => by cases q), fun q => absurd q.1 hk⟩)
    have hki : ¬ (k1 : Int) = (k2 : Int) := by omega
    go_enter Tryd.func20, Tryd.ntmps20
    go_wp2
    go_ret
    exact ⟨⟨false, rfl, HR.out⟩, Below.refl _ _⟩
end Go.Proofs.YtehbbghobagkjaaDoor
