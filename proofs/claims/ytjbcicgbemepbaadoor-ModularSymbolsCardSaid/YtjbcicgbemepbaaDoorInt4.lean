/-
  Integers as values: the integer of a sign and a magnitude; Valid, signed and Make once more in these words.
-/
import Derived.Test.YtjbcicgbemepbaaDoorInt2
namespace Go.Proofs.YtjbcicgbemepbaaDoor
open Go.RowKit
set_option linter.unusedVariables false

/-- The integer of a sign and a number. -/
def sg (g : Bool) (n : Nat) : Int := if g = true then -(n : Int) else (n : Int)
/-- The sign and the magnitude of an integer. -/
def ZG (z : Int) : Bool := decide (z < 0)
def ZS (z : Int) : ByteArray := E z.natAbs
/-- The value of an integer. -/
def Z (z : Int) : Value := .agg #[.bool (ZG z), .string (ZS z)]
/-- A valid pair. -/
def IVal (g : Bool) (s : ByteArray) : Prop := Can s ∧ (g = true → s.size ≠ 0)
/-- The integer of a pair. -/
def IZ (g : Bool) (s : ByteArray) : Int := sg g (V s)
/-- An integer, or ErrLong. -/
def zokN (z : Int) : Value := if z.natAbs < Lim then .tuple #[Z z, .int .i64 0] else .tuple #[Z 0, .int .i64 5]

theorem sg_t (n : Nat) : sg true n = -(n : Int) := rfl
theorem sg_f (n : Nat) : sg false n = (n : Int) := rfl
theorem sg_natAbs (g : Bool) (n : Nat) : (sg g n).natAbs = n := by cases g <;> simp [sg]
theorem zokN_yes {z : Int} (h : z.natAbs < Lim) : zokN z = .tuple #[Z z, .int .i64 0] := by unfold zokN; rw [if_pos h]
theorem zokN_no {z : Int} (h : ¬ z.natAbs < Lim) : zokN z = .tuple #[Z 0, .int .i64 5] := by unfold zokN; rw [if_neg h]
theorem Z_zero : Z 0 = .agg #[.bool false, .string ⟨#[]⟩] := by
  show Value.agg #[.bool false, .string (E 0)] = _
  rw [show E 0 = ⟨#[]⟩ from rfl]
theorem E_empty {n : Nat} : (E n).toList.isEmpty = decide (n = 0) := by
  by_cases h : n = 0
  · subst h; rw [empty_of (by rfl)]; rfl
  · rw [not_empty_of]
    · simp [h]
    · rw [size_eq, E_data]
      intro q
      exact h ((enc_nil_iff n).1 (List.eq_nil_of_length_eq_zero q))
theorem Z_sg (g : Bool) (n : Nat) : (.agg #[.bool (g && !(E n).toList.isEmpty), .string (E n)] : Value) = Z (sg g n) := by
  unfold Z ZS
  rw [sg_natAbs, E_empty]
  have : (g && !decide (n = 0)) = ZG (sg g n) := by
    unfold ZG
    cases g
    · simp [sg]
    · rw [sg_t]; by_cases h : n = 0
      · subst h; rfl
      · have : (-(n : Int) < 0) := by omega
        simp [h]; omega
  rw [this]
theorem size_zero {s : ByteArray} (h : Can s) : s.size = 0 ↔ V s = 0 := by
  constructor
  · intro q
    have := V_lt s
    rw [q] at this; omega
  · intro q
    have := E_V h
    rw [q] at this
    rw [← this]; rfl
theorem Z_IZ {g : Bool} {s : ByteArray} (h : IVal g s) : (.agg #[.bool g, .string s] : Value) = Z (IZ g s) := by
  unfold IZ
  rw [← Z_sg, E_V h.1]
  cases g
  · simp
  · rw [not_empty_of (h.2 rfl)]; rfl
theorem ival_Z (z : Int) (h : z.natAbs < Lim) : IVal (ZG z) (ZS z) := by
  refine ⟨can_E' h, ?_⟩
  intro q
  unfold ZG at q
  have q := of_decide_eq_true q
  intro q2
  have := (size_zero (can_E' h)).1 q2
  rw [V_E] at this; omega
theorem IZ_Z (z : Int) : IZ (ZG z) (ZS z) = z := by
  unfold IZ ZS ZG
  rw [V_E]
  by_cases h : z < 0
  · simp [h, sg]; omega
  · simp [h, sg]; omega
theorem IZ_lim {g : Bool} {s : ByteArray} (h : IVal g s) : (IZ g s).natAbs < Lim := by
  unfold IZ; rw [sg_natAbs]; exact V_lim h.1
theorem Z_code (z : Int) : ∃ (g : Bool) (s : ByteArray), Z z = .agg #[.bool g, .string s] := ⟨_, _, rfl⟩
theorem zokN_code (z : Int) : ∃ (g : Bool) (s : ByteArray) (v : Nat), zokN z = .tuple #[.agg #[.bool g, .string s], .int .i64 v] ∧ v ≤ 100 := by
  unfold zokN; split
  · exact ⟨_, _, 0, rfl, by omega⟩
  · exact ⟨_, _, 5, rfl, by omega⟩

theorem ivalid_t (g : Bool) (s : ByteArray) (w : World) (h : IVal g s) :
    Calls Tryd.prog 61 #[.agg #[.bool g, .string s]] w fun e w' => e = .returned (.bool true) ∧ Below w.heap.size w w' := by
  by_cases h0 : s.size = 0
  · have := ivalid_zero g s w h.1 h0
    cases g
    · exact this
    · exact absurd h0 (h.2 rfl)
  · exact ivalid_yes g s w h.1 h0
theorem ivalid_f (g : Bool) (s : ByteArray) (w : World) (h : ¬ IVal g s) :
    Calls Tryd.prog 61 #[.agg #[.bool g, .string s]] w fun e w' => e = .returned (.bool false) ∧ Below w.heap.size w w' := by
  by_cases hc : Can s
  · by_cases h0 : s.size = 0
    · have := ivalid_zero g s w hc h0
      cases g
      · exact absurd ⟨hc, fun q => by cases q⟩ h
      · exact this
    · exact absurd ⟨hc, fun _ => h0⟩ h
  · exact ivalid_no g s w hc
theorem signed_n (g : Bool) (n : Nat) (w : World) :
    Calls Tryd.prog 62 #[.bool g, .string (E n)] w fun e w' => e = .returned (Z (sg g n)) ∧ Below w.heap.size w w' := by
  rw [← Z_sg]; exact signed_any g (E n) w
theorem signed_s (g : Bool) (s : ByteArray) (w : World) (h : Can s) :
    Calls Tryd.prog 62 #[.bool g, .string s] w fun e w' => e = .returned (Z (sg g (V s))) ∧ Below w.heap.size w w' := by
  have := signed_n g (V s) w
  rwa [E_V h] at this
theorem from_z (s : ByteArray) (w : World) (h : Can s) :
    Calls Tryd.prog 59 #[.string s] w fun e w' => e = .returned (Z (V s : Nat)) ∧ Below w.heap.size w w' := by
  have := from_yes s w h
  rwa [Z_IZ (g := false) ⟨h, fun q => by cases q⟩] at this
theorem from_0 (s : ByteArray) (w : World) (h : ¬ Can s) :
    Calls Tryd.prog 59 #[.string s] w fun e w' => e = .returned (Z 0) ∧ Below w.heap.size w w' := by
  have := from_no s w h
  rwa [← Z_zero] at this
end Go.Proofs.YtjbcicgbemepbaaDoor
