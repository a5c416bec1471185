/-
  Several parts in one text (IA).
-/
import Derived.Test.YtogmgfdihmacpaaGreatDoorRef3
/-
  Contracts of package integer, the first part: Valid, signed.
-/
namespace Go.Proofs.YtogmgfdihmacpaaGreatDoor
open Go.RowKit
set_option linter.unusedVariables false

/-- An integer's value. -/
def IV (g : Bool) (s : ByteArray) : Value := .agg #[.bool g, .string s]

set_option maxHeartbeats 400000 in
theorem ivalid_no (g : Bool) (s : ByteArray) (w : World) (h : ¬ Can s) :
    Calls Tryz.prog 31 #[.agg #[.bool g, .string s]] w fun e w' => e = .returned (.bool false) ∧ Below w.heap.size w w' := by
  have HC := Lib.hid h; clear h
  go_enter Tryz.func31, Tryz.ntmps31
  go_wp2_with fail
  refine (valid_no s _ HC.out).mono ?_; rintro e w' ⟨rfl, rfl⟩
  go_wp2
  go_ret
  exact ⟨rfl, (Below.refl _ _).alloc (Nat.le_refl _) _⟩
set_option maxHeartbeats 400000 in
theorem ivalid_zero (g : Bool) (s : ByteArray) (w : World) (h : Can s) (h0 : s.size = 0) :
    Calls Tryz.prog 31 #[.agg #[.bool g, .string s]] w fun e w' => e = .returned (.bool (!g)) ∧ Below w.heap.size w w' := by
  have hE := empty_of h0
  have HC := Lib.hid h; clear h h0
  cases g
  · go_enter Tryz.func31, Tryz.ntmps31
    go_wp2_with fail
    refine (valid_yes s _ HC.out).mono ?_; rintro e w' ⟨rfl, rfl⟩
    go_wp2
    go_ret
    exact ⟨rfl, (Below.refl _ _).alloc (Nat.le_refl _) _⟩
  · go_enter Tryz.func31, Tryz.ntmps31
    go_wp2_with fail
    refine (valid_yes s _ HC.out).mono ?_; rintro e w' ⟨rfl, rfl⟩
    go_wp2
    go_ret
    exact ⟨rfl, (Below.refl _ _).alloc (Nat.le_refl _) _⟩
set_option maxHeartbeats 400000 in
theorem ivalid_yes (g : Bool) (s : ByteArray) (w : World) (h : Can s) (h0 : s.size ≠ 0) :
    Calls Tryz.prog 31 #[.agg #[.bool g, .string s]] w fun e w' => e = .returned (.bool true) ∧ Below w.heap.size w w' := by
  have hE := not_empty_of h0
  have HC := Lib.hid h; clear h h0
  cases g
  · go_enter Tryz.func31, Tryz.ntmps31
    go_wp2_with fail
    refine (valid_yes s _ HC.out).mono ?_; rintro e w' ⟨rfl, rfl⟩
    go_wp2
    go_ret
    exact ⟨rfl, (Below.refl _ _).alloc (Nat.le_refl _) _⟩
  · go_enter Tryz.func31, Tryz.ntmps31
    go_wp2_with fail
    refine (valid_yes s _ HC.out).mono ?_; rintro e w' ⟨rfl, rfl⟩
    go_wp2
    go_ret
    exact ⟨rfl, (Below.refl _ _).alloc (Nat.le_refl _) _⟩
set_option maxHeartbeats 400000 in
theorem signed_any (g : Bool) (s : ByteArray) (w : World) :
    Calls Tryz.prog 60 #[.bool g, .string s] w fun e w' => e = .returned (.agg #[.bool (g && !s.toList.isEmpty), .string s]) ∧ Below w.heap.size w w' := by
  cases g
  · go_enter Tryz.func60, Tryz.ntmps60
    go_wp2
    refine bodyPost_ret (v := .agg #[.bool (false && !s.toList.isEmpty), .string s]) (by simp [results, Tryz.results60, go_sem]) rfl ⟨rfl, ?_⟩
    exact (Below.refl _ _).alloc (Nat.le_refl _) _
  · by_cases h0 : s.size = 0
    · have hE := empty_of h0
      rw [hE]
      go_enter Tryz.func60, Tryz.ntmps60
      go_wp2
      refine bodyPost_ret (v := .agg #[.bool false, .string s]) (by simp [results, Tryz.results60, go_sem]) rfl ⟨rfl, ?_⟩
      exact (Below.refl _ _).alloc (Nat.le_refl _) _
    · have hE := not_empty_of h0
      rw [hE]
      go_enter Tryz.func60, Tryz.ntmps60
      go_wp2
      refine bodyPost_ret (v := .agg #[.bool true, .string s]) (by simp [results, Tryz.results60, go_sem]) rfl ⟨rfl, ?_⟩
      exact (Below.refl _ _).alloc (Nat.le_refl _) _
end Go.Proofs.YtogmgfdihmacpaaGreatDoor


/-
  Contracts of package integer and of its reference, the second part: the reference's Valid and Make; From.
-/
namespace Go.Proofs.YtogmgfdihmacpaaGreatDoor
open Go.RowKit
set_option linter.unusedVariables false

set_option maxHeartbeats 400000 in
theorem rivalid_no (g : Bool) (s : ByteArray) (w : World) (h : ¬ Can s) :
    Calls Tryz.prog 49 #[.agg #[.bool g, .string s]] w fun e w' => e = .returned (.bool false) ∧ Below w.heap.size w w' := by
  have HC := Lib.hid h; clear h
  go_enter Tryz.func49, Tryz.ntmps49
  go_wp2_with fail
  refine (rvalid_no s _ HC.out).mono ?_; rintro e w' ⟨rfl, rfl⟩
  go_wp2
  go_ret
  exact ⟨rfl, (Below.refl _ _).alloc (Nat.le_refl _) _⟩
set_option maxHeartbeats 400000 in
theorem rivalid_zero (g : Bool) (s : ByteArray) (w : World) (h : Can s) (h0 : s.size = 0) :
    Calls Tryz.prog 49 #[.agg #[.bool g, .string s]] w fun e w' => e = .returned (.bool (!g)) ∧ Below w.heap.size w w' := by
  have hE := empty_of h0
  have HC := Lib.hid h; clear h h0
  cases g
  · go_enter Tryz.func49, Tryz.ntmps49
    go_wp2_with fail
    refine (rvalid_yes s _ HC.out).mono ?_; rintro e w' ⟨rfl, rfl⟩
    go_wp2
    go_ret
    exact ⟨rfl, (Below.refl _ _).alloc (Nat.le_refl _) _⟩
  · go_enter Tryz.func49, Tryz.ntmps49
    go_wp2_with fail
    refine (rvalid_yes s _ HC.out).mono ?_; rintro e w' ⟨rfl, rfl⟩
    go_wp2
    go_ret
    exact ⟨rfl, (Below.refl _ _).alloc (Nat.le_refl _) _⟩
set_option maxHeartbeats 400000 in
theorem rivalid_yes (g : Bool) (s : ByteArray) (w : World) (h : Can s) (h0 : s.size ≠ 0) :
    Calls Tryz.prog 49 #[.agg #[.bool g, .string s]] w fun e w' => e = .returned (.bool true) ∧ Below w.heap.size w w' := by
  have hE := not_empty_of h0
  have HC := Lib.hid h; clear h h0
  cases g
  · go_enter Tryz.func49, Tryz.ntmps49
    go_wp2_with fail
    refine (rvalid_yes s _ HC.out).mono ?_; rintro e w' ⟨rfl, rfl⟩
    go_wp2
    go_ret
    exact ⟨rfl, (Below.refl _ _).alloc (Nat.le_refl _) _⟩
  · go_enter Tryz.func49, Tryz.ntmps49
    go_wp2_with fail
    refine (rvalid_yes s _ HC.out).mono ?_; rintro e w' ⟨rfl, rfl⟩
    go_wp2
    go_ret
    exact ⟨rfl, (Below.refl _ _).alloc (Nat.le_refl _) _⟩
set_option maxHeartbeats 400000 in
theorem make_any (g : Bool) (s : ByteArray) (w : World) :
    Calls Tryz.prog 159 #[.bool g, .string s] w fun e w' => e = .returned (.agg #[.bool (g && !s.toList.isEmpty), .string s]) ∧ Below w.heap.size w w' := by
  cases g
  · go_enter Tryz.func159, Tryz.ntmps159
    go_wp2
    refine bodyPost_ret (v := .agg #[.bool (false && !s.toList.isEmpty), .string s]) (by simp [results, Tryz.results159, go_sem]) rfl ⟨rfl, ?_⟩
    exact (Below.refl _ _).alloc (Nat.le_refl _) _
  · by_cases h0 : s.size = 0
    · have hE := empty_of h0
      rw [hE]
      go_enter Tryz.func159, Tryz.ntmps159
      go_wp2
      refine bodyPost_ret (v := .agg #[.bool false, .string s]) (by simp [results, Tryz.results159, go_sem]) rfl ⟨rfl, ?_⟩
      exact (Below.refl _ _).alloc (Nat.le_refl _) _
    · have hE := not_empty_of h0
      rw [hE]
      go_enter Tryz.func159, Tryz.ntmps159
      go_wp2
      refine bodyPost_ret (v := .agg #[.bool true, .string s]) (by simp [results, Tryz.results159, go_sem]) rfl ⟨rfl, ?_⟩
      exact (Below.refl _ _).alloc (Nat.le_refl _) _

set_option maxHeartbeats 400000 in
theorem from_yes (s : ByteArray) (w : World) (h : Can s) :
    Calls Tryz.prog 35 #[.string s] w fun e w' => e = .returned (.agg #[.bool false, .string s]) ∧ Below w.heap.size w w' := by
  have HC := Lib.hid h; clear h
  go_enter Tryz.func35, Tryz.ntmps35
  go_wp2_with fail
  refine (valid_yes s _ HC.out).mono ?_; rintro e w' ⟨rfl, rfl⟩
  go_wp2
  refine bodyPost_ret (v := .agg #[.bool false, .string s]) (by simp [results, Tryz.results35, go_sem]) rfl ⟨rfl, ?_⟩
  exact (Below.refl _ _).alloc (Nat.le_refl _) _
set_option maxHeartbeats 400000 in
theorem from_no (s : ByteArray) (w : World) (h : ¬ Can s) :
    Calls Tryz.prog 35 #[.string s] w fun e w' => e = .returned (.agg #[.bool false, .string ⟨#[]⟩]) ∧ Below w.heap.size w w' := by
  have HC := Lib.hid h; clear h
  go_enter Tryz.func35, Tryz.ntmps35
  go_wp2_with fail
  refine (valid_no s _ HC.out).mono ?_; rintro e w' ⟨rfl, rfl⟩
  go_wp2
  refine bodyPost_ret (v := .agg #[.bool false, .string ⟨#[]⟩]) (by simp [results, Tryz.results35, go_sem]) rfl ⟨rfl, ?_⟩
  exact (Below.refl _ _).alloc (Nat.le_refl _) _
end Go.Proofs.YtogmgfdihmacpaaGreatDoor


/-
  Contracts of package integer, the third part: Of.
-/
namespace Go.Proofs.YtogmgfdihmacpaaGreatDoor
open Go.RowKit
set_option linter.unusedVariables false

/-- A result variable made before a call stands behind it. -/
theorem var_after {w w' : World} {c0 c1 : Value} {t : TypeId} (b : Below (w.alloc (.cells #[c0, c1] t)).heap.size (w.alloc (.cells #[c0, c1] t)) w') :
    w'.cell? ⟨w.heap.size, 0, none⟩ = some c0 ∧ w'.cell? ⟨w.heap.size, 1, none⟩ = some c1 ∧ w'.frozen? ⟨w.heap.size, 0, none⟩ = false ∧ w'.frozen? ⟨w.heap.size, 1, none⟩ = false := by
  have hlt : w.heap.size < (w.alloc (.cells #[c0, c1] t)).heap.size := by simp
  refine ⟨?_, ?_, ?_, ?_⟩
  · rw [b.cell (p := ⟨w.heap.size, 0, none⟩) hlt, World.cell?_alloc_new]; rfl
  · rw [b.cell (p := ⟨w.heap.size, 1, none⟩) hlt, World.cell?_alloc_new]; rfl
  · rw [b.frozen (p := ⟨w.heap.size, 0, none⟩) hlt]; simp
  · rw [b.frozen (p := ⟨w.heap.size, 1, none⟩) hlt]; simp

set_option maxHeartbeats 400000 in
theorem iof_pos (n : Nat) (w : World) (h : n < 9223372036854775808) :
    Calls Tryz.prog 127 #[.int .i64 n] w fun e w' => e = .returned (.agg #[.bool false, .string (E n)]) ∧ Below w.heap.size w w' := by
  have hn : n < 18446744073709551616 := by omega
  go_enter Tryz.func127, Tryz.ntmps127
  go_wp2_with fail
  refine (of_any n _ hn).mono ?_; rintro e w' ⟨rfl, b1⟩
  obtain ⟨hc0, hc1, hf0, hf1⟩ := var_after b1
  go_wp2
  refine bodyPost_ret (v := .agg #[.bool false, .string (E n)]) (by simp [results, Tryz.results127, go_sem, hc0, hc1]) rfl ⟨rfl, ?_⟩
  have hb : Below w.heap.size w w' := ((Below.refl w.heap.size w).alloc (Nat.le_refl _) _).trans (b1.mono (by simp))
  exact (hb.setCell (p := ⟨w.heap.size, 0, none⟩) (Nat.le_refl _) _).setCell (p := ⟨w.heap.size, 1, none⟩) (Nat.le_refl _) _
end Go.Proofs.YtogmgfdihmacpaaGreatDoor


/-
  Integers as values: the integer of a sign and a magnitude; Valid, signed and Make once more in these words.
-/
namespace Go.Proofs.YtogmgfdihmacpaaGreatDoor
open Go.RowKit
set_option linter.unusedVariables false

/-- The integer of a sign and a number. -/
def sg (g : Bool) (n : Nat) : Int := if g = true then -(n : Int) else (n : Int)
/-- The sign and the magnitude of an integer. -/
def ZG (z : Int) : Bool := decide (z < 0)
def ZS (z : Int) : ByteArray := E z.natAbs
/-- The value of an integer. -/
def Z (z : Int) : Value := .agg #[.bool (ZG z), .string (ZS z)]
/-- A valid pair. -/
def IVal (g : Bool) (s : ByteArray) : Prop := Can s ∧ (g = true → s.size ≠ 0)
/-- The integer of a pair. -/
def IZ (g : Bool) (s : ByteArray) : Int := sg g (V s)
/-- An integer, or ErrLong. -/
def zokN (z : Int) : Value := if z.natAbs < Lim then .tuple #[Z z, .int .i64 0] else .tuple #[Z 0, .int .i64 5]

theorem sg_t (n : Nat) : sg true n = -(n : Int) := rfl
theorem sg_f (n : Nat) : sg false n = (n : Int) := rfl
theorem sg_natAbs (g : Bool) (n : Nat) : (sg g n).natAbs = n := by cases g <;> simp [sg]
theorem zokN_yes {z : Int} (h : z.natAbs < Lim) : zokN z = .tuple #[Z z, .int .i64 0] := by unfold zokN; rw [if_pos h]
theorem zokN_no {z : Int} (h : ¬ z.natAbs < Lim) : zokN z = .tuple #[Z 0, .int .i64 5] := by unfold zokN; rw [if_neg h]
theorem Z_zero : Z 0 = .agg #[.bool false, .string ⟨#[]⟩] := by
  show Value.agg #[.bool false, .string (E 0)] = _
  rw [show E 0 = ⟨#[]⟩ from rfl]
theorem E_empty {n : Nat} : (E n).toList.isEmpty = decide (n = 0) := by
  by_cases h : n = 0
  · subst h; rw [empty_of (by rfl)]; rfl
  · rw [not_empty_of]
    · simp [h]
    · rw [size_eq, E_data]
      intro q
      exact h ((enc_nil_iff n).1 (List.eq_nil_of_length_eq_zero q))
theorem Z_sg (g : Bool) (n : Nat) : (.agg #[.bool (g && !(E n).toList.isEmpty), .string (E n)] : Value) = Z (sg g n) := by
  unfold Z ZS
  rw [sg_natAbs, E_empty]
  have : (g && !decide (n = 0)) = ZG (sg g n) := by
    unfold ZG
    cases g
    · simp [sg]
    · rw [sg_t]; by_cases h : n = 0
      · subst h; rfl
      · have : (-(n : Int) < 0) := by omega
        simp [h]; omega
  rw [this]
theorem size_zero {s : ByteArray} (h : Can s) : s.size = 0 ↔ V s = 0 := by
  constructor
  · intro q
    have := V_lt s
    rw [q] at this; omega
  · intro q
    have := E_V h
    rw [q] at this
    rw [← this]; rfl
theorem Z_IZ {g : Bool} {s : ByteArray} (h : IVal g s) : (.agg #[.bool g, .string s] : Value) = Z (IZ g s) := by
  unfold IZ
  rw [← Z_sg, E_V h.1]
  cases g
  · simp
  · rw [not_empty_of (h.2 rfl)]; rfl
theorem ival_Z (z : Int) (h : z.natAbs < Lim) : IVal (ZG z) (ZS z) := by
  refine ⟨can_E' h, ?_⟩
  intro q
  unfold ZG at q
  have q := of_decide_eq_true q
  intro q2
  have := (size_zero (can_E' h)).1 q2
  rw [V_E] at this; omega
theorem IZ_Z (z : Int) : IZ (ZG z) (ZS z) = z := by
  unfold IZ ZS ZG
  rw [V_E]
  by_cases h : z < 0
  · simp [h, sg]; omega
  · simp [h, sg]; omega
theorem IZ_lim {g : Bool} {s : ByteArray} (h : IVal g s) : (IZ g s).natAbs < Lim := by
  unfold IZ; rw [sg_natAbs]; exact V_lim h.1
theorem Z_code (z : Int) : ∃ (g : Bool) (s : ByteArray), Z z = .agg #[.bool g, .string s] := ⟨_, _, rfl⟩
theorem zokN_code (z : Int) : ∃ (g : Bool) (s : ByteArray) (v : Nat), zokN z = .tuple #[.agg #[.bool g, .string s], .int .i64 v] ∧ v ≤ 100 := by
  unfold zokN; split
  · exact ⟨_, _, 0, rfl, by omega⟩
  · exact ⟨_, _, 5, rfl, by omega⟩

theorem ivalid_t (g : Bool) (s : ByteArray) (w : World) (h : IVal g s) :
    Calls Tryz.prog 31 #[.agg #[.bool g, .string s]] w fun e w' => e = .returned (.bool true) ∧ Below w.heap.size w w' := by
  by_cases h0 : s.size = 0
  · have := ivalid_zero g s w h.1 h0
    cases g
    · exact this
    · exact absurd h0 (h.2 rfl)
  · exact ivalid_yes g s w h.1 h0
theorem ivalid_f (g : Bool) (s : ByteArray) (w : World) (h : ¬ IVal g s) :
    Calls Tryz.prog 31 #[.agg #[.bool g, .string s]] w fun e w' => e = .returned (.bool false) ∧ Below w.heap.size w w' := by
  by_cases hc : Can s
  · by_cases h0 : s.size = 0
    · have := ivalid_zero g s w hc h0
      cases g
      · exact absurd ⟨hc, fun q => by cases q⟩ h
      · exact this
    · exact absurd ⟨hc, fun _ => h0⟩ h
  · exact ivalid_no g s w hc
theorem rivalid_t (g : Bool) (s : ByteArray) (w : World) (h : IVal g s) :
    Calls Tryz.prog 49 #[.agg #[.bool g, .string s]] w fun e w' => e = .returned (.bool true) ∧ Below w.heap.size w w' := by
  by_cases h0 : s.size = 0
  · have := rivalid_zero g s w h.1 h0
    cases g
    · exact this
    · exact absurd h0 (h.2 rfl)
  · exact rivalid_yes g s w h.1 h0
theorem rivalid_f (g : Bool) (s : ByteArray) (w : World) (h : ¬ IVal g s) :
    Calls Tryz.prog 49 #[.agg #[.bool g, .string s]] w fun e w' => e = .returned (.bool false) ∧ Below w.heap.size w w' := by
  by_cases hc : Can s
  · by_cases h0 : s.size = 0
    · have := rivalid_zero g s w hc h0
      cases g
      · exact absurd ⟨hc, fun q => by cases q⟩ h
      · exact this
    · exact absurd ⟨hc, fun _ => h0⟩ h
  · exact rivalid_no g s w hc
theorem signed_n (g : Bool) (n : Nat) (w : World) :
    Calls Tryz.prog 60 #[.bool g, .string (E n)] w fun e w' => e = .returned (Z (sg g n)) ∧ Below w.heap.size w w' := by
  rw [← Z_sg]; exact signed_any g (E n) w
theorem make_n (g : Bool) (n : Nat) (w : World) :
    Calls Tryz.prog 159 #[.bool g, .string (E n)] w fun e w' => e = .returned (Z (sg g n)) ∧ Below w.heap.size w w' := by
  rw [← Z_sg]; exact make_any g (E n) w
theorem signed_s (g : Bool) (s : ByteArray) (w : World) (h : Can s) :
    Calls Tryz.prog 60 #[.bool g, .string s] w fun e w' => e = .returned (Z (sg g (V s))) ∧ Below w.heap.size w w' := by
  have := signed_n g (V s) w
  rwa [E_V h] at this
theorem make_s (g : Bool) (s : ByteArray) (w : World) (h : Can s) :
    Calls Tryz.prog 159 #[.bool g, .string s] w fun e w' => e = .returned (Z (sg g (V s))) ∧ Below w.heap.size w w' := by
  have := make_n g (V s) w
  rwa [E_V h] at this
theorem from_z (s : ByteArray) (w : World) (h : Can s) :
    Calls Tryz.prog 35 #[.string s] w fun e w' => e = .returned (Z (V s : Nat)) ∧ Below w.heap.size w w' := by
  have := from_yes s w h
  rwa [Z_IZ (g := false) ⟨h, fun q => by cases q⟩] at this
theorem from_0 (s : ByteArray) (w : World) (h : ¬ Can s) :
    Calls Tryz.prog 35 #[.string s] w fun e w' => e = .returned (Z 0) ∧ Below w.heap.size w w' := by
  have := from_no s w h
  rwa [← Z_zero] at this
end Go.Proofs.YtogmgfdihmacpaaGreatDoor


/-
  Contracts of package integer and of its reference: variables of two cells behind calls; Neg, Cmp.
-/
namespace Go.Proofs.YtogmgfdihmacpaaGreatDoor
open Go.RowKit
set_option linter.unusedVariables false

/-- Two cells of a variable. -/
def Two (w : World) (g : Nat) (c0 c1 : Value) : Prop :=
  w.cell? ⟨g, 0, none⟩ = some c0 ∧ w.cell? ⟨g, 1, none⟩ = some c1 ∧ w.frozen? ⟨g, 0, none⟩ = false ∧ w.frozen? ⟨g, 1, none⟩ = false ∧ g < w.heap.size
theorem Two.new (w : World) (c0 c1 : Value) (t : TypeId) (g : Nat) (hg : g = w.heap.size) : Two (w.alloc (.cells #[c0, c1] t)) g c0 c1 := by
  subst hg
  refine ⟨?_, ?_, ?_, ?_, ?_⟩
  · rw [World.cell?_alloc_new]; rfl
  · rw [World.cell?_alloc_new]; rfl
  · simp
  · simp
  · simp
theorem Two.below {w w' : World} {B g : Nat} {c0 c1 : Value} (h : Two w g c0 c1) (b : Below B w w') (hB : B = w.heap.size) : Two w' g c0 c1 := by
  subst hB
  obtain ⟨h0, h1, h2, h3, h4⟩ := h
  refine ⟨?_, ?_, ?_, ?_, ?_⟩
  · rw [b.cell (p := ⟨g, 0, none⟩) h4, h0]
  · rw [b.cell (p := ⟨g, 1, none⟩) h4, h1]
  · rw [b.frozen (p := ⟨g, 0, none⟩) h4, h2]
  · rw [b.frozen (p := ⟨g, 1, none⟩) h4, h3]
  · exact Nat.lt_of_lt_of_le h4 b.size
theorem Two.alloc {w : World} {g : Nat} {c0 c1 : Value} (h : Two w g c0 c1) (o : Obj) : Two (w.alloc o) g c0 c1 :=
  h.below ((Below.refl _ _).alloc (Nat.le_refl _) _) rfl
theorem Two.draw {w : World} {g : Nat} {c0 c1 : Value} (h : Two w g c0 c1) (q : Nat) : Two (w.drewN q) g c0 c1 := h
theorem bnextW {w a b : World} {B : Nat} (h : Below B w a) (k : Below a.heap.size a b) (hB : B ≤ a.heap.size) : Below B w b := h.trans (k.mono hB)
theorem after1 {w w1 : World} {a0 a1 : Value} {t : TypeId} (b : Below (w.alloc (.cells #[a0, a1] t)).heap.size (w.alloc (.cells #[a0, a1] t)) w1) :
    Two w1 w.heap.size a0 a1 ∧ Below w.heap.size w w1 :=
  ⟨(Two.new w a0 a1 t _ rfl).below b rfl, bnextW ((Below.refl w.heap.size w).alloc (Nat.le_refl _) _) b (by simp)⟩
theorem after2 {w w1 : World} {a0 a1 b0 b1 : Value} {t u : TypeId} (b : Below ((w.alloc (.cells #[a0, a1] t)).alloc (.cells #[b0, b1] u)).heap.size ((w.alloc (.cells #[a0, a1] t)).alloc (.cells #[b0, b1] u)) w1) :
    Two w1 w.heap.size a0 a1 ∧ Two w1 (w.heap.size + 1) b0 b1 ∧ Below w.heap.size w w1 :=
  ⟨((Two.new w a0 a1 t _ rfl).alloc _).below b rfl, (Two.new _ b0 b1 u _ (by simp)).below b rfl,
    bnextW (((Below.refl w.heap.size w).alloc (Nat.le_refl _) _).alloc (by simp) _) b (by simp; omega)⟩
theorem after3 {w w1 : World} {a0 a1 b0 b1 c0 c1 : Value} {t u v : TypeId}
    (b : Below (((w.alloc (.cells #[a0, a1] t)).alloc (.cells #[b0, b1] u)).alloc (.cells #[c0, c1] v)).heap.size (((w.alloc (.cells #[a0, a1] t)).alloc (.cells #[b0, b1] u)).alloc (.cells #[c0, c1] v)) w1) :
    Two w1 w.heap.size a0 a1 ∧ Two w1 (w.heap.size + 1) b0 b1 ∧ Two w1 (w.heap.size + 1 + 1) c0 c1 ∧ Below w.heap.size w w1 :=
  ⟨(((Two.new w a0 a1 t _ rfl).alloc _).alloc _).below b rfl, ((Two.new _ b0 b1 u _ (by simp)).alloc _).below b rfl, (Two.new _ c0 c1 v _ (by simp)).below b rfl,
    bnextW ((((Below.refl w.heap.size w).alloc (Nat.le_refl _) _).alloc (by simp) _).alloc (by simp; omega) _) b (by simp; omega)⟩
theorem bset {w a : World} {B g : Nat} {u v : Value} (h : Below B w a) (hB : B ≤ g) : Below B w ((a.setCell ⟨g, 0, none⟩ u).setCell ⟨g, 1, none⟩ v) :=
  (h.setCell (p := ⟨g, 0, none⟩) hB _).setCell (p := ⟨g, 1, none⟩) hB _
/-- The order of two integers. -/
def zsgn (a b : Int) : Int := if a < b then -1 else if a = b then 0 else 1
theorem sgn_zsgn (m n : Nat) : sgn m n = zsgn m n := by unfold sgn zsgn; split <;> split <;> (first | omega | (split <;> omega) | skip)
theorem sgn_zsgn_neg (m n : Nat) : sgn n m = zsgn (-(m : Int)) (-(n : Int)) := by unfold sgn zsgn; split <;> split <;> (first | omega | (split <;> omega) | skip)
theorem zsgn_lt {a b : Int} (h : a < b) : zsgn a b = -1 := by unfold zsgn; rw [if_pos h]
theorem zsgn_gt {a b : Int} (h : b < a) : zsgn a b = 1 := by unfold zsgn; rw [if_neg (by omega), if_neg (by omega)]
theorem IZ_neg {s : ByteArray} (h : IVal true s) : IZ true s < 0 := by
  unfold IZ; rw [sg_t]
  have h0 : V s ≠ 0 := fun q => h.2 rfl ((size_zero h.1).2 q)
  omega
theorem IZ_pos (s : ByteArray) : 0 ≤ IZ false s := by unfold IZ; rw [sg_f]; omega

set_option maxHeartbeats 400000 in
theorem ineg_yes (g : Bool) (s : ByteArray) (w : World) (h : IVal g s) :
    Calls Tryz.prog 33 #[.agg #[.bool g, .string s]] w fun e w' => e = .returned (Z (-(IZ g s))) ∧ Below w.heap.size w w' := by
  have HI := Lib.hid h
  have hz : Z (-(IZ g s)) = Z (sg (!g) (V s)) := by
    congr 1; unfold IZ; cases g <;> simp [sg]
  rw [hz]
  have hs := fun w => signed_s (!g) s w h.1
  clear hz h
  obtain ⟨G, S, hc⟩ := Z_code (sg (!g) (V s))
  rw [hc] at hs ⊢
  clear hc
  have HS := Lib.hid hs; clear hs
  go_enter Tryz.func33, Tryz.ntmps33
  go_wp2_with fail
  refine (ivalid_t g s _ HI.out).mono ?_; rintro e w1 ⟨rfl, b1⟩
  obtain ⟨T1, T2, k1⟩ := after2 b1
  have q1 := T1.1
  have q2 := T1.2.1
  go_wp2_with fail
  refine (HS.out _).mono ?_; rintro e w2 ⟨rfl, b2⟩
  have T3 := Two.below T2 b2 rfl
  have k2 := bnextW k1 b2 k1.size
  clear q1 q2
  obtain ⟨q1, q2, q3, q4, q5⟩ := T3
  go_wp2
  refine bodyPost_ret (v := .agg #[.bool G, .string S]) (by simp [results, Tryz.results33, go_sem, q1, q2]) rfl ⟨rfl, ?_⟩
  exact bset k2 (by simp)
set_option maxHeartbeats 400000 in
theorem ineg_no (g : Bool) (s : ByteArray) (w : World) (h : ¬ IVal g s) :
    Calls Tryz.prog 33 #[.agg #[.bool g, .string s]] w fun e w' => e = .returned (Z 0) ∧ Below w.heap.size w w' := by
  have HI := Lib.hid h; clear h
  rw [Z_zero]
  go_enter Tryz.func33, Tryz.ntmps33
  go_wp2_with fail
  refine (ivalid_f g s _ HI.out).mono ?_; rintro e w1 ⟨rfl, b1⟩
  obtain ⟨T1, T2, k1⟩ := after2 b1
  obtain ⟨q1, q2, q3, q4, q5⟩ := T2
  go_wp2
  refine bodyPost_ret (v := .agg #[.bool false, .string ⟨#[]⟩]) (by simp [results, Tryz.results33, go_sem, q1, q2]) rfl ⟨rfl, ?_⟩
  exact bset k1 (by simp)

set_option maxHeartbeats 400000 in
theorem rineg_yes (g : Bool) (s : ByteArray) (w : World) (h : IVal g s) :
    Calls Tryz.prog 168 #[.agg #[.bool g, .string s]] w fun e w' => e = .returned (Z (-(IZ g s))) ∧ Below w.heap.size w w' := by
  have HI := Lib.hid h
  have hz : Z (-(IZ g s)) = Z (sg (!g) (V s)) := by
    congr 1; unfold IZ; cases g <;> simp [sg]
  rw [hz]
  have hs := fun w => make_s (!g) s w h.1
  clear hz h
  obtain ⟨G, S, hc⟩ := Z_code (sg (!g) (V s))
  rw [hc] at hs ⊢
  clear hc
  have HS := Lib.hid hs; clear hs
  go_enter Tryz.func168, Tryz.ntmps168
  go_wp2_with fail
  refine (rivalid_t g s _ HI.out).mono ?_; rintro e w1 ⟨rfl, b1⟩
  obtain ⟨T1, T2, k1⟩ := after2 b1
  have q1 := T1.1
  have q2 := T1.2.1
  go_wp2_with fail
  refine (HS.out _).mono ?_; rintro e w2 ⟨rfl, b2⟩
  have T3 := Two.below T2 b2 rfl
  have k2 := bnextW k1 b2 k1.size
  clear q1 q2
  obtain ⟨q1, q2, q3, q4, q5⟩ := T3
  go_wp2
  refine bodyPost_ret (v := .agg #[.bool G, .string S]) (by simp [results, Tryz.results168, go_sem, q1, q2]) rfl ⟨rfl, ?_⟩
  exact bset k2 (by simp)
set_option maxHeartbeats 400000 in
theorem rineg_no (g : Bool) (s : ByteArray) (w : World) (h : ¬ IVal g s) :
    Calls Tryz.prog 168 #[.agg #[.bool g, .string s]] w fun e w' => e = .returned (Z 0) ∧ Below w.heap.size w w' := by
  have HI := Lib.hid h; clear h
  rw [Z_zero]
  go_enter Tryz.func168, Tryz.ntmps168
  go_wp2_with fail
  refine (rivalid_f g s _ HI.out).mono ?_; rintro e w1 ⟨rfl, b1⟩
  obtain ⟨T1, T2, k1⟩ := after2 b1
  obtain ⟨q1, q2, q3, q4, q5⟩ := T2
  go_wp2
  refine bodyPost_ret (v := .agg #[.bool false, .string ⟨#[]⟩]) (by simp [results, Tryz.results168, go_sem, q1, q2]) rfl ⟨rfl, ?_⟩
  exact bset k1 (by simp)

end Go.Proofs.YtogmgfdihmacpaaGreatDoor

