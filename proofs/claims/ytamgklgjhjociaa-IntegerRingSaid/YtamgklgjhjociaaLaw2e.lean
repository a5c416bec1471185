/-
  The walk of IntegerRing.
-/
import Derived.Test.YtamgklgjhjociaaLaw2a
namespace Go.Proofs.Ytamgklgjhjociaa
open Go.RowKit
set_option linter.unusedVariables false

theorem lim30 : (256 ^ 30 + 256 ^ 30) * (256 ^ 30 + 256 ^ 30) < Lim := by rw [lim_eq]; decide +kernel
theorem V30 {s : ByteArray} (h : s.size ≤ 30) : V s < 256 ^ 30 := Nat.lt_of_lt_of_le (V_lt s) (Nat.pow_le_pow_right (by omega) h)
theorem IZ30 {g : Bool} {s : ByteArray} (h : s.size ≤ 30) : (IZ g s).natAbs < 256 ^ 30 := by unfold IZ; rw [sg_natAbs]; exact V30 h
theorem zsgn_bd (a b : Int) : -1 ≤ zsgn a b ∧ zsgn a b ≤ 1 := by unfold zsgn; split <;> (try split) <;> omega
theorem zsgn_swap (a b : Int) : zsgn b a = -zsgn a b := by unfold zsgn; split <;> split <;> (try split) <;> (try split) <;> omega
theorem zsgn_sub (a b : Int) : zsgn (a - b) 0 = zsgn a b := by unfold zsgn; split <;> split <;> (try split) <;> (try split) <;> omega
theorem zsgn_add (a b c : Int) : zsgn (a + b) (b + c) = zsgn a c := by unfold zsgn; split <;> split <;> (try split) <;> (try split) <;> omega
theorem zsgn_zero {a b : Int} : zsgn a b = 0 ↔ a = b := by unfold zsgn; split <;> (try split) <;> omega
theorem IZ_inj {g1 g2 : Bool} {s1 s2 : ByteArray} (h1 : IVal g1 s1) (h2 : IVal g2 s2) (h : IZ g1 s1 = IZ g2 s2) : g1 = g2 ∧ s1 = s2 := by
  have e1 := Z_IZ h1
  have e2 := Z_IZ h2
  rw [h, ← e2] at e1
  injection e1 with e
  have e := congrArg Array.toList e
  simp at e
  exact e
/-- Addition, subtraction, multiplication and order of integers in letters. -/
theorem add_z (g1 g2 : Bool) (s1 s2 : ByteArray) (h1 : IVal g1 s1) (h2 : IVal g2 s2) (hl : (IZ g1 s1 + IZ g2 s2).natAbs < Lim) (w : World) :
    Calls Try.prog 26 #[.agg #[.bool g1, .string s1], .agg #[.bool g2, .string s2]] w fun e w' => e = .returned (.tuple #[.agg #[.bool (ZG (IZ g1 s1 + IZ g2 s2)), .string (ZS (IZ g1 s1 + IZ g2 s2))], .int .i64 0]) ∧ Below w.heap.size w w' := by
  have := iadd_yes g1 g2 s1 s2 w h1 h2
  rwa [zokN_yes hl] at this
theorem sub_z (g1 g2 : Bool) (s1 s2 : ByteArray) (h1 : IVal g1 s1) (h2 : IVal g2 s2) (hl : (IZ g1 s1 - IZ g2 s2).natAbs < Lim) (w : World) :
    Calls Try.prog 28 #[.agg #[.bool g1, .string s1], .agg #[.bool g2, .string s2]] w fun e w' => e = .returned (.tuple #[.agg #[.bool (ZG (IZ g1 s1 - IZ g2 s2)), .string (ZS (IZ g1 s1 - IZ g2 s2))], .int .i64 0]) ∧ Below w.heap.size w w' := by
  have := isub_yes g1 g2 s1 s2 w h1 h2
  rwa [zokN_yes hl] at this
theorem mul_z (g1 g2 : Bool) (s1 s2 : ByteArray) (h1 : IVal g1 s1) (h2 : IVal g2 s2) (hl : (IZ g1 s1 * IZ g2 s2).natAbs < Lim) (w : World) :
    Calls Try.prog 30 #[.agg #[.bool g1, .string s1], .agg #[.bool g2, .string s2]] w fun e w' => e = .returned (.tuple #[.agg #[.bool (ZG (IZ g1 s1 * IZ g2 s2)), .string (ZS (IZ g1 s1 * IZ g2 s2))], .int .i64 0]) ∧ Below w.heap.size w w' := by
  have := imul_yes g1 g2 s1 s2 w h1 h2
  rwa [zokN_yes hl] at this
theorem pair_IZ {g : Bool} {s : ByteArray} (h : IVal g s) : ZG (IZ g s) = g ∧ ZS (IZ g s) = s := by
  have e := Z_IZ h
  unfold Z at e
  injection e with e
  have e := congrArg Array.toList e
  simp at e
  exact ⟨e.1.symm, e.2.symm⟩

set_option maxHeartbeats 4000000 in
set_option maxRecDepth 20000 in
theorem ring_n1 (g1 g2 g3 : Bool) (s1 s2 s3 : ByteArray) (w : World) (i1 : ¬ IVal g1 s1) :
    Calls Try.prog 9 #[.agg #[.bool g1, .string s1], .agg #[.bool g2, .string s2], .agg #[.bool g3, .string s3]] w fun e w' => e = .returned (.bool true) ∧ Below w.heap.size w w' := by
  have I1 := Lib.hid i1; clear i1
  have k := Below.refl w.heap.size w
  have A := Two.new w (.bool g1) (.string s1) 24 (w.heap.size) (by first | (simp; done) | (simp; omega) | omega)
  have k := k.alloc (by first | (simp; done) | (simp; omega) | omega) (.cells #[.bool g1, .string s1] 24)
  have A := A.alloc (.cells #[.bool g2, .string s2] 24)
  have B := Two.new (w.alloc (.cells #[.bool g1, .string s1] 24)) (.bool g2) (.string s2) 24 (w.heap.size + 1) (by first | (simp; done) | (simp; omega) | omega)
  have k := k.alloc (by first | (simp; done) | (simp; omega) | omega) (.cells #[.bool g2, .string s2] 24)
  have A := A.alloc (.cells #[.bool g3, .string s3] 24)
  have B := B.alloc (.cells #[.bool g3, .string s3] 24)
  have C := Two.new ((w.alloc (.cells #[.bool g1, .string s1] 24)).alloc (.cells #[.bool g2, .string s2] 24)) (.bool g3) (.string s3) 24 (w.heap.size + 1 + 1) (by first | (simp; done) | (simp; omega) | omega)
  have k := k.alloc (by first | (simp; done) | (simp; omega) | omega) (.cells #[.bool g3, .string s3] 24)
  go_enter Try.func9, Try.ntmps9
  go_wp2_with fail
  refine (ivalid_f g1 s1 _ I1.out).mono ?_; rintro e w1 ⟨rfl, b1⟩
  have A := A.below b1 rfl
  have B := B.below b1 rfl
  have C := C.below b1 rfl
  have lA := A.2.2.2.2
  have lB := B.2.2.2.2
  have lC := C.2.2.2.2
  have k := bnextW k b1 (by first | (simp; done) | (simp; omega) | omega)
  have z1 := k.size
  go_wp2_with fail
  refine (awake2 _).mono ?_; rintro e w2 ⟨rfl, b2⟩
  have A := A.below b2 rfl
  have B := B.below b2 rfl
  have C := C.below b2 rfl
  have lA := A.2.2.2.2
  have lB := B.2.2.2.2
  have lC := C.2.2.2.2
  have k := bnextW k b2 (by first | (simp; done) | (simp; omega) | omega)
  have z2 := k.size
  go_wp2
  go_ret
  exact ⟨rfl, k⟩

set_option maxHeartbeats 4000000 in
set_option maxRecDepth 20000 in
theorem ring_n2 (g1 g2 g3 : Bool) (s1 s2 s3 : ByteArray) (w : World) (i1 : IVal g1 s1) (i2 : ¬ IVal g2 s2) :
    Calls Try.prog 9 #[.agg #[.bool g1, .string s1], .agg #[.bool g2, .string s2], .agg #[.bool g3, .string s3]] w fun e w' => e = .returned (.bool true) ∧ Below w.heap.size w w' := by
  have I1 := Lib.hid i1; clear i1
  have I2 := Lib.hid i2; clear i2
  have k := Below.refl w.heap.size w
  have A := Two.new w (.bool g1) (.string s1) 24 (w.heap.size) (by first | (simp; done) | (simp; omega) | omega)
  have k := k.alloc (by first | (simp; done) | (simp; omega) | omega) (.cells #[.bool g1, .string s1] 24)
  have A := A.alloc (.cells #[.bool g2, .string s2] 24)
  have B := Two.new (w.alloc (.cells #[.bool g1, .string s1] 24)) (.bool g2) (.string s2) 24 (w.heap.size + 1) (by first | (simp; done) | (simp; omega) | omega)
  have k := k.alloc (by first | (simp; done) | (simp; omega) | omega) (.cells #[.bool g2, .string s2] 24)
  have A := A.alloc (.cells #[.bool g3, .string s3] 24)
  have B := B.alloc (.cells #[.bool g3, .string s3] 24)
  have C := Two.new ((w.alloc (.cells #[.bool g1, .string s1] 24)).alloc (.cells #[.bool g2, .string s2] 24)) (.bool g3) (.string s3) 24 (w.heap.size + 1 + 1) (by first | (simp; done) | (simp; omega) | omega)
  have k := k.alloc (by first | (simp; done) | (simp; omega) | omega) (.cells #[.bool g3, .string s3] 24)
  go_enter Try.func9, Try.ntmps9
  go_wp2_with fail
  refine (ivalid_t g1 s1 _ I1.out).mono ?_; rintro e w1 ⟨rfl, b1⟩
  have A := A.below b1 rfl
  have B := B.below b1 rfl
  have C := C.below b1 rfl
  have lA := A.2.2.2.2
  have lB := B.2.2.2.2
  have lC := C.2.2.2.2
  have k := bnextW k b1 (by first | (simp; done) | (simp; omega) | omega)
  have z1 := k.size
  have q1a := B.1
  have q1b := B.2.1
  go_wp2_with fail
  refine (ivalid_f g2 s2 _ I2.out).mono ?_; rintro e w2 ⟨rfl, b2⟩
  clear q1a q1b
  have A := A.below b2 rfl
  have B := B.below b2 rfl
  have C := C.below b2 rfl
  have lA := A.2.2.2.2
  have lB := B.2.2.2.2
  have lC := C.2.2.2.2
  have k := bnextW k b2 (by first | (simp; done) | (simp; omega) | omega)
  have z2 := k.size
  go_wp2_with fail
  refine (awake2 _).mono ?_; rintro e w3 ⟨rfl, b3⟩
  have A := A.below b3 rfl
  have B := B.below b3 rfl
  have C := C.below b3 rfl
  have lA := A.2.2.2.2
  have lB := B.2.2.2.2
  have lC := C.2.2.2.2
  have k := bnextW k b3 (by first | (simp; done) | (simp; omega) | omega)
  have z3 := k.size
  go_wp2
  go_ret
  exact ⟨rfl, k⟩

set_option maxHeartbeats 4000000 in
set_option maxRecDepth 20000 in
theorem ring_n3 (g1 g2 g3 : Bool) (s1 s2 s3 : ByteArray) (w : World) (i1 : IVal g1 s1) (i2 : IVal g2 s2) (i3 : ¬ IVal g3 s3) :
    Calls Try.prog 9 #[.agg #[.bool g1, .string s1], .agg #[.bool g2, .string s2], .agg #[.bool g3, .string s3]] w fun e w' => e = .returned (.bool true) ∧ Below w.heap.size w w' := by
  have I1 := Lib.hid i1; clear i1
  have I2 := Lib.hid i2; clear i2
  have I3 := Lib.hid i3; clear i3
  have k := Below.refl w.heap.size w
  have A := Two.new w (.bool g1) (.string s1) 24 (w.heap.size) (by first | (simp; done) | (simp; omega) | omega)
  have k := k.alloc (by first | (simp; done) | (simp; omega) | omega) (.cells #[.bool g1, .string s1] 24)
  have A := A.alloc (.cells #[.bool g2, .string s2] 24)
  have B := Two.new (w.alloc (.cells #[.bool g1, .string s1] 24)) (.bool g2) (.string s2) 24 (w.heap.size + 1) (by first | (simp; done) | (simp; omega) | omega)
  have k := k.alloc (by first | (simp; done) | (simp; omega) | omega) (.cells #[.bool g2, .string s2] 24)
  have A := A.alloc (.cells #[.bool g3, .string s3] 24)
  have B := B.alloc (.cells #[.bool g3, .string s3] 24)
  have C := Two.new ((w.alloc (.cells #[.bool g1, .string s1] 24)).alloc (.cells #[.bool g2, .string s2] 24)) (.bool g3) (.string s3) 24 (w.heap.size + 1 + 1) (by first | (simp; done) | (simp; omega) | omega)
  have k := k.alloc (by first | (simp; done) | (simp; omega) | omega) (.cells #[.bool g3, .string s3] 24)
  go_enter Try.func9, Try.ntmps9
  go_wp2_with fail
  refine (ivalid_t g1 s1 _ I1.out).mono ?_; rintro e w1 ⟨rfl, b1⟩
  have A := A.below b1 rfl
  have B := B.below b1 rfl
  have C := C.below b1 rfl
  have lA := A.2.2.2.2
  have lB := B.2.2.2.2
  have lC := C.2.2.2.2
  have k := bnextW k b1 (by first | (simp; done) | (simp; omega) | omega)
  have z1 := k.size
  have q1a := B.1
  have q1b := B.2.1
  go_wp2_with fail
  refine (ivalid_t g2 s2 _ I2.out).mono ?_; rintro e w2 ⟨rfl, b2⟩
  clear q1a q1b
  have A := A.below b2 rfl
  have B := B.below b2 rfl
  have C := C.below b2 rfl
  have lA := A.2.2.2.2
  have lB := B.2.2.2.2
  have lC := C.2.2.2.2
  have k := bnextW k b2 (by first | (simp; done) | (simp; omega) | omega)
  have z2 := k.size
  have q2a := C.1
  have q2b := C.2.1
  go_wp2_with fail
  refine (ivalid_f g3 s3 _ I3.out).mono ?_; rintro e w3 ⟨rfl, b3⟩
  clear q2a q2b
  have A := A.below b3 rfl
  have B := B.below b3 rfl
  have C := C.below b3 rfl
  have lA := A.2.2.2.2
  have lB := B.2.2.2.2
  have lC := C.2.2.2.2
  have k := bnextW k b3 (by first | (simp; done) | (simp; omega) | omega)
  have z3 := k.size
  go_wp2_with fail
  refine (awake2 _).mono ?_; rintro e w4 ⟨rfl, b4⟩
  have A := A.below b4 rfl
  have B := B.below b4 rfl
  have C := C.below b4 rfl
  have lA := A.2.2.2.2
  have lB := B.2.2.2.2
  have lC := C.2.2.2.2
  have k := bnextW k b4 (by first | (simp; done) | (simp; omega) | omega)
  have z4 := k.size
  go_wp2
  go_ret
  exact ⟨rfl, k⟩

set_option maxHeartbeats 4000000 in
set_option maxRecDepth 20000 in
theorem ring_l1 (g1 g2 g3 : Bool) (s1 s2 s3 : ByteArray) (w : World) (i1 : IVal g1 s1) (i2 : IVal g2 s2) (i3 : IVal g3 s3) (l1 : ¬ (s1.size : Int) ≤ 30) (m1 : s1.size ≤ 9223372036854775807) (m2 : s2.size ≤ 9223372036854775807) (m3 : s3.size ≤ 9223372036854775807) :
    Calls Try.prog 9 #[.agg #[.bool g1, .string s1], .agg #[.bool g2, .string s2], .agg #[.bool g3, .string s3]] w fun e w' => e = .returned (.bool true) ∧ Below w.heap.size w w' := by
  have I1 := Lib.hid i1; clear i1
  have I2 := Lib.hid i2; clear i2
  have I3 := Lib.hid i3; clear i3
  have k := Below.refl w.heap.size w
  have A := Two.new w (.bool g1) (.string s1) 24 (w.heap.size) (by first | (simp; done) | (simp; omega) | omega)
  have k := k.alloc (by first | (simp; done) | (simp; omega) | omega) (.cells #[.bool g1, .string s1] 24)
  have A := A.alloc (.cells #[.bool g2, .string s2] 24)
  have B := Two.new (w.alloc (.cells #[.bool g1, .string s1] 24)) (.bool g2) (.string s2) 24 (w.heap.size + 1) (by first | (simp; done) | (simp; omega) | omega)
  have k := k.alloc (by first | (simp; done) | (simp; omega) | omega) (.cells #[.bool g2, .string s2] 24)
  have A := A.alloc (.cells #[.bool g3, .string s3] 24)
  have B := B.alloc (.cells #[.bool g3, .string s3] 24)
  have C := Two.new ((w.alloc (.cells #[.bool g1, .string s1] 24)).alloc (.cells #[.bool g2, .string s2] 24)) (.bool g3) (.string s3) 24 (w.heap.size + 1 + 1) (by first | (simp; done) | (simp; omega) | omega)
  have k := k.alloc (by first | (simp; done) | (simp; omega) | omega) (.cells #[.bool g3, .string s3] 24)
  go_enter Try.func9, Try.ntmps9
  go_wp2_with fail
  refine (ivalid_t g1 s1 _ I1.out).mono ?_; rintro e w1 ⟨rfl, b1⟩
  have A := A.below b1 rfl
  have B := B.below b1 rfl
  have C := C.below b1 rfl
  have lA := A.2.2.2.2
  have lB := B.2.2.2.2
  have lC := C.2.2.2.2
  have k := bnextW k b1 (by first | (simp; done) | (simp; omega) | omega)
  have z1 := k.size
  have q1a := B.1
  have q1b := B.2.1
  go_wp2_with fail
  refine (ivalid_t g2 s2 _ I2.out).mono ?_; rintro e w2 ⟨rfl, b2⟩
  clear q1a q1b
  have A := A.below b2 rfl
  have B := B.below b2 rfl
  have C := C.below b2 rfl
  have lA := A.2.2.2.2
  have lB := B.2.2.2.2
  have lC := C.2.2.2.2
  have k := bnextW k b2 (by first | (simp; done) | (simp; omega) | omega)
  have z2 := k.size
  have q2a := C.1
  have q2b := C.2.1
  go_wp2_with fail
  refine (ivalid_t g3 s3 _ I3.out).mono ?_; rintro e w3 ⟨rfl, b3⟩
  clear q2a q2b
  have A := A.below b3 rfl
  have B := B.below b3 rfl
  have C := C.below b3 rfl
  have lA := A.2.2.2.2
  have lB := B.2.2.2.2
  have lC := C.2.2.2.2
  have k := bnextW k b3 (by first | (simp; done) | (simp; omega) | omega)
  have z3 := k.size
  have q3a := A.1
  have q3b := A.2.1
  have q4a := B.1
  have q4b := B.2.1
  have q5a := C.1
  have q5b := C.2.1
  go_wp2_with fail
  refine (awake2 _).mono ?_; rintro e w4 ⟨rfl, b4⟩
  clear q3a q3b q4a q4b q5a q5b
  have A := A.below b4 rfl
  have B := B.below b4 rfl
  have C := C.below b4 rfl
  have lA := A.2.2.2.2
  have lB := B.2.2.2.2
  have lC := C.2.2.2.2
  have k := bnextW k b4 (by first | (simp; done) | (simp; omega) | omega)
  have z4 := k.size
  go_wp2
  go_ret
  exact ⟨rfl, k⟩

set_option maxHeartbeats 4000000 in
set_option maxRecDepth 20000 in
theorem ring_l2 (g1 g2 g3 : Bool) (s1 s2 s3 : ByteArray) (w : World) (i1 : IVal g1 s1) (i2 : IVal g2 s2) (i3 : IVal g3 s3) (l1 : (s1.size : Int) ≤ 30) (l2 : ¬ (s2.size : Int) ≤ 30) (m1 : s1.size ≤ 9223372036854775807) (m2 : s2.size ≤ 9223372036854775807) (m3 : s3.size ≤ 9223372036854775807) :
    Calls Try.prog 9 #[.agg #[.bool g1, .string s1], .agg #[.bool g2, .string s2], .agg #[.bool g3, .string s3]] w fun e w' => e = .returned (.bool true) ∧ Below w.heap.size w w' := by
  have I1 := Lib.hid i1; clear i1
  have I2 := Lib.hid i2; clear i2
  have I3 := Lib.hid i3; clear i3
  have k := Below.refl w.heap.size w
  have A := Two.new w (.bool g1) (.string s1) 24 (w.heap.size) (by first | (simp; done) | (simp; omega) | omega)
  have k := k.alloc (by first | (simp; done) | (simp; omega) | omega) (.cells #[.bool g1, .string s1] 24)
  have A := A.alloc (.cells #[.bool g2, .string s2] 24)
  have B := Two.new (w.alloc (.cells #[.bool g1, .string s1] 24)) (.bool g2) (.string s2) 24 (w.heap.size + 1) (by first | (simp; done) | (simp; omega) | omega)
  have k := k.alloc (by first | (simp; done) | (simp; omega) | omega) (.cells #[.bool g2, .string s2] 24)
  have A := A.alloc (.cells #[.bool g3, .string s3] 24)
  have B := B.alloc (.cells #[.bool g3, .string s3] 24)
  have C := Two.new ((w.alloc (.cells #[.bool g1, .string s1] 24)).alloc (.cells #[.bool g2, .string s2] 24)) (.bool g3) (.string s3) 24 (w.heap.size + 1 + 1) (by first | (simp; done) | (simp; omega) | omega)
  have k := k.alloc (by first | (simp; done) | (simp; omega) | omega) (.cells #[.bool g3, .string s3] 24)
  go_enter Try.func9, Try.ntmps9
  go_wp2_with fail
  refine (ivalid_t g1 s1 _ I1.out).mono ?_; rintro e w1 ⟨rfl, b1⟩
  have A := A.below b1 rfl
  have B := B.below b1 rfl
  have C := C.below b1 rfl
  have lA := A.2.2.2.2
  have lB := B.2.2.2.2
  have lC := C.2.2.2.2
  have k := bnextW k b1 (by first | (simp; done) | (simp; omega) | omega)
  have z1 := k.size
  have q1a := B.1
  have q1b := B.2.1
  go_wp2_with fail
  refine (ivalid_t g2 s2 _ I2.out).mono ?_; rintro e w2 ⟨rfl, b2⟩
  clear q1a q1b
  have A := A.below b2 rfl
  have B := B.below b2 rfl
  have C := C.below b2 rfl
  have lA := A.2.2.2.2
  have lB := B.2.2.2.2
  have lC := C.2.2.2.2
  have k := bnextW k b2 (by first | (simp; done) | (simp; omega) | omega)
  have z2 := k.size
  have q2a := C.1
  have q2b := C.2.1
  go_wp2_with fail
  refine (ivalid_t g3 s3 _ I3.out).mono ?_; rintro e w3 ⟨rfl, b3⟩
  clear q2a q2b
  have A := A.below b3 rfl
  have B := B.below b3 rfl
  have C := C.below b3 rfl
  have lA := A.2.2.2.2
  have lB := B.2.2.2.2
  have lC := C.2.2.2.2
  have k := bnextW k b3 (by first | (simp; done) | (simp; omega) | omega)
  have z3 := k.size
  have q3a := A.1
  have q3b := A.2.1
  have q4a := B.1
  have q4b := B.2.1
  have q5a := C.1
  have q5b := C.2.1
  go_wp2_with fail
  refine (awake2 _).mono ?_; rintro e w4 ⟨rfl, b4⟩
  clear q3a q3b q4a q4b q5a q5b
  have A := A.below b4 rfl
  have B := B.below b4 rfl
  have C := C.below b4 rfl
  have lA := A.2.2.2.2
  have lB := B.2.2.2.2
  have lC := C.2.2.2.2
  have k := bnextW k b4 (by first | (simp; done) | (simp; omega) | omega)
  have z4 := k.size
  go_wp2
  go_ret
  exact ⟨rfl, k⟩

set_option maxHeartbeats 4000000 in
set_option maxRecDepth 20000 in
theorem ring_l3 (g1 g2 g3 : Bool) (s1 s2 s3 : ByteArray) (w : World) (i1 : IVal g1 s1) (i2 : IVal g2 s2) (i3 : IVal g3 s3) (l1 : (s1.size : Int) ≤ 30) (l2 : (s2.size : Int) ≤ 30) (l3 : ¬ (s3.size : Int) ≤ 30) (m1 : s1.size ≤ 9223372036854775807) (m2 : s2.size ≤ 9223372036854775807) (m3 : s3.size ≤ 9223372036854775807) :
    Calls Try.prog 9 #[.agg #[.bool g1, .string s1], .agg #[.bool g2, .string s2], .agg #[.bool g3, .string s3]] w fun e w' => e = .returned (.bool true) ∧ Below w.heap.size w w' := by
  have I1 := Lib.hid i1; clear i1
  have I2 := Lib.hid i2; clear i2
  have I3 := Lib.hid i3; clear i3
  have k := Below.refl w.heap.size w
  have A := Two.new w (.bool g1) (.string s1) 24 (w.heap.size) (by first | (simp; done) | (simp; omega) | omega)
  have k := k.alloc (by first | (simp; done) | (simp; omega) | omega) (.cells #[.bool g1, .string s1] 24)
  have A := A.alloc (.cells #[.bool g2, .string s2] 24)
  have B := Two.new (w.alloc (.cells #[.bool g1, .string s1] 24)) (.bool g2) (.string s2) 24 (w.heap.size + 1) (by first | (simp; done) | (simp; omega) | omega)
  have k := k.alloc (by first | (simp; done) | (simp; omega) | omega) (.cells #[.bool g2, .string s2] 24)
  have A := A.alloc (.cells #[.bool g3, .string s3] 24)
  have B := B.alloc (.cells #[.bool g3, .string s3] 24)
  have C := Two.new ((w.alloc (.cells #[.bool g1, .string s1] 24)).alloc (.cells #[.bool g2, .string s2] 24)) (.bool g3) (.string s3) 24 (w.heap.size + 1 + 1) (by first | (simp; done) | (simp; omega) | omega)
  have k := k.alloc (by first | (simp; done) | (simp; omega) | omega) (.cells #[.bool g3, .string s3] 24)
  go_enter Try.func9, Try.ntmps9
  go_wp2_with fail
  refine (ivalid_t g1 s1 _ I1.out).mono ?_; rintro e w1 ⟨rfl, b1⟩
  have A := A.below b1 rfl
  have B := B.below b1 rfl
  have C := C.below b1 rfl
  have lA := A.2.2.2.2
  have lB := B.2.2.2.2
  have lC := C.2.2.2.2
  have k := bnextW k b1 (by first | (simp; done) | (simp; omega) | omega)
  have z1 := k.size
  have q1a := B.1
  have q1b := B.2.1
  go_wp2_with fail
  refine (ivalid_t g2 s2 _ I2.out).mono ?_; rintro e w2 ⟨rfl, b2⟩
  clear q1a q1b
  have A := A.below b2 rfl
  have B := B.below b2 rfl
  have C := C.below b2 rfl
  have lA := A.2.2.2.2
  have lB := B.2.2.2.2
  have lC := C.2.2.2.2
  have k := bnextW k b2 (by first | (simp; done) | (simp; omega) | omega)
  have z2 := k.size
  have q2a := C.1
  have q2b := C.2.1
  go_wp2_with fail
  refine (ivalid_t g3 s3 _ I3.out).mono ?_; rintro e w3 ⟨rfl, b3⟩
  clear q2a q2b
  have A := A.below b3 rfl
  have B := B.below b3 rfl
  have C := C.below b3 rfl
  have lA := A.2.2.2.2
  have lB := B.2.2.2.2
  have lC := C.2.2.2.2
  have k := bnextW k b3 (by first | (simp; done) | (simp; omega) | omega)
  have z3 := k.size
  have q3a := A.1
  have q3b := A.2.1
  have q4a := B.1
  have q4b := B.2.1
  have q5a := C.1
  have q5b := C.2.1
  go_wp2_with fail
  refine (awake2 _).mono ?_; rintro e w4 ⟨rfl, b4⟩
  clear q3a q3b q4a q4b q5a q5b
  have A := A.below b4 rfl
  have B := B.below b4 rfl
  have C := C.below b4 rfl
  have lA := A.2.2.2.2
  have lB := B.2.2.2.2
  have lC := C.2.2.2.2
  have k := bnextW k b4 (by first | (simp; done) | (simp; omega) | omega)
  have z4 := k.size
  go_wp2
  go_ret
  exact ⟨rfl, k⟩

theorem keep12S {w w1 w2 : World} {x0 x1 x2 x3 x4 x5 x6 x7 x8 x9 x10 x11 : Nat} {x0a x0b x1a x1b x2a x2b x3a x3b x4a x4b x5a x5b x6a x6b x7a x7b x8a x8b x9a x9b x10a x10b x11a x11b : Value} (k9 : Below w1.heap.size w1 w2)
    (h : w1.cell? ⟨x0, 0, none⟩ = some x0a ∧ w1.cell? ⟨x0, 1, none⟩ = some x0b ∧ w1.cell? ⟨x1, 0, none⟩ = some x1a ∧ w1.cell? ⟨x1, 1, none⟩ = some x1b ∧ w1.cell? ⟨x2, 0, none⟩ = some x2a ∧ w1.cell? ⟨x2, 1, none⟩ = some x2b ∧ w1.cell? ⟨x3, 0, none⟩ = some x3a ∧ w1.cell? ⟨x3, 1, none⟩ = some x3b ∧ w1.cell? ⟨x4, 0, none⟩ = some x4a ∧ w1.cell? ⟨x4, 1, none⟩ = some x4b ∧ w1.cell? ⟨x5, 0, none⟩ = some x5a ∧ w1.cell? ⟨x5, 1, none⟩ = some x5b ∧ w1.cell? ⟨x6, 0, none⟩ = some x6a ∧ w1.cell? ⟨x6, 1, none⟩ = some x6b ∧ w1.cell? ⟨x7, 0, none⟩ = some x7a ∧ w1.cell? ⟨x7, 1, none⟩ = some x7b ∧ w1.cell? ⟨x8, 0, none⟩ = some x8a ∧ w1.cell? ⟨x8, 1, none⟩ = some x8b ∧ w1.cell? ⟨x9, 0, none⟩ = some x9a ∧ w1.cell? ⟨x9, 1, none⟩ = some x9b ∧ w1.cell? ⟨x10, 0, none⟩ = some x10a ∧ w1.cell? ⟨x10, 1, none⟩ = some x10b ∧ w1.cell? ⟨x11, 0, none⟩ = some x11a ∧ w1.cell? ⟨x11, 1, none⟩ = some x11b ∧ Below w.heap.size w w1) :
    w2.cell? ⟨x0, 0, none⟩ = some x0a ∧ w2.cell? ⟨x0, 1, none⟩ = some x0b ∧ w2.cell? ⟨x1, 0, none⟩ = some x1a ∧ w2.cell? ⟨x1, 1, none⟩ = some x1b ∧ w2.cell? ⟨x2, 0, none⟩ = some x2a ∧ w2.cell? ⟨x2, 1, none⟩ = some x2b ∧ w2.cell? ⟨x3, 0, none⟩ = some x3a ∧ w2.cell? ⟨x3, 1, none⟩ = some x3b ∧ w2.cell? ⟨x4, 0, none⟩ = some x4a ∧ w2.cell? ⟨x4, 1, none⟩ = some x4b ∧ w2.cell? ⟨x5, 0, none⟩ = some x5a ∧ w2.cell? ⟨x5, 1, none⟩ = some x5b ∧ w2.cell? ⟨x6, 0, none⟩ = some x6a ∧ w2.cell? ⟨x6, 1, none⟩ = some x6b ∧ w2.cell? ⟨x7, 0, none⟩ = some x7a ∧ w2.cell? ⟨x7, 1, none⟩ = some x7b ∧ w2.cell? ⟨x8, 0, none⟩ = some x8a ∧ w2.cell? ⟨x8, 1, none⟩ = some x8b ∧ w2.cell? ⟨x9, 0, none⟩ = some x9a ∧ w2.cell? ⟨x9, 1, none⟩ = some x9b ∧ w2.cell? ⟨x10, 0, none⟩ = some x10a ∧ w2.cell? ⟨x10, 1, none⟩ = some x10b ∧ w2.cell? ⟨x11, 0, none⟩ = some x11a ∧ w2.cell? ⟨x11, 1, none⟩ = some x11b ∧ Below w.heap.size w w2 := by
  obtain ⟨h0, h1, h2, h3, h4, h5, h6, h7, h8, h9, h10, h11, h12, h13, h14, h15, h16, h17, h18, h19, h20, h21, h22, h23, k⟩ := h
  exact ⟨keepc k9 h0, keepc k9 h1, keepc k9 h2, keepc k9 h3, keepc k9 h4, keepc k9 h5, keepc k9 h6, keepc k9 h7, keepc k9 h8, keepc k9 h9, keepc k9 h10, keepc k9 h11, keepc k9 h12, keepc k9 h13, keepc k9 h14, keepc k9 h15, keepc k9 h16, keepc k9 h17, keepc k9 h18, keepc k9 h19, keepc k9 h20, keepc k9 h21, keepc k9 h22, keepc k9 h23, keepb k k9⟩
theorem keep12L {w w1 : World} {x0 x1 x2 x3 x4 x5 x6 x7 x8 x9 x10 x11 : Nat} {x0a x0b x1a x1b x2a x2b x3a x3b x4a x4b x5a x5b x6a x6b x7a x7b x8a x8b x9a x9b x10a x10b x11a x11b : Value}
    (h : w1.cell? ⟨x0, 0, none⟩ = some x0a ∧ w1.cell? ⟨x0, 1, none⟩ = some x0b ∧ w1.cell? ⟨x1, 0, none⟩ = some x1a ∧ w1.cell? ⟨x1, 1, none⟩ = some x1b ∧ w1.cell? ⟨x2, 0, none⟩ = some x2a ∧ w1.cell? ⟨x2, 1, none⟩ = some x2b ∧ w1.cell? ⟨x3, 0, none⟩ = some x3a ∧ w1.cell? ⟨x3, 1, none⟩ = some x3b ∧ w1.cell? ⟨x4, 0, none⟩ = some x4a ∧ w1.cell? ⟨x4, 1, none⟩ = some x4b ∧ w1.cell? ⟨x5, 0, none⟩ = some x5a ∧ w1.cell? ⟨x5, 1, none⟩ = some x5b ∧ w1.cell? ⟨x6, 0, none⟩ = some x6a ∧ w1.cell? ⟨x6, 1, none⟩ = some x6b ∧ w1.cell? ⟨x7, 0, none⟩ = some x7a ∧ w1.cell? ⟨x7, 1, none⟩ = some x7b ∧ w1.cell? ⟨x8, 0, none⟩ = some x8a ∧ w1.cell? ⟨x8, 1, none⟩ = some x8b ∧ w1.cell? ⟨x9, 0, none⟩ = some x9a ∧ w1.cell? ⟨x9, 1, none⟩ = some x9b ∧ w1.cell? ⟨x10, 0, none⟩ = some x10a ∧ w1.cell? ⟨x10, 1, none⟩ = some x10b ∧ w1.cell? ⟨x11, 0, none⟩ = some x11a ∧ w1.cell? ⟨x11, 1, none⟩ = some x11b ∧ Below w.heap.size w w1) : Below w.heap.size w w1 := by
  obtain ⟨h0, h1, h2, h3, h4, h5, h6, h7, h8, h9, h10, h11, h12, h13, h14, h15, h16, h17, h18, h19, h20, h21, h22, h23, k⟩ := h
  exact k

set_option maxHeartbeats 16000000 in
set_option maxRecDepth 400000 in
theorem ring_same (g1 g2 g3 GAB GBC GX GP GQ GR GD : Bool) (s1 s2 s3 SAB SBC SX SP SQ SR SD : ByteArray) (d c2 : Int) (w : World) (i1 : IVal g1 s1) (i2 : IVal g2 s2) (i3 : IVal g3 s3) (l1 : (s1.size : Int) ≤ 30) (l2 : (s2.size : Int) ≤ 30) (l3 : (s3.size : Int) ≤ 30) (eg : g1 = g2) (es : s1 = s2) (d1 : -1 ≤ d) (d2 : d ≤ 1) (e2 : (d == 0) = true) (e3 : (-d == 0) = true) (e4 : IntKind.i64.wrap (-d) = -d) (e5 : wrap64 (-d) = -d)
    (h_ab : ∀ w, Calls Try.prog 26 #[.agg #[.bool g1, .string s1], .agg #[.bool g2, .string s2]] w fun e w' => e = .returned (.tuple #[.agg #[.bool GAB, .string SAB], .int .i64 0]) ∧ Below w.heap.size w w')
    (h_ba : ∀ w, Calls Try.prog 26 #[.agg #[.bool g2, .string s2], .agg #[.bool g1, .string s1]] w fun e w' => e = .returned (.tuple #[.agg #[.bool GAB, .string SAB], .int .i64 0]) ∧ Below w.heap.size w w')
    (h_bc : ∀ w, Calls Try.prog 26 #[.agg #[.bool g2, .string s2], .agg #[.bool g3, .string s3]] w fun e w' => e = .returned (.tuple #[.agg #[.bool GBC, .string SBC], .int .i64 0]) ∧ Below w.heap.size w w')
    (h_bk : ∀ w, Calls Try.prog 28 #[.agg #[.bool GAB, .string SAB], .agg #[.bool g2, .string s2]] w fun e w' => e = .returned (.tuple #[.agg #[.bool g1, .string s1], .int .i64 0]) ∧ Below w.heap.size w w')
    (h_x : ∀ w, Calls Try.prog 26 #[.agg #[.bool GAB, .string SAB], .agg #[.bool g3, .string s3]] w fun e w' => e = .returned (.tuple #[.agg #[.bool GX, .string SX], .int .i64 0]) ∧ Below w.heap.size w w')
    (h_y : ∀ w, Calls Try.prog 26 #[.agg #[.bool g1, .string s1], .agg #[.bool GBC, .string SBC]] w fun e w' => e = .returned (.tuple #[.agg #[.bool GX, .string SX], .int .i64 0]) ∧ Below w.heap.size w w')
    (h_p : ∀ w, Calls Try.prog 30 #[.agg #[.bool g1, .string s1], .agg #[.bool GBC, .string SBC]] w fun e w' => e = .returned (.tuple #[.agg #[.bool GP, .string SP], .int .i64 0]) ∧ Below w.heap.size w w')
    (h_q : ∀ w, Calls Try.prog 30 #[.agg #[.bool g1, .string s1], .agg #[.bool g2, .string s2]] w fun e w' => e = .returned (.tuple #[.agg #[.bool GQ, .string SQ], .int .i64 0]) ∧ Below w.heap.size w w')
    (h_r : ∀ w, Calls Try.prog 30 #[.agg #[.bool g1, .string s1], .agg #[.bool g3, .string s3]] w fun e w' => e = .returned (.tuple #[.agg #[.bool GR, .string SR], .int .i64 0]) ∧ Below w.heap.size w w')
    (h_s : ∀ w, Calls Try.prog 26 #[.agg #[.bool GQ, .string SQ], .agg #[.bool GR, .string SR]] w fun e w' => e = .returned (.tuple #[.agg #[.bool GP, .string SP], .int .i64 0]) ∧ Below w.heap.size w w')
    (h_t : ∀ w, Calls Try.prog 30 #[.agg #[.bool g2, .string s2], .agg #[.bool g1, .string s1]] w fun e w' => e = .returned (.tuple #[.agg #[.bool GQ, .string SQ], .int .i64 0]) ∧ Below w.heap.size w w')
    (h_d : ∀ w, Calls Try.prog 28 #[.agg #[.bool g1, .string s1], .agg #[.bool g2, .string s2]] w fun e w' => e = .returned (.tuple #[.agg #[.bool GD, .string SD], .int .i64 0]) ∧ Below w.heap.size w w')
    (h_n : ∀ w, Calls Try.prog 24 #[.agg #[.bool g1, .string s1], .agg #[.bool g2, .string s2]] w fun e w' => e = .returned (.int .i64 (-d)) ∧ Below w.heap.size w w')
    (h_nb : ∀ w, Calls Try.prog 24 #[.agg #[.bool g2, .string s2], .agg #[.bool g1, .string s1]] w fun e w' => e = .returned (.int .i64 d) ∧ Below w.heap.size w w')
    (h_nd : ∀ w, Calls Try.prog 24 #[.agg #[.bool GD, .string SD], .agg #[.bool false, .string ⟨#[]⟩]] w fun e w' => e = .returned (.int .i64 (-d)) ∧ Below w.heap.size w w')
    (h_na : ∀ w, Calls Try.prog 24 #[.agg #[.bool GAB, .string SAB], .agg #[.bool GBC, .string SBC]] w fun e w' => e = .returned (.int .i64 c2) ∧ Below w.heap.size w w')
    (h_nc : ∀ w, Calls Try.prog 24 #[.agg #[.bool g1, .string s1], .agg #[.bool g3, .string s3]] w fun e w' => e = .returned (.int .i64 c2) ∧ Below w.heap.size w w') :
    Calls Try.prog 9 #[.agg #[.bool g1, .string s1], .agg #[.bool g2, .string s2], .agg #[.bool g3, .string s3]] w fun e w' => e = .returned (.bool true) ∧ Below w.heap.size w w' := by
  have I1 := Lib.hid i1; clear i1
  have I2 := Lib.hid i2; clear i2
  have I3 := Lib.hid i3; clear i3
  have H_ab := Lib.hid h_ab; clear h_ab
  have H_ba := Lib.hid h_ba; clear h_ba
  have H_bc := Lib.hid h_bc; clear h_bc
  have H_bk := Lib.hid h_bk; clear h_bk
  have H_x := Lib.hid h_x; clear h_x
  have H_y := Lib.hid h_y; clear h_y
  have H_p := Lib.hid h_p; clear h_p
  have H_q := Lib.hid h_q; clear h_q
  have H_r := Lib.hid h_r; clear h_r
  have H_s := Lib.hid h_s; clear h_s
  have H_t := Lib.hid h_t; clear h_t
  have H_d := Lib.hid h_d; clear h_d
  have H_n := Lib.hid h_n; clear h_n
  have H_nb := Lib.hid h_nb; clear h_nb
  have H_nd := Lib.hid h_nd; clear h_nd
  have H_na := Lib.hid h_na; clear h_na
  have H_nc := Lib.hid h_nc; clear h_nc
  subst eg es
  have k := Below.refl w.heap.size w
  have A := Two.new w (.bool g1) (.string s1) 24 (w.heap.size) (by first | (simp; done) | (simp; omega) | omega)
  have k := k.alloc (by first | (simp; done) | (simp; omega) | omega) (.cells #[.bool g1, .string s1] 24)
  have A := A.alloc (.cells #[.bool g1, .string s1] 24)
  have B := Two.new (w.alloc (.cells #[.bool g1, .string s1] 24)) (.bool g1) (.string s1) 24 (w.heap.size + 1) (by first | (simp; done) | (simp; omega) | omega)
  have k := k.alloc (by first | (simp; done) | (simp; omega) | omega) (.cells #[.bool g1, .string s1] 24)
  have A := A.alloc (.cells #[.bool g3, .string s3] 24)
  have B := B.alloc (.cells #[.bool g3, .string s3] 24)
  have C := Two.new ((w.alloc (.cells #[.bool g1, .string s1] 24)).alloc (.cells #[.bool g1, .string s1] 24)) (.bool g3) (.string s3) 24 (w.heap.size + 1 + 1) (by first | (simp; done) | (simp; omega) | omega)
  have k := k.alloc (by first | (simp; done) | (simp; omega) | omega) (.cells #[.bool g3, .string s3] 24)
  go_enter Try.func9, Try.ntmps9
  go_wp2_with fail
  refine (ivalid_t g1 s1 _ I1.out).mono ?_; rintro e w1 ⟨rfl, b1⟩
  have A := A.below b1 rfl
  have B := B.below b1 rfl
  have C := C.below b1 rfl
  have lA := A.2.2.2.2
  have lB := B.2.2.2.2
  have lC := C.2.2.2.2
  have k := bnextW k b1 (by first | (simp; done) | (simp; omega) | omega)
  have z1 := k.size
  have q1a := B.1
  have q1b := B.2.1
  go_wp2_with fail
  refine (ivalid_t g1 s1 _ I2.out).mono ?_; rintro e w2 ⟨rfl, b2⟩
  clear q1a q1b
  have A := A.below b2 rfl
  have B := B.below b2 rfl
  have C := C.below b2 rfl
  have lA := A.2.2.2.2
  have lB := B.2.2.2.2
  have lC := C.2.2.2.2
  have k := bnextW k b2 (by first | (simp; done) | (simp; omega) | omega)
  have z2 := k.size
  have q2a := C.1
  have q2b := C.2.1
  go_wp2_with fail
  refine (ivalid_t g3 s3 _ I3.out).mono ?_; rintro e w3 ⟨rfl, b3⟩
  clear q2a q2b
  have A := A.below b3 rfl
  have B := B.below b3 rfl
  have C := C.below b3 rfl
  have lA := A.2.2.2.2
  have lB := B.2.2.2.2
  have lC := C.2.2.2.2
  have k := bnextW k b3 (by first | (simp; done) | (simp; omega) | omega)
  have z3 := k.size
  have q3a := A.1
  have q3b := A.2.1
  have q4a := B.1
  have q4b := B.2.1
  have q5a := C.1
  have q5b := C.2.1
  go_wp2_with fail
  refine (H_ab.out _).mono ?_; rintro e w4 ⟨rfl, b4⟩
  clear q3a q3b q4a q4b q5a q5b
  have A := A.below b4 rfl
  have B := B.below b4 rfl
  have C := C.below b4 rfl
  have lA := A.2.2.2.2
  have lB := B.2.2.2.2
  have lC := C.2.2.2.2
  have k := bnextW k b4 (by first | (simp; done) | (simp; omega) | omega)
  have z4 := k.size
  have A := A.alloc (.cells #[.bool GAB, .string SAB] 24)
  have B := B.alloc (.cells #[.bool GAB, .string SAB] 24)
  have C := C.alloc (.cells #[.bool GAB, .string SAB] 24)
  have T7 := Two.new w4 (.bool GAB) (.string SAB) 24 (w4.heap.size) (by first | (simp; done) | (simp; omega) | omega)
  have k := k.alloc (by first | (simp; done) | (simp; omega) | omega) (.cells #[.bool GAB, .string SAB] 24)
  have q6a := B.1
  have q6b := B.2.1
  have q7a := A.1
  have q7b := A.2.1
  go_wp2_with fail
  refine (H_ba.out _).mono ?_; rintro e w5 ⟨rfl, b5⟩
  clear q6a q6b q7a q7b
  have A := A.below b5 rfl
  have B := B.below b5 rfl
  have C := C.below b5 rfl
  have T7 := T7.below b5 rfl
  have lA := A.2.2.2.2
  have lB := B.2.2.2.2
  have lC := C.2.2.2.2
  have lT7 := T7.2.2.2.2
  have k := bnextW k b5 (by first | (simp; done) | (simp; omega) | omega)
  have z5 := k.size
  have A := A.alloc (.cells #[.bool GAB, .string SAB] 24)
  have B := B.alloc (.cells #[.bool GAB, .string SAB] 24)
  have C := C.alloc (.cells #[.bool GAB, .string SAB] 24)
  have T7 := T7.alloc (.cells #[.bool GAB, .string SAB] 24)
  have T9 := Two.new w5 (.bool GAB) (.string SAB) 24 (w5.heap.size) (by first | (simp; done) | (simp; omega) | omega)
  have k := k.alloc (by first | (simp; done) | (simp; omega) | omega) (.cells #[.bool GAB, .string SAB] 24)
  have q8a := B.1
  have q8b := B.2.1
  have q9a := C.1
  have q9b := C.2.1
  go_wp2_with fail
  refine (H_bc.out _).mono ?_; rintro e w6 ⟨rfl, b6⟩
  clear q8a q8b q9a q9b
  have A := A.below b6 rfl
  have B := B.below b6 rfl
  have C := C.below b6 rfl
  have T7 := T7.below b6 rfl
  have T9 := T9.below b6 rfl
  have lA := A.2.2.2.2
  have lB := B.2.2.2.2
  have lC := C.2.2.2.2
  have lT7 := T7.2.2.2.2
  have lT9 := T9.2.2.2.2
  have k := bnextW k b6 (by first | (simp; done) | (simp; omega) | omega)
  have z6 := k.size
  have A := A.alloc (.cells #[.bool GBC, .string SBC] 24)
  have B := B.alloc (.cells #[.bool GBC, .string SBC] 24)
  have C := C.alloc (.cells #[.bool GBC, .string SBC] 24)
  have T7 := T7.alloc (.cells #[.bool GBC, .string SBC] 24)
  have T9 := T9.alloc (.cells #[.bool GBC, .string SBC] 24)
  have T11 := Two.new w6 (.bool GBC) (.string SBC) 24 (w6.heap.size) (by first | (simp; done) | (simp; omega) | omega)
  have k := k.alloc (by first | (simp; done) | (simp; omega) | omega) (.cells #[.bool GBC, .string SBC] 24)
  have q10a := T7.1
  have q10b := T7.2.1
  have q11a := B.1
  have q11b := B.2.1
  go_wp2_with fail
  refine (H_bk.out _).mono ?_; rintro e w7 ⟨rfl, b7⟩
  clear q10a q10b q11a q11b
  have A := A.below b7 rfl
  have B := B.below b7 rfl
  have C := C.below b7 rfl
  have T7 := T7.below b7 rfl
  have T9 := T9.below b7 rfl
  have T11 := T11.below b7 rfl
  have lA := A.2.2.2.2
  have lB := B.2.2.2.2
  have lC := C.2.2.2.2
  have lT7 := T7.2.2.2.2
  have lT9 := T9.2.2.2.2
  have lT11 := T11.2.2.2.2
  have k := bnextW k b7 (by first | (simp; done) | (simp; omega) | omega)
  have z7 := k.size
  have A := A.alloc (.cells #[.bool g1, .string s1] 24)
  have B := B.alloc (.cells #[.bool g1, .string s1] 24)
  have C := C.alloc (.cells #[.bool g1, .string s1] 24)
  have T7 := T7.alloc (.cells #[.bool g1, .string s1] 24)
  have T9 := T9.alloc (.cells #[.bool g1, .string s1] 24)
  have T11 := T11.alloc (.cells #[.bool g1, .string s1] 24)
  have T13 := Two.new w7 (.bool g1) (.string s1) 24 (w7.heap.size) (by first | (simp; done) | (simp; omega) | omega)
  have k := k.alloc (by first | (simp; done) | (simp; omega) | omega) (.cells #[.bool g1, .string s1] 24)
  have q12a := T7.1
  have q12b := T7.2.1
  have q13a := C.1
  have q13b := C.2.1
  have q14a := T7.1
  have q14b := T7.2.1
  have q15a := T9.1
  have q15b := T9.2.1
  have q16a := T13.1
  have q16b := T13.2.1
  have q17a := A.1
  have q17b := A.2.1
  go_wp2_with fail
  refine (H_x.out _).mono ?_; rintro e w8 ⟨rfl, b8⟩
  clear q12a q12b q13a q13b q14a q14b q15a q15b q16a q16b q17a q17b
  have A := A.below b8 rfl
  have B := B.below b8 rfl
  have C := C.below b8 rfl
  have T7 := T7.below b8 rfl
  have T9 := T9.below b8 rfl
  have T11 := T11.below b8 rfl
  have T13 := T13.below b8 rfl
  have lA := A.2.2.2.2
  have lB := B.2.2.2.2
  have lC := C.2.2.2.2
  have lT7 := T7.2.2.2.2
  have lT9 := T9.2.2.2.2
  have lT11 := T11.2.2.2.2
  have lT13 := T13.2.2.2.2
  have k := bnextW k b8 (by first | (simp; done) | (simp; omega) | omega)
  have z8 := k.size
  have A := A.alloc (.cells #[.bool GX, .string SX] 24)
  have B := B.alloc (.cells #[.bool GX, .string SX] 24)
  have C := C.alloc (.cells #[.bool GX, .string SX] 24)
  have T7 := T7.alloc (.cells #[.bool GX, .string SX] 24)
  have T9 := T9.alloc (.cells #[.bool GX, .string SX] 24)
  have T11 := T11.alloc (.cells #[.bool GX, .string SX] 24)
  have T13 := T13.alloc (.cells #[.bool GX, .string SX] 24)
  have T15 := Two.new w8 (.bool GX) (.string SX) 24 (w8.heap.size) (by first | (simp; done) | (simp; omega) | omega)
  have k := k.alloc (by first | (simp; done) | (simp; omega) | omega) (.cells #[.bool GX, .string SX] 24)
  have q18a := A.1
  have q18b := A.2.1
  have q19a := T11.1
  have q19b := T11.2.1
  go_wp2_with fail
  refine (H_y.out _).mono ?_; rintro e w9 ⟨rfl, b9⟩
  clear q18a q18b q19a q19b
  have A := A.below b9 rfl
  have B := B.below b9 rfl
  have C := C.below b9 rfl
  have T7 := T7.below b9 rfl
  have T9 := T9.below b9 rfl
  have T11 := T11.below b9 rfl
  have T13 := T13.below b9 rfl
  have T15 := T15.below b9 rfl
  have lA := A.2.2.2.2
  have lB := B.2.2.2.2
  have lC := C.2.2.2.2
  have lT7 := T7.2.2.2.2
  have lT9 := T9.2.2.2.2
  have lT11 := T11.2.2.2.2
  have lT13 := T13.2.2.2.2
  have lT15 := T15.2.2.2.2
  have k := bnextW k b9 (by first | (simp; done) | (simp; omega) | omega)
  have z9 := k.size
  have A := A.alloc (.cells #[.bool GX, .string SX] 24)
  have B := B.alloc (.cells #[.bool GX, .string SX] 24)
  have C := C.alloc (.cells #[.bool GX, .string SX] 24)
  have T7 := T7.alloc (.cells #[.bool GX, .string SX] 24)
  have T9 := T9.alloc (.cells #[.bool GX, .string SX] 24)
  have T11 := T11.alloc (.cells #[.bool GX, .string SX] 24)
  have T13 := T13.alloc (.cells #[.bool GX, .string SX] 24)
  have T15 := T15.alloc (.cells #[.bool GX, .string SX] 24)
  have T16 := Two.new w9 (.bool GX) (.string SX) 24 (w9.heap.size) (by first | (simp; done) | (simp; omega) | omega)
  have k := k.alloc (by first | (simp; done) | (simp; omega) | omega) (.cells #[.bool GX, .string SX] 24)
  have q20a := A.1
  have q20b := A.2.1
  have q21a := T11.1
  have q21b := T11.2.1
  go_wp2_with fail
  refine (H_p.out _).mono ?_; rintro e w10 ⟨rfl, b10⟩
  clear q20a q20b q21a q21b
  have A := A.below b10 rfl
  have B := B.below b10 rfl
  have C := C.below b10 rfl
  have T7 := T7.below b10 rfl
  have T9 := T9.below b10 rfl
  have T11 := T11.below b10 rfl
  have T13 := T13.below b10 rfl
  have T15 := T15.below b10 rfl
  have T16 := T16.below b10 rfl
  have lA := A.2.2.2.2
  have lB := B.2.2.2.2
  have lC := C.2.2.2.2
  have lT7 := T7.2.2.2.2
  have lT9 := T9.2.2.2.2
  have lT11 := T11.2.2.2.2
  have lT13 := T13.2.2.2.2
  have lT15 := T15.2.2.2.2
  have lT16 := T16.2.2.2.2
  have k := bnextW k b10 (by first | (simp; done) | (simp; omega) | omega)
  have z10 := k.size
  have A := A.alloc (.cells #[.bool GP, .string SP] 24)
  have B := B.alloc (.cells #[.bool GP, .string SP] 24)
  have C := C.alloc (.cells #[.bool GP, .string SP] 24)
  have T7 := T7.alloc (.cells #[.bool GP, .string SP] 24)
  have T9 := T9.alloc (.cells #[.bool GP, .string SP] 24)
  have T11 := T11.alloc (.cells #[.bool GP, .string SP] 24)
  have T13 := T13.alloc (.cells #[.bool GP, .string SP] 24)
  have T15 := T15.alloc (.cells #[.bool GP, .string SP] 24)
  have T16 := T16.alloc (.cells #[.bool GP, .string SP] 24)
  have T17 := Two.new w10 (.bool GP) (.string SP) 24 (w10.heap.size) (by first | (simp; done) | (simp; omega) | omega)
  have k := k.alloc (by first | (simp; done) | (simp; omega) | omega) (.cells #[.bool GP, .string SP] 24)
  have q22a := A.1
  have q22b := A.2.1
  have q23a := B.1
  have q23b := B.2.1
  go_wp2_with fail
  refine (H_q.out _).mono ?_; rintro e w11 ⟨rfl, b11⟩
  clear q22a q22b q23a q23b
  have A := A.below b11 rfl
  have B := B.below b11 rfl
  have C := C.below b11 rfl
  have T7 := T7.below b11 rfl
  have T9 := T9.below b11 rfl
  have T11 := T11.below b11 rfl
  have T13 := T13.below b11 rfl
  have T15 := T15.below b11 rfl
  have T16 := T16.below b11 rfl
  have T17 := T17.below b11 rfl
  have lA := A.2.2.2.2
  have lB := B.2.2.2.2
  have lC := C.2.2.2.2
  have lT7 := T7.2.2.2.2
  have lT9 := T9.2.2.2.2
  have lT11 := T11.2.2.2.2
  have lT13 := T13.2.2.2.2
  have lT15 := T15.2.2.2.2
  have lT16 := T16.2.2.2.2
  have lT17 := T17.2.2.2.2
  have k := bnextW k b11 (by first | (simp; done) | (simp; omega) | omega)
  have z11 := k.size
  have A := A.alloc (.cells #[.bool GQ, .string SQ] 24)
  have B := B.alloc (.cells #[.bool GQ, .string SQ] 24)
  have C := C.alloc (.cells #[.bool GQ, .string SQ] 24)
  have T7 := T7.alloc (.cells #[.bool GQ, .string SQ] 24)
  have T9 := T9.alloc (.cells #[.bool GQ, .string SQ] 24)
  have T11 := T11.alloc (.cells #[.bool GQ, .string SQ] 24)
  have T13 := T13.alloc (.cells #[.bool GQ, .string SQ] 24)
  have T15 := T15.alloc (.cells #[.bool GQ, .string SQ] 24)
  have T16 := T16.alloc (.cells #[.bool GQ, .string SQ] 24)
  have T17 := T17.alloc (.cells #[.bool GQ, .string SQ] 24)
  have T18 := Two.new w11 (.bool GQ) (.string SQ) 24 (w11.heap.size) (by first | (simp; done) | (simp; omega) | omega)
  have k := k.alloc (by first | (simp; done) | (simp; omega) | omega) (.cells #[.bool GQ, .string SQ] 24)
  have q24a := A.1
  have q24b := A.2.1
  have q25a := C.1
  have q25b := C.2.1
  go_wp2_with fail
  refine (H_r.out _).mono ?_; rintro e w12 ⟨rfl, b12⟩
  clear q24a q24b q25a q25b
  have A := A.below b12 rfl
  have B := B.below b12 rfl
  have C := C.below b12 rfl
  have T7 := T7.below b12 rfl
  have T9 := T9.below b12 rfl
  have T11 := T11.below b12 rfl
  have T13 := T13.below b12 rfl
  have T15 := T15.below b12 rfl
  have T16 := T16.below b12 rfl
  have T17 := T17.below b12 rfl
  have T18 := T18.below b12 rfl
  have lA := A.2.2.2.2
  have lB := B.2.2.2.2
  have lC := C.2.2.2.2
  have lT7 := T7.2.2.2.2
  have lT9 := T9.2.2.2.2
  have lT11 := T11.2.2.2.2
  have lT13 := T13.2.2.2.2
  have lT15 := T15.2.2.2.2
  have lT16 := T16.2.2.2.2
  have lT17 := T17.2.2.2.2
  have lT18 := T18.2.2.2.2
  have k := bnextW k b12 (by first | (simp; done) | (simp; omega) | omega)
  have z12 := k.size
  have A := A.alloc (.cells #[.bool GR, .string SR] 24)
  have B := B.alloc (.cells #[.bool GR, .string SR] 24)
  have C := C.alloc (.cells #[.bool GR, .string SR] 24)
  have T7 := T7.alloc (.cells #[.bool GR, .string SR] 24)
  have T9 := T9.alloc (.cells #[.bool GR, .string SR] 24)
  have T11 := T11.alloc (.cells #[.bool GR, .string SR] 24)
  have T13 := T13.alloc (.cells #[.bool GR, .string SR] 24)
  have T15 := T15.alloc (.cells #[.bool GR, .string SR] 24)
  have T16 := T16.alloc (.cells #[.bool GR, .string SR] 24)
  have T17 := T17.alloc (.cells #[.bool GR, .string SR] 24)
  have T18 := T18.alloc (.cells #[.bool GR, .string SR] 24)
  have T19 := Two.new w12 (.bool GR) (.string SR) 24 (w12.heap.size) (by first | (simp; done) | (simp; omega) | omega)
  have k := k.alloc (by first | (simp; done) | (simp; omega) | omega) (.cells #[.bool GR, .string SR] 24)
  have q26a := T18.1
  have q26b := T18.2.1
  have q27a := T19.1
  have q27b := T19.2.1
  go_wp2_with fail
  refine (H_s.out _).mono ?_; rintro e w13 ⟨rfl, b13⟩
  clear q26a q26b q27a q27b
  have A := A.below b13 rfl
  have B := B.below b13 rfl
  have C := C.below b13 rfl
  have T7 := T7.below b13 rfl
  have T9 := T9.below b13 rfl
  have T11 := T11.below b13 rfl
  have T13 := T13.below b13 rfl
  have T15 := T15.below b13 rfl
  have T16 := T16.below b13 rfl
  have T17 := T17.below b13 rfl
  have T18 := T18.below b13 rfl
  have T19 := T19.below b13 rfl
  have lA := A.2.2.2.2
  have lB := B.2.2.2.2
  have lC := C.2.2.2.2
  have lT7 := T7.2.2.2.2
  have lT9 := T9.2.2.2.2
  have lT11 := T11.2.2.2.2
  have lT13 := T13.2.2.2.2
  have lT15 := T15.2.2.2.2
  have lT16 := T16.2.2.2.2
  have lT17 := T17.2.2.2.2
  have lT18 := T18.2.2.2.2
  have lT19 := T19.2.2.2.2
  have k := bnextW k b13 (by first | (simp; done) | (simp; omega) | omega)
  have z13 := k.size
  have A := A.alloc (.cells #[.bool GP, .string SP] 24)
  have B := B.alloc (.cells #[.bool GP, .string SP] 24)
  have C := C.alloc (.cells #[.bool GP, .string SP] 24)
  have T7 := T7.alloc (.cells #[.bool GP, .string SP] 24)
  have T9 := T9.alloc (.cells #[.bool GP, .string SP] 24)
  have T11 := T11.alloc (.cells #[.bool GP, .string SP] 24)
  have T13 := T13.alloc (.cells #[.bool GP, .string SP] 24)
  have T15 := T15.alloc (.cells #[.bool GP, .string SP] 24)
  have T16 := T16.alloc (.cells #[.bool GP, .string SP] 24)
  have T17 := T17.alloc (.cells #[.bool GP, .string SP] 24)
  have T18 := T18.alloc (.cells #[.bool GP, .string SP] 24)
  have T19 := T19.alloc (.cells #[.bool GP, .string SP] 24)
  have T21 := Two.new w13 (.bool GP) (.string SP) 24 (w13.heap.size) (by first | (simp; done) | (simp; omega) | omega)
  have k := k.alloc (by first | (simp; done) | (simp; omega) | omega) (.cells #[.bool GP, .string SP] 24)
  have q28a := B.1
  have q28b := B.2.1
  have q29a := A.1
  have q29b := A.2.1
  go_wp2_with fail
  refine (H_t.out _).mono ?_; rintro e w14 ⟨rfl, b14⟩
  clear q28a q28b q29a q29b
  have A := A.below b14 rfl
  have B := B.below b14 rfl
  have C := C.below b14 rfl
  have T7 := T7.below b14 rfl
  have T9 := T9.below b14 rfl
  have T11 := T11.below b14 rfl
  have T13 := T13.below b14 rfl
  have T15 := T15.below b14 rfl
  have T16 := T16.below b14 rfl
  have T17 := T17.below b14 rfl
  have T18 := T18.below b14 rfl
  have T19 := T19.below b14 rfl
  have T21 := T21.below b14 rfl
  have lA := A.2.2.2.2
  have lB := B.2.2.2.2
  have lC := C.2.2.2.2
  have lT7 := T7.2.2.2.2
  have lT9 := T9.2.2.2.2
  have lT11 := T11.2.2.2.2
  have lT13 := T13.2.2.2.2
  have lT15 := T15.2.2.2.2
  have lT16 := T16.2.2.2.2
  have lT17 := T17.2.2.2.2
  have lT18 := T18.2.2.2.2
  have lT19 := T19.2.2.2.2
  have lT21 := T21.2.2.2.2
  have k := bnextW k b14 (by first | (simp; done) | (simp; omega) | omega)
  have z14 := k.size
  have A := A.alloc (.cells #[.bool GQ, .string SQ] 24)
  have B := B.alloc (.cells #[.bool GQ, .string SQ] 24)
  have C := C.alloc (.cells #[.bool GQ, .string SQ] 24)
  have T7 := T7.alloc (.cells #[.bool GQ, .string SQ] 24)
  have T9 := T9.alloc (.cells #[.bool GQ, .string SQ] 24)
  have T11 := T11.alloc (.cells #[.bool GQ, .string SQ] 24)
  have T13 := T13.alloc (.cells #[.bool GQ, .string SQ] 24)
  have T15 := T15.alloc (.cells #[.bool GQ, .string SQ] 24)
  have T16 := T16.alloc (.cells #[.bool GQ, .string SQ] 24)
  have T17 := T17.alloc (.cells #[.bool GQ, .string SQ] 24)
  have T18 := T18.alloc (.cells #[.bool GQ, .string SQ] 24)
  have T19 := T19.alloc (.cells #[.bool GQ, .string SQ] 24)
  have T21 := T21.alloc (.cells #[.bool GQ, .string SQ] 24)
  have T23 := Two.new w14 (.bool GQ) (.string SQ) 24 (w14.heap.size) (by first | (simp; done) | (simp; omega) | omega)
  have k := k.alloc (by first | (simp; done) | (simp; omega) | omega) (.cells #[.bool GQ, .string SQ] 24)
  have q30a := A.1
  have q30b := A.2.1
  have q31a := B.1
  have q31b := B.2.1
  go_wp2_with fail
  refine (H_d.out _).mono ?_; rintro e w15 ⟨rfl, b15⟩
  clear q30a q30b q31a q31b
  have A := A.below b15 rfl
  have B := B.below b15 rfl
  have C := C.below b15 rfl
  have T7 := T7.below b15 rfl
  have T9 := T9.below b15 rfl
  have T11 := T11.below b15 rfl
  have T13 := T13.below b15 rfl
  have T15 := T15.below b15 rfl
  have T16 := T16.below b15 rfl
  have T17 := T17.below b15 rfl
  have T18 := T18.below b15 rfl
  have T19 := T19.below b15 rfl
  have T21 := T21.below b15 rfl
  have T23 := T23.below b15 rfl
  have lA := A.2.2.2.2
  have lB := B.2.2.2.2
  have lC := C.2.2.2.2
  have lT7 := T7.2.2.2.2
  have lT9 := T9.2.2.2.2
  have lT11 := T11.2.2.2.2
  have lT13 := T13.2.2.2.2
  have lT15 := T15.2.2.2.2
  have lT16 := T16.2.2.2.2
  have lT17 := T17.2.2.2.2
  have lT18 := T18.2.2.2.2
  have lT19 := T19.2.2.2.2
  have lT21 := T21.2.2.2.2
  have lT23 := T23.2.2.2.2
  have k := bnextW k b15 (by first | (simp; done) | (simp; omega) | omega)
  have z15 := k.size
  have A := A.alloc (.cells #[.bool GD, .string SD] 24)
  have B := B.alloc (.cells #[.bool GD, .string SD] 24)
  have C := C.alloc (.cells #[.bool GD, .string SD] 24)
  have T7 := T7.alloc (.cells #[.bool GD, .string SD] 24)
  have T9 := T9.alloc (.cells #[.bool GD, .string SD] 24)
  have T11 := T11.alloc (.cells #[.bool GD, .string SD] 24)
  have T13 := T13.alloc (.cells #[.bool GD, .string SD] 24)
  have T15 := T15.alloc (.cells #[.bool GD, .string SD] 24)
  have T16 := T16.alloc (.cells #[.bool GD, .string SD] 24)
  have T17 := T17.alloc (.cells #[.bool GD, .string SD] 24)
  have T18 := T18.alloc (.cells #[.bool GD, .string SD] 24)
  have T19 := T19.alloc (.cells #[.bool GD, .string SD] 24)
  have T21 := T21.alloc (.cells #[.bool GD, .string SD] 24)
  have T23 := T23.alloc (.cells #[.bool GD, .string SD] 24)
  have T25 := Two.new w15 (.bool GD) (.string SD) 24 (w15.heap.size) (by first | (simp; done) | (simp; omega) | omega)
  have k := k.alloc (by first | (simp; done) | (simp; omega) | omega) (.cells #[.bool GD, .string SD] 24)
  have q32a := A.1
  have q32b := A.2.1
  have q33a := B.1
  have q33b := B.2.1
  go_wp2_with fail
  refine (H_n.out _).mono ?_; rintro e w16 ⟨rfl, b16⟩
  clear q32a q32b q33a q33b
  have A := A.below b16 rfl
  have B := B.below b16 rfl
  have C := C.below b16 rfl
  have T7 := T7.below b16 rfl
  have T9 := T9.below b16 rfl
  have T11 := T11.below b16 rfl
  have T13 := T13.below b16 rfl
  have T15 := T15.below b16 rfl
  have T16 := T16.below b16 rfl
  have T17 := T17.below b16 rfl
  have T18 := T18.below b16 rfl
  have T19 := T19.below b16 rfl
  have T21 := T21.below b16 rfl
  have T23 := T23.below b16 rfl
  have T25 := T25.below b16 rfl
  have lA := A.2.2.2.2
  have lB := B.2.2.2.2
  have lC := C.2.2.2.2
  have lT7 := T7.2.2.2.2
  have lT9 := T9.2.2.2.2
  have lT11 := T11.2.2.2.2
  have lT13 := T13.2.2.2.2
  have lT15 := T15.2.2.2.2
  have lT16 := T16.2.2.2.2
  have lT17 := T17.2.2.2.2
  have lT18 := T18.2.2.2.2
  have lT19 := T19.2.2.2.2
  have lT21 := T21.2.2.2.2
  have lT23 := T23.2.2.2.2
  have lT25 := T25.2.2.2.2
  have k := bnextW k b16 (by first | (simp; done) | (simp; omega) | omega)
  have z16 := k.size
  go_wp2
  go_region_held3 (fun w' => w'.cell? ⟨w8.heap.size, 0, none⟩ = some (.bool GX) ∧ w'.cell? ⟨w8.heap.size, 1, none⟩ = some (.string SX) ∧ w'.cell? ⟨w9.heap.size, 0, none⟩ = some (.bool GX) ∧ w'.cell? ⟨w9.heap.size, 1, none⟩ = some (.string SX) ∧ w'.cell? ⟨w10.heap.size, 0, none⟩ = some (.bool GP) ∧ w'.cell? ⟨w10.heap.size, 1, none⟩ = some (.string SP) ∧ w'.cell? ⟨w13.heap.size, 0, none⟩ = some (.bool GP) ∧ w'.cell? ⟨w13.heap.size, 1, none⟩ = some (.string SP) ∧ w'.cell? ⟨w11.heap.size, 0, none⟩ = some (.bool GQ) ∧ w'.cell? ⟨w11.heap.size, 1, none⟩ = some (.string SQ) ∧ w'.cell? ⟨w14.heap.size, 0, none⟩ = some (.bool GQ) ∧ w'.cell? ⟨w14.heap.size, 1, none⟩ = some (.string SQ) ∧ w'.cell? ⟨w.heap.size + 1, 0, none⟩ = some (.bool g1) ∧ w'.cell? ⟨w.heap.size + 1, 1, none⟩ = some (.string s1) ∧ w'.cell? ⟨w.heap.size, 0, none⟩ = some (.bool g1) ∧ w'.cell? ⟨w.heap.size, 1, none⟩ = some (.string s1) ∧ w'.cell? ⟨w15.heap.size, 0, none⟩ = some (.bool GD) ∧ w'.cell? ⟨w15.heap.size, 1, none⟩ = some (.string SD) ∧ w'.cell? ⟨w4.heap.size, 0, none⟩ = some (.bool GAB) ∧ w'.cell? ⟨w4.heap.size, 1, none⟩ = some (.string SAB) ∧ w'.cell? ⟨w6.heap.size, 0, none⟩ = some (.bool GBC) ∧ w'.cell? ⟨w6.heap.size, 1, none⟩ = some (.string SBC) ∧ w'.cell? ⟨w.heap.size + 1 + 1, 0, none⟩ = some (.bool g3) ∧ w'.cell? ⟨w.heap.size + 1 + 1, 1, none⟩ = some (.string s3) ∧ Below w.heap.size w w') (first | exact ⟨T15.1, T15.2.1, T16.1, T16.2.1, T17.1, T17.2.1, T21.1, T21.2.1, T18.1, T18.2.1, T23.1, T23.2.1, B.1, B.2.1, A.1, A.2.1, T25.1, T25.2.1, T7.1, T7.2.1, T11.1, T11.2.1, C.1, C.2.1, k.drew⟩ | exact keep12S b99 (by assumption))
    (first
    | (go_at_call 13; ((with_reducible refine (awake2 _).mono ?_); rintro e w99 ⟨rfl, b99⟩))
    | (go_at_call 16; ((with_reducible refine (of_nul _).mono ?_); rintro e w99 ⟨rfl, b99⟩))
    | (go_at_call 24; ((with_reducible refine (H_nb.out _).mono ?_); rintro e w99 ⟨rfl, b99⟩))
    | (go_at_call 24; ((with_reducible refine (H_nd.out _).mono ?_); rintro e w99 ⟨rfl, b99⟩))
    | (go_at_call 24; ((with_reducible refine (H_na.out _).mono ?_); rintro e w99 ⟨rfl, b99⟩))
    | (go_at_call 24; ((with_reducible refine (H_nc.out _).mono ?_); rintro e w99 ⟨rfl, b99⟩)))
  all_goals go_wp2
  all_goals go_ret
  all_goals exact ⟨rfl, keep12L (by assumption)⟩

set_option maxHeartbeats 16000000 in
set_option maxRecDepth 400000 in
theorem ring_sign (g1 g2 g3 GAB GBC GX GP GQ GR GD : Bool) (s1 s2 s3 SAB SBC SX SP SQ SR SD : ByteArray) (d c2 : Int) (w : World) (i1 : IVal g1 s1) (i2 : IVal g2 s2) (i3 : IVal g3 s3) (l1 : (s1.size : Int) ≤ 30) (l2 : (s2.size : Int) ≤ 30) (l3 : (s3.size : Int) ≤ 30) (en : (g1 == g2) = false) (d1 : -1 ≤ d) (d2 : d ≤ 1) (e2 : (d == 0) = false) (e3 : (-d == 0) = false) (e4 : IntKind.i64.wrap (-d) = -d) (e5 : wrap64 (-d) = -d)
    (h_ab : ∀ w, Calls Try.prog 26 #[.agg #[.bool g1, .string s1], .agg #[.bool g2, .string s2]] w fun e w' => e = .returned (.tuple #[.agg #[.bool GAB, .string SAB], .int .i64 0]) ∧ Below w.heap.size w w')
    (h_ba : ∀ w, Calls Try.prog 26 #[.agg #[.bool g2, .string s2], .agg #[.bool g1, .string s1]] w fun e w' => e = .returned (.tuple #[.agg #[.bool GAB, .string SAB], .int .i64 0]) ∧ Below w.heap.size w w')
    (h_bc : ∀ w, Calls Try.prog 26 #[.agg #[.bool g2, .string s2], .agg #[.bool g3, .string s3]] w fun e w' => e = .returned (.tuple #[.agg #[.bool GBC, .string SBC], .int .i64 0]) ∧ Below w.heap.size w w')
    (h_bk : ∀ w, Calls Try.prog 28 #[.agg #[.bool GAB, .string SAB], .agg #[.bool g2, .string s2]] w fun e w' => e = .returned (.tuple #[.agg #[.bool g1, .string s1], .int .i64 0]) ∧ Below w.heap.size w w')
    (h_x : ∀ w, Calls Try.prog 26 #[.agg #[.bool GAB, .string SAB], .agg #[.bool g3, .string s3]] w fun e w' => e = .returned (.tuple #[.agg #[.bool GX, .string SX], .int .i64 0]) ∧ Below w.heap.size w w')
    (h_y : ∀ w, Calls Try.prog 26 #[.agg #[.bool g1, .string s1], .agg #[.bool GBC, .string SBC]] w fun e w' => e = .returned (.tuple #[.agg #[.bool GX, .string SX], .int .i64 0]) ∧ Below w.heap.size w w')
    (h_p : ∀ w, Calls Try.prog 30 #[.agg #[.bool g1, .string s1], .agg #[.bool GBC, .string SBC]] w fun e w' => e = .returned (.tuple #[.agg #[.bool GP, .string SP], .int .i64 0]) ∧ Below w.heap.size w w')
    (h_q : ∀ w, Calls Try.prog 30 #[.agg #[.bool g1, .string s1], .agg #[.bool g2, .string s2]] w fun e w' => e = .returned (.tuple #[.agg #[.bool GQ, .string SQ], .int .i64 0]) ∧ Below w.heap.size w w')
    (h_r : ∀ w, Calls Try.prog 30 #[.agg #[.bool g1, .string s1], .agg #[.bool g3, .string s3]] w fun e w' => e = .returned (.tuple #[.agg #[.bool GR, .string SR], .int .i64 0]) ∧ Below w.heap.size w w')
    (h_s : ∀ w, Calls Try.prog 26 #[.agg #[.bool GQ, .string SQ], .agg #[.bool GR, .string SR]] w fun e w' => e = .returned (.tuple #[.agg #[.bool GP, .string SP], .int .i64 0]) ∧ Below w.heap.size w w')
    (h_t : ∀ w, Calls Try.prog 30 #[.agg #[.bool g2, .string s2], .agg #[.bool g1, .string s1]] w fun e w' => e = .returned (.tuple #[.agg #[.bool GQ, .string SQ], .int .i64 0]) ∧ Below w.heap.size w w')
    (h_d : ∀ w, Calls Try.prog 28 #[.agg #[.bool g1, .string s1], .agg #[.bool g2, .string s2]] w fun e w' => e = .returned (.tuple #[.agg #[.bool GD, .string SD], .int .i64 0]) ∧ Below w.heap.size w w')
    (h_n : ∀ w, Calls Try.prog 24 #[.agg #[.bool g1, .string s1], .agg #[.bool g2, .string s2]] w fun e w' => e = .returned (.int .i64 (-d)) ∧ Below w.heap.size w w')
    (h_nb : ∀ w, Calls Try.prog 24 #[.agg #[.bool g2, .string s2], .agg #[.bool g1, .string s1]] w fun e w' => e = .returned (.int .i64 d) ∧ Below w.heap.size w w')
    (h_nd : ∀ w, Calls Try.prog 24 #[.agg #[.bool GD, .string SD], .agg #[.bool false, .string ⟨#[]⟩]] w fun e w' => e = .returned (.int .i64 (-d)) ∧ Below w.heap.size w w')
    (h_na : ∀ w, Calls Try.prog 24 #[.agg #[.bool GAB, .string SAB], .agg #[.bool GBC, .string SBC]] w fun e w' => e = .returned (.int .i64 c2) ∧ Below w.heap.size w w')
    (h_nc : ∀ w, Calls Try.prog 24 #[.agg #[.bool g1, .string s1], .agg #[.bool g3, .string s3]] w fun e w' => e = .returned (.int .i64 c2) ∧ Below w.heap.size w w') :
    Calls Try.prog 9 #[.agg #[.bool g1, .string s1], .agg #[.bool g2, .string s2], .agg #[.bool g3, .string s3]] w fun e w' => e = .returned (.bool true) ∧ Below w.heap.size w w' := by
  have I1 := Lib.hid i1; clear i1
  have I2 := Lib.hid i2; clear i2
  have I3 := Lib.hid i3; clear i3
  have H_ab := Lib.hid h_ab; clear h_ab
  have H_ba := Lib.hid h_ba; clear h_ba
  have H_bc := Lib.hid h_bc; clear h_bc
  have H_bk := Lib.hid h_bk; clear h_bk
  have H_x := Lib.hid h_x; clear h_x
  have H_y := Lib.hid h_y; clear h_y
  have H_p := Lib.hid h_p; clear h_p
  have H_q := Lib.hid h_q; clear h_q
  have H_r := Lib.hid h_r; clear h_r
  have H_s := Lib.hid h_s; clear h_s
  have H_t := Lib.hid h_t; clear h_t
  have H_d := Lib.hid h_d; clear h_d
  have H_n := Lib.hid h_n; clear h_n
  have H_nb := Lib.hid h_nb; clear h_nb
  have H_nd := Lib.hid h_nd; clear h_nd
  have H_na := Lib.hid h_na; clear h_na
  have H_nc := Lib.hid h_nc; clear h_nc
  have k := Below.refl w.heap.size w
  have A := Two.new w (.bool g1) (.string s1) 24 (w.heap.size) (by first | (simp; done) | (simp; omega) | omega)
  have k := k.alloc (by first | (simp; done) | (simp; omega) | omega) (.cells #[.bool g1, .string s1] 24)
  have A := A.alloc (.cells #[.bool g2, .string s2] 24)
  have B := Two.new (w.alloc (.cells #[.bool g1, .string s1] 24)) (.bool g2) (.string s2) 24 (w.heap.size + 1) (by first | (simp; done) | (simp; omega) | omega)
  have k := k.alloc (by first | (simp; done) | (simp; omega) | omega) (.cells #[.bool g2, .string s2] 24)
  have A := A.alloc (.cells #[.bool g3, .string s3] 24)
  have B := B.alloc (.cells #[.bool g3, .string s3] 24)
  have C := Two.new ((w.alloc (.cells #[.bool g1, .string s1] 24)).alloc (.cells #[.bool g2, .string s2] 24)) (.bool g3) (.string s3) 24 (w.heap.size + 1 + 1) (by first | (simp; done) | (simp; omega) | omega)
  have k := k.alloc (by first | (simp; done) | (simp; omega) | omega) (.cells #[.bool g3, .string s3] 24)
  go_enter Try.func9, Try.ntmps9
  go_wp2_with fail
  refine (ivalid_t g1 s1 _ I1.out).mono ?_; rintro e w1 ⟨rfl, b1⟩
  have A := A.below b1 rfl
  have B := B.below b1 rfl
  have C := C.below b1 rfl
  have lA := A.2.2.2.2
  have lB := B.2.2.2.2
  have lC := C.2.2.2.2
  have k := bnextW k b1 (by first | (simp; done) | (simp; omega) | omega)
  have z1 := k.size
  have q1a := B.1
  have q1b := B.2.1
  go_wp2_with fail
  refine (ivalid_t g2 s2 _ I2.out).mono ?_; rintro e w2 ⟨rfl, b2⟩
  clear q1a q1b
  have A := A.below b2 rfl
  have B := B.below b2 rfl
  have C := C.below b2 rfl
  have lA := A.2.2.2.2
  have lB := B.2.2.2.2
  have lC := C.2.2.2.2
  have k := bnextW k b2 (by first | (simp; done) | (simp; omega) | omega)
  have z2 := k.size
  have q2a := C.1
  have q2b := C.2.1
  go_wp2_with fail
  refine (ivalid_t g3 s3 _ I3.out).mono ?_; rintro e w3 ⟨rfl, b3⟩
  clear q2a q2b
  have A := A.below b3 rfl
  have B := B.below b3 rfl
  have C := C.below b3 rfl
  have lA := A.2.2.2.2
  have lB := B.2.2.2.2
  have lC := C.2.2.2.2
  have k := bnextW k b3 (by first | (simp; done) | (simp; omega) | omega)
  have z3 := k.size
  have q3a := A.1
  have q3b := A.2.1
  have q4a := B.1
  have q4b := B.2.1
  have q5a := C.1
  have q5b := C.2.1
  go_wp2_with fail
  refine (H_ab.out _).mono ?_; rintro e w4 ⟨rfl, b4⟩
  clear q3a q3b q4a q4b q5a q5b
  have A := A.below b4 rfl
  have B := B.below b4 rfl
  have C := C.below b4 rfl
  have lA := A.2.2.2.2
  have lB := B.2.2.2.2
  have lC := C.2.2.2.2
  have k := bnextW k b4 (by first | (simp; done) | (simp; omega) | omega)
  have z4 := k.size
  have A := A.alloc (.cells #[.bool GAB, .string SAB] 24)
  have B := B.alloc (.cells #[.bool GAB, .string SAB] 24)
  have C := C.alloc (.cells #[.bool GAB, .string SAB] 24)
  have T7 := Two.new w4 (.bool GAB) (.string SAB) 24 (w4.heap.size) (by first | (simp; done) | (simp; omega) | omega)
  have k := k.alloc (by first | (simp; done) | (simp; omega) | omega) (.cells #[.bool GAB, .string SAB] 24)
  have q6a := B.1
  have q6b := B.2.1
  have q7a := A.1
  have q7b := A.2.1
  go_wp2_with fail
  refine (H_ba.out _).mono ?_; rintro e w5 ⟨rfl, b5⟩
  clear q6a q6b q7a q7b
  have A := A.below b5 rfl
  have B := B.below b5 rfl
  have C := C.below b5 rfl
  have T7 := T7.below b5 rfl
  have lA := A.2.2.2.2
  have lB := B.2.2.2.2
  have lC := C.2.2.2.2
  have lT7 := T7.2.2.2.2
  have k := bnextW k b5 (by first | (simp; done) | (simp; omega) | omega)
  have z5 := k.size
  have A := A.alloc (.cells #[.bool GAB, .string SAB] 24)
  have B := B.alloc (.cells #[.bool GAB, .string SAB] 24)
  have C := C.alloc (.cells #[.bool GAB, .string SAB] 24)
  have T7 := T7.alloc (.cells #[.bool GAB, .string SAB] 24)
  have T9 := Two.new w5 (.bool GAB) (.string SAB) 24 (w5.heap.size) (by first | (simp; done) | (simp; omega) | omega)
  have k := k.alloc (by first | (simp; done) | (simp; omega) | omega) (.cells #[.bool GAB, .string SAB] 24)
  have q8a := B.1
  have q8b := B.2.1
  have q9a := C.1
  have q9b := C.2.1
  go_wp2_with fail
  refine (H_bc.out _).mono ?_; rintro e w6 ⟨rfl, b6⟩
  clear q8a q8b q9a q9b
  have A := A.below b6 rfl
  have B := B.below b6 rfl
  have C := C.below b6 rfl
  have T7 := T7.below b6 rfl
  have T9 := T9.below b6 rfl
  have lA := A.2.2.2.2
  have lB := B.2.2.2.2
  have lC := C.2.2.2.2
  have lT7 := T7.2.2.2.2
  have lT9 := T9.2.2.2.2
  have k := bnextW k b6 (by first | (simp; done) | (simp; omega) | omega)
  have z6 := k.size
  have A := A.alloc (.cells #[.bool GBC, .string SBC] 24)
  have B := B.alloc (.cells #[.bool GBC, .string SBC] 24)
  have C := C.alloc (.cells #[.bool GBC, .string SBC] 24)
  have T7 := T7.alloc (.cells #[.bool GBC, .string SBC] 24)
  have T9 := T9.alloc (.cells #[.bool GBC, .string SBC] 24)
  have T11 := Two.new w6 (.bool GBC) (.string SBC) 24 (w6.heap.size) (by first | (simp; done) | (simp; omega) | omega)
  have k := k.alloc (by first | (simp; done) | (simp; omega) | omega) (.cells #[.bool GBC, .string SBC] 24)
  have q10a := T7.1
  have q10b := T7.2.1
  have q11a := B.1
  have q11b := B.2.1
  go_wp2_with fail
  refine (H_bk.out _).mono ?_; rintro e w7 ⟨rfl, b7⟩
  clear q10a q10b q11a q11b
  have A := A.below b7 rfl
  have B := B.below b7 rfl
  have C := C.below b7 rfl
  have T7 := T7.below b7 rfl
  have T9 := T9.below b7 rfl
  have T11 := T11.below b7 rfl
  have lA := A.2.2.2.2
  have lB := B.2.2.2.2
  have lC := C.2.2.2.2
  have lT7 := T7.2.2.2.2
  have lT9 := T9.2.2.2.2
  have lT11 := T11.2.2.2.2
  have k := bnextW k b7 (by first | (simp; done) | (simp; omega) | omega)
  have z7 := k.size
  have A := A.alloc (.cells #[.bool g1, .string s1] 24)
  have B := B.alloc (.cells #[.bool g1, .string s1] 24)
  have C := C.alloc (.cells #[.bool g1, .string s1] 24)
  have T7 := T7.alloc (.cells #[.bool g1, .string s1] 24)
  have T9 := T9.alloc (.cells #[.bool g1, .string s1] 24)
  have T11 := T11.alloc (.cells #[.bool g1, .string s1] 24)
  have T13 := Two.new w7 (.bool g1) (.string s1) 24 (w7.heap.size) (by first | (simp; done) | (simp; omega) | omega)
  have k := k.alloc (by first | (simp; done) | (simp; omega) | omega) (.cells #[.bool g1, .string s1] 24)
  have q12a := T7.1
  have q12b := T7.2.1
  have q13a := C.1
  have q13b := C.2.1
  have q14a := T7.1
  have q14b := T7.2.1
  have q15a := T9.1
  have q15b := T9.2.1
  have q16a := T13.1
  have q16b := T13.2.1
  have q17a := A.1
  have q17b := A.2.1
  go_wp2_with fail
  refine (H_x.out _).mono ?_; rintro e w8 ⟨rfl, b8⟩
  clear q12a q12b q13a q13b q14a q14b q15a q15b q16a q16b q17a q17b
  have A := A.below b8 rfl
  have B := B.below b8 rfl
  have C := C.below b8 rfl
  have T7 := T7.below b8 rfl
  have T9 := T9.below b8 rfl
  have T11 := T11.below b8 rfl
  have T13 := T13.below b8 rfl
  have lA := A.2.2.2.2
  have lB := B.2.2.2.2
  have lC := C.2.2.2.2
  have lT7 := T7.2.2.2.2
  have lT9 := T9.2.2.2.2
  have lT11 := T11.2.2.2.2
  have lT13 := T13.2.2.2.2
  have k := bnextW k b8 (by first | (simp; done) | (simp; omega) | omega)
  have z8 := k.size
  have A := A.alloc (.cells #[.bool GX, .string SX] 24)
  have B := B.alloc (.cells #[.bool GX, .string SX] 24)
  have C := C.alloc (.cells #[.bool GX, .string SX] 24)
  have T7 := T7.alloc (.cells #[.bool GX, .string SX] 24)
  have T9 := T9.alloc (.cells #[.bool GX, .string SX] 24)
  have T11 := T11.alloc (.cells #[.bool GX, .string SX] 24)
  have T13 := T13.alloc (.cells #[.bool GX, .string SX] 24)
  have T15 := Two.new w8 (.bool GX) (.string SX) 24 (w8.heap.size) (by first | (simp; done) | (simp; omega) | omega)
  have k := k.alloc (by first | (simp; done) | (simp; omega) | omega) (.cells #[.bool GX, .string SX] 24)
  have q18a := A.1
  have q18b := A.2.1
  have q19a := T11.1
  have q19b := T11.2.1
  go_wp2_with fail
  refine (H_y.out _).mono ?_; rintro e w9 ⟨rfl, b9⟩
  clear q18a q18b q19a q19b
  have A := A.below b9 rfl
  have B := B.below b9 rfl
  have C := C.below b9 rfl
  have T7 := T7.below b9 rfl
  have T9 := T9.below b9 rfl
  have T11 := T11.below b9 rfl
  have T13 := T13.below b9 rfl
  have T15 := T15.below b9 rfl
  have lA := A.2.2.2.2
  have lB := B.2.2.2.2
  have lC := C.2.2.2.2
  have lT7 := T7.2.2.2.2
  have lT9 := T9.2.2.2.2
  have lT11 := T11.2.2.2.2
  have lT13 := T13.2.2.2.2
  have lT15 := T15.2.2.2.2
  have k := bnextW k b9 (by first | (simp; done) | (simp; omega) | omega)
  have z9 := k.size
  have A := A.alloc (.cells #[.bool GX, .string SX] 24)
  have B := B.alloc (.cells #[.bool GX, .string SX] 24)
  have C := C.alloc (.cells #[.bool GX, .string SX] 24)
  have T7 := T7.alloc (.cells #[.bool GX, .string SX] 24)
  have T9 := T9.alloc (.cells #[.bool GX, .string SX] 24)
  have T11 := T11.alloc (.cells #[.bool GX, .string SX] 24)
  have T13 := T13.alloc (.cells #[.bool GX, .string SX] 24)
  have T15 := T15.alloc (.cells #[.bool GX, .string SX] 24)
  have T16 := Two.new w9 (.bool GX) (.string SX) 24 (w9.heap.size) (by first | (simp; done) | (simp; omega) | omega)
  have k := k.alloc (by first | (simp; done) | (simp; omega) | omega) (.cells #[.bool GX, .string SX] 24)
  have q20a := A.1
  have q20b := A.2.1
  have q21a := T11.1
  have q21b := T11.2.1
  go_wp2_with fail
  refine (H_p.out _).mono ?_; rintro e w10 ⟨rfl, b10⟩
  clear q20a q20b q21a q21b
  have A := A.below b10 rfl
  have B := B.below b10 rfl
  have C := C.below b10 rfl
  have T7 := T7.below b10 rfl
  have T9 := T9.below b10 rfl
  have T11 := T11.below b10 rfl
  have T13 := T13.below b10 rfl
  have T15 := T15.below b10 rfl
  have T16 := T16.below b10 rfl
  have lA := A.2.2.2.2
  have lB := B.2.2.2.2
  have lC := C.2.2.2.2
  have lT7 := T7.2.2.2.2
  have lT9 := T9.2.2.2.2
  have lT11 := T11.2.2.2.2
  have lT13 := T13.2.2.2.2
  have lT15 := T15.2.2.2.2
  have lT16 := T16.2.2.2.2
  have k := bnextW k b10 (by first | (simp; done) | (simp; omega) | omega)
  have z10 := k.size
  have A := A.alloc (.cells #[.bool GP, .string SP] 24)
  have B := B.alloc (.cells #[.bool GP, .string SP] 24)
  have C := C.alloc (.cells #[.bool GP, .string SP] 24)
  have T7 := T7.alloc (.cells #[.bool GP, .string SP] 24)
  have T9 := T9.alloc (.cells #[.bool GP, .string SP] 24)
  have T11 := T11.alloc (.cells #[.bool GP, .string SP] 24)
  have T13 := T13.alloc (.cells #[.bool GP, .string SP] 24)
  have T15 := T15.alloc (.cells #[.bool GP, .string SP] 24)
  have T16 := T16.alloc (.cells #[.bool GP, .string SP] 24)
  have T17 := Two.new w10 (.bool GP) (.string SP) 24 (w10.heap.size) (by first | (simp; done) | (simp; omega) | omega)
  have k := k.alloc (by first | (simp; done) | (simp; omega) | omega) (.cells #[.bool GP, .string SP] 24)
  have q22a := A.1
  have q22b := A.2.1
  have q23a := B.1
  have q23b := B.2.1
  go_wp2_with fail
  refine (H_q.out _).mono ?_; rintro e w11 ⟨rfl, b11⟩
  clear q22a q22b q23a q23b
  have A := A.below b11 rfl
  have B := B.below b11 rfl
  have C := C.below b11 rfl
  have T7 := T7.below b11 rfl
  have T9 := T9.below b11 rfl
  have T11 := T11.below b11 rfl
  have T13 := T13.below b11 rfl
  have T15 := T15.below b11 rfl
  have T16 := T16.below b11 rfl
  have T17 := T17.below b11 rfl
  have lA := A.2.2.2.2
  have lB := B.2.2.2.2
  have lC := C.2.2.2.2
  have lT7 := T7.2.2.2.2
  have lT9 := T9.2.2.2.2
  have lT11 := T11.2.2.2.2
  have lT13 := T13.2.2.2.2
  have lT15 := T15.2.2.2.2
  have lT16 := T16.2.2.2.2
  have lT17 := T17.2.2.2.2
  have k := bnextW k b11 (by first | (simp; done) | (simp; omega) | omega)
  have z11 := k.size
  have A := A.alloc (.cells #[.bool GQ, .string SQ] 24)
  have B := B.alloc (.cells #[.bool GQ, .string SQ] 24)
  have C := C.alloc (.cells #[.bool GQ, .string SQ] 24)
  have T7 := T7.alloc (.cells #[.bool GQ, .string SQ] 24)
  have T9 := T9.alloc (.cells #[.bool GQ, .string SQ] 24)
  have T11 := T11.alloc (.cells #[.bool GQ, .string SQ] 24)
  have T13 := T13.alloc (.cells #[.bool GQ, .string SQ] 24)
  have T15 := T15.alloc (.cells #[.bool GQ, .string SQ] 24)
  have T16 := T16.alloc (.cells #[.bool GQ, .string SQ] 24)
  have T17 := T17.alloc (.cells #[.bool GQ, .string SQ] 24)
  have T18 := Two.new w11 (.bool GQ) (.string SQ) 24 (w11.heap.size) (by first | (simp; done) | (simp; omega) | omega)
  have k := k.alloc (by first | (simp; done) | (simp; omega) | omega) (.cells #[.bool GQ, .string SQ] 24)
  have q24a := A.1
  have q24b := A.2.1
  have q25a := C.1
  have q25b := C.2.1
  go_wp2_with fail
  refine (H_r.out _).mono ?_; rintro e w12 ⟨rfl, b12⟩
  clear q24a q24b q25a q25b
  have A := A.below b12 rfl
  have B := B.below b12 rfl
  have C := C.below b12 rfl
  have T7 := T7.below b12 rfl
  have T9 := T9.below b12 rfl
  have T11 := T11.below b12 rfl
  have T13 := T13.below b12 rfl
  have T15 := T15.below b12 rfl
  have T16 := T16.below b12 rfl
  have T17 := T17.below b12 rfl
  have T18 := T18.below b12 rfl
  have lA := A.2.2.2.2
  have lB := B.2.2.2.2
  have lC := C.2.2.2.2
  have lT7 := T7.2.2.2.2
  have lT9 := T9.2.2.2.2
  have lT11 := T11.2.2.2.2
  have lT13 := T13.2.2.2.2
  have lT15 := T15.2.2.2.2
  have lT16 := T16.2.2.2.2
  have lT17 := T17.2.2.2.2
  have lT18 := T18.2.2.2.2
  have k := bnextW k b12 (by first | (simp; done) | (simp; omega) | omega)
  have z12 := k.size
  have A := A.alloc (.cells #[.bool GR, .string SR] 24)
  have B := B.alloc (.cells #[.bool GR, .string SR] 24)
  have C := C.alloc (.cells #[.bool GR, .string SR] 24)
  have T7 := T7.alloc (.cells #[.bool GR, .string SR] 24)
  have T9 := T9.alloc (.cells #[.bool GR, .string SR] 24)
  have T11 := T11.alloc (.cells #[.bool GR, .string SR] 24)
  have T13 := T13.alloc (.cells #[.bool GR, .string SR] 24)
  have T15 := T15.alloc (.cells #[.bool GR, .string SR] 24)
  have T16 := T16.alloc (.cells #[.bool GR, .string SR] 24)
  have T17 := T17.alloc (.cells #[.bool GR, .string SR] 24)
  have T18 := T18.alloc (.cells #[.bool GR, .string SR] 24)
  have T19 := Two.new w12 (.bool GR) (.string SR) 24 (w12.heap.size) (by first | (simp; done) | (simp; omega) | omega)
  have k := k.alloc (by first | (simp; done) | (simp; omega) | omega) (.cells #[.bool GR, .string SR] 24)
  have q26a := T18.1
  have q26b := T18.2.1
  have q27a := T19.1
  have q27b := T19.2.1
  go_wp2_with fail
  refine (H_s.out _).mono ?_; rintro e w13 ⟨rfl, b13⟩
  clear q26a q26b q27a q27b
  have A := A.below b13 rfl
  have B := B.below b13 rfl
  have C := C.below b13 rfl
  have T7 := T7.below b13 rfl
  have T9 := T9.below b13 rfl
  have T11 := T11.below b13 rfl
  have T13 := T13.below b13 rfl
  have T15 := T15.below b13 rfl
  have T16 := T16.below b13 rfl
  have T17 := T17.below b13 rfl
  have T18 := T18.below b13 rfl
  have T19 := T19.below b13 rfl
  have lA := A.2.2.2.2
  have lB := B.2.2.2.2
  have lC := C.2.2.2.2
  have lT7 := T7.2.2.2.2
  have lT9 := T9.2.2.2.2
  have lT11 := T11.2.2.2.2
  have lT13 := T13.2.2.2.2
  have lT15 := T15.2.2.2.2
  have lT16 := T16.2.2.2.2
  have lT17 := T17.2.2.2.2
  have lT18 := T18.2.2.2.2
  have lT19 := T19.2.2.2.2
  have k := bnextW k b13 (by first | (simp; done) | (simp; omega) | omega)
  have z13 := k.size
  have A := A.alloc (.cells #[.bool GP, .string SP] 24)
  have B := B.alloc (.cells #[.bool GP, .string SP] 24)
  have C := C.alloc (.cells #[.bool GP, .string SP] 24)
  have T7 := T7.alloc (.cells #[.bool GP, .string SP] 24)
  have T9 := T9.alloc (.cells #[.bool GP, .string SP] 24)
  have T11 := T11.alloc (.cells #[.bool GP, .string SP] 24)
  have T13 := T13.alloc (.cells #[.bool GP, .string SP] 24)
  have T15 := T15.alloc (.cells #[.bool GP, .string SP] 24)
  have T16 := T16.alloc (.cells #[.bool GP, .string SP] 24)
  have T17 := T17.alloc (.cells #[.bool GP, .string SP] 24)
  have T18 := T18.alloc (.cells #[.bool GP, .string SP] 24)
  have T19 := T19.alloc (.cells #[.bool GP, .string SP] 24)
  have T21 := Two.new w13 (.bool GP) (.string SP) 24 (w13.heap.size) (by first | (simp; done) | (simp; omega) | omega)
  have k := k.alloc (by first | (simp; done) | (simp; omega) | omega) (.cells #[.bool GP, .string SP] 24)
  have q28a := B.1
  have q28b := B.2.1
  have q29a := A.1
  have q29b := A.2.1
  go_wp2_with fail
  refine (H_t.out _).mono ?_; rintro e w14 ⟨rfl, b14⟩
  clear q28a q28b q29a q29b
  have A := A.below b14 rfl
  have B := B.below b14 rfl
  have C := C.below b14 rfl
  have T7 := T7.below b14 rfl
  have T9 := T9.below b14 rfl
  have T11 := T11.below b14 rfl
  have T13 := T13.below b14 rfl
  have T15 := T15.below b14 rfl
  have T16 := T16.below b14 rfl
  have T17 := T17.below b14 rfl
  have T18 := T18.below b14 rfl
  have T19 := T19.below b14 rfl
  have T21 := T21.below b14 rfl
  have lA := A.2.2.2.2
  have lB := B.2.2.2.2
  have lC := C.2.2.2.2
  have lT7 := T7.2.2.2.2
  have lT9 := T9.2.2.2.2
  have lT11 := T11.2.2.2.2
  have lT13 := T13.2.2.2.2
  have lT15 := T15.2.2.2.2
  have lT16 := T16.2.2.2.2
  have lT17 := T17.2.2.2.2
  have lT18 := T18.2.2.2.2
  have lT19 := T19.2.2.2.2
  have lT21 := T21.2.2.2.2
  have k := bnextW k b14 (by first | (simp; done) | (simp; omega) | omega)
  have z14 := k.size
  have A := A.alloc (.cells #[.bool GQ, .string SQ] 24)
  have B := B.alloc (.cells #[.bool GQ, .string SQ] 24)
  have C := C.alloc (.cells #[.bool GQ, .string SQ] 24)
  have T7 := T7.alloc (.cells #[.bool GQ, .string SQ] 24)
  have T9 := T9.alloc (.cells #[.bool GQ, .string SQ] 24)
  have T11 := T11.alloc (.cells #[.bool GQ, .string SQ] 24)
  have T13 := T13.alloc (.cells #[.bool GQ, .string SQ] 24)
  have T15 := T15.alloc (.cells #[.bool GQ, .string SQ] 24)
  have T16 := T16.alloc (.cells #[.bool GQ, .string SQ] 24)
  have T17 := T17.alloc (.cells #[.bool GQ, .string SQ] 24)
  have T18 := T18.alloc (.cells #[.bool GQ, .string SQ] 24)
  have T19 := T19.alloc (.cells #[.bool GQ, .string SQ] 24)
  have T21 := T21.alloc (.cells #[.bool GQ, .string SQ] 24)
  have T23 := Two.new w14 (.bool GQ) (.string SQ) 24 (w14.heap.size) (by first | (simp; done) | (simp; omega) | omega)
  have k := k.alloc (by first | (simp; done) | (simp; omega) | omega) (.cells #[.bool GQ, .string SQ] 24)
  have q30a := A.1
  have q30b := A.2.1
  have q31a := B.1
  have q31b := B.2.1
  go_wp2_with fail
  refine (H_d.out _).mono ?_; rintro e w15 ⟨rfl, b15⟩
  clear q30a q30b q31a q31b
  have A := A.below b15 rfl
  have B := B.below b15 rfl
  have C := C.below b15 rfl
  have T7 := T7.below b15 rfl
  have T9 := T9.below b15 rfl
  have T11 := T11.below b15 rfl
  have T13 := T13.below b15 rfl
  have T15 := T15.below b15 rfl
  have T16 := T16.below b15 rfl
  have T17 := T17.below b15 rfl
  have T18 := T18.below b15 rfl
  have T19 := T19.below b15 rfl
  have T21 := T21.below b15 rfl
  have T23 := T23.below b15 rfl
  have lA := A.2.2.2.2
  have lB := B.2.2.2.2
  have lC := C.2.2.2.2
  have lT7 := T7.2.2.2.2
  have lT9 := T9.2.2.2.2
  have lT11 := T11.2.2.2.2
  have lT13 := T13.2.2.2.2
  have lT15 := T15.2.2.2.2
  have lT16 := T16.2.2.2.2
  have lT17 := T17.2.2.2.2
  have lT18 := T18.2.2.2.2
  have lT19 := T19.2.2.2.2
  have lT21 := T21.2.2.2.2
  have lT23 := T23.2.2.2.2
  have k := bnextW k b15 (by first | (simp; done) | (simp; omega) | omega)
  have z15 := k.size
  have A := A.alloc (.cells #[.bool GD, .string SD] 24)
  have B := B.alloc (.cells #[.bool GD, .string SD] 24)
  have C := C.alloc (.cells #[.bool GD, .string SD] 24)
  have T7 := T7.alloc (.cells #[.bool GD, .string SD] 24)
  have T9 := T9.alloc (.cells #[.bool GD, .string SD] 24)
  have T11 := T11.alloc (.cells #[.bool GD, .string SD] 24)
  have T13 := T13.alloc (.cells #[.bool GD, .string SD] 24)
  have T15 := T15.alloc (.cells #[.bool GD, .string SD] 24)
  have T16 := T16.alloc (.cells #[.bool GD, .string SD] 24)
  have T17 := T17.alloc (.cells #[.bool GD, .string SD] 24)
  have T18 := T18.alloc (.cells #[.bool GD, .string SD] 24)
  have T19 := T19.alloc (.cells #[.bool GD, .string SD] 24)
  have T21 := T21.alloc (.cells #[.bool GD, .string SD] 24)
  have T23 := T23.alloc (.cells #[.bool GD, .string SD] 24)
  have T25 := Two.new w15 (.bool GD) (.string SD) 24 (w15.heap.size) (by first | (simp; done) | (simp; omega) | omega)
  have k := k.alloc (by first | (simp; done) | (simp; omega) | omega) (.cells #[.bool GD, .string SD] 24)
  have q32a := A.1
  have q32b := A.2.1
  have q33a := B.1
  have q33b := B.2.1
  go_wp2_with fail
  refine (H_n.out _).mono ?_; rintro e w16 ⟨rfl, b16⟩
  clear q32a q32b q33a q33b
  have A := A.below b16 rfl
  have B := B.below b16 rfl
  have C := C.below b16 rfl
  have T7 := T7.below b16 rfl
  have T9 := T9.below b16 rfl
  have T11 := T11.below b16 rfl
  have T13 := T13.below b16 rfl
  have T15 := T15.below b16 rfl
  have T16 := T16.below b16 rfl
  have T17 := T17.below b16 rfl
  have T18 := T18.below b16 rfl
  have T19 := T19.below b16 rfl
  have T21 := T21.below b16 rfl
  have T23 := T23.below b16 rfl
  have T25 := T25.below b16 rfl
  have lA := A.2.2.2.2
  have lB := B.2.2.2.2
  have lC := C.2.2.2.2
  have lT7 := T7.2.2.2.2
  have lT9 := T9.2.2.2.2
  have lT11 := T11.2.2.2.2
  have lT13 := T13.2.2.2.2
  have lT15 := T15.2.2.2.2
  have lT16 := T16.2.2.2.2
  have lT17 := T17.2.2.2.2
  have lT18 := T18.2.2.2.2
  have lT19 := T19.2.2.2.2
  have lT21 := T21.2.2.2.2
  have lT23 := T23.2.2.2.2
  have lT25 := T25.2.2.2.2
  have k := bnextW k b16 (by first | (simp; done) | (simp; omega) | omega)
  have z16 := k.size
  go_wp2
  go_region_held3 (fun w' => w'.cell? ⟨w8.heap.size, 0, none⟩ = some (.bool GX) ∧ w'.cell? ⟨w8.heap.size, 1, none⟩ = some (.string SX) ∧ w'.cell? ⟨w9.heap.size, 0, none⟩ = some (.bool GX) ∧ w'.cell? ⟨w9.heap.size, 1, none⟩ = some (.string SX) ∧ w'.cell? ⟨w10.heap.size, 0, none⟩ = some (.bool GP) ∧ w'.cell? ⟨w10.heap.size, 1, none⟩ = some (.string SP) ∧ w'.cell? ⟨w13.heap.size, 0, none⟩ = some (.bool GP) ∧ w'.cell? ⟨w13.heap.size, 1, none⟩ = some (.string SP) ∧ w'.cell? ⟨w11.heap.size, 0, none⟩ = some (.bool GQ) ∧ w'.cell? ⟨w11.heap.size, 1, none⟩ = some (.string SQ) ∧ w'.cell? ⟨w14.heap.size, 0, none⟩ = some (.bool GQ) ∧ w'.cell? ⟨w14.heap.size, 1, none⟩ = some (.string SQ) ∧ w'.cell? ⟨w.heap.size + 1, 0, none⟩ = some (.bool g2) ∧ w'.cell? ⟨w.heap.size + 1, 1, none⟩ = some (.string s2) ∧ w'.cell? ⟨w.heap.size, 0, none⟩ = some (.bool g1) ∧ w'.cell? ⟨w.heap.size, 1, none⟩ = some (.string s1) ∧ w'.cell? ⟨w15.heap.size, 0, none⟩ = some (.bool GD) ∧ w'.cell? ⟨w15.heap.size, 1, none⟩ = some (.string SD) ∧ w'.cell? ⟨w4.heap.size, 0, none⟩ = some (.bool GAB) ∧ w'.cell? ⟨w4.heap.size, 1, none⟩ = some (.string SAB) ∧ w'.cell? ⟨w6.heap.size, 0, none⟩ = some (.bool GBC) ∧ w'.cell? ⟨w6.heap.size, 1, none⟩ = some (.string SBC) ∧ w'.cell? ⟨w.heap.size + 1 + 1, 0, none⟩ = some (.bool g3) ∧ w'.cell? ⟨w.heap.size + 1 + 1, 1, none⟩ = some (.string s3) ∧ Below w.heap.size w w') (first | exact ⟨T15.1, T15.2.1, T16.1, T16.2.1, T17.1, T17.2.1, T21.1, T21.2.1, T18.1, T18.2.1, T23.1, T23.2.1, B.1, B.2.1, A.1, A.2.1, T25.1, T25.2.1, T7.1, T7.2.1, T11.1, T11.2.1, C.1, C.2.1, k.drew⟩ | exact keep12S b99 (by assumption))
    (first
    | (go_at_call 13; ((with_reducible refine (awake2 _).mono ?_); rintro e w99 ⟨rfl, b99⟩))
    | (go_at_call 16; ((with_reducible refine (of_nul _).mono ?_); rintro e w99 ⟨rfl, b99⟩))
    | (go_at_call 24; ((with_reducible refine (H_nb.out _).mono ?_); rintro e w99 ⟨rfl, b99⟩))
    | (go_at_call 24; ((with_reducible refine (H_nd.out _).mono ?_); rintro e w99 ⟨rfl, b99⟩))
    | (go_at_call 24; ((with_reducible refine (H_na.out _).mono ?_); rintro e w99 ⟨rfl, b99⟩))
    | (go_at_call 24; ((with_reducible refine (H_nc.out _).mono ?_); rintro e w99 ⟨rfl, b99⟩)))
  all_goals go_wp2
  all_goals go_ret
  all_goals exact ⟨rfl, keep12L (by assumption)⟩

set_option maxHeartbeats 16000000 in
set_option maxRecDepth 400000 in
theorem ring_size (g1 g2 g3 GAB GBC GX GP GQ GR GD : Bool) (s1 s2 s3 SAB SBC SX SP SQ SR SD : ByteArray) (d c2 : Int) (w : World) (i1 : IVal g1 s1) (i2 : IVal g2 s2) (i3 : IVal g3 s3) (l1 : (s1.size : Int) ≤ 30) (l2 : (s2.size : Int) ≤ 30) (l3 : (s3.size : Int) ≤ 30) (eg : g1 = g2) (en : (s1.toList == s2.toList) = false) (d1 : -1 ≤ d) (d2 : d ≤ 1) (e2 : (d == 0) = false) (e3 : (-d == 0) = false) (e4 : IntKind.i64.wrap (-d) = -d) (e5 : wrap64 (-d) = -d)
    (h_ab : ∀ w, Calls Try.prog 26 #[.agg #[.bool g1, .string s1], .agg #[.bool g2, .string s2]] w fun e w' => e = .returned (.tuple #[.agg #[.bool GAB, .string SAB], .int .i64 0]) ∧ Below w.heap.size w w')
    (h_ba : ∀ w, Calls Try.prog 26 #[.agg #[.bool g2, .string s2], .agg #[.bool g1, .string s1]] w fun e w' => e = .returned (.tuple #[.agg #[.bool GAB, .string SAB], .int .i64 0]) ∧ Below w.heap.size w w')
    (h_bc : ∀ w, Calls Try.prog 26 #[.agg #[.bool g2, .string s2], .agg #[.bool g3, .string s3]] w fun e w' => e = .returned (.tuple #[.agg #[.bool GBC, .string SBC], .int .i64 0]) ∧ Below w.heap.size w w')
    (h_bk : ∀ w, Calls Try.prog 28 #[.agg #[.bool GAB, .string SAB], .agg #[.bool g2, .string s2]] w fun e w' => e = .returned (.tuple #[.agg #[.bool g1, .string s1], .int .i64 0]) ∧ Below w.heap.size w w')
    (h_x : ∀ w, Calls Try.prog 26 #[.agg #[.bool GAB, .string SAB], .agg #[.bool g3, .string s3]] w fun e w' => e = .returned (.tuple #[.agg #[.bool GX, .string SX], .int .i64 0]) ∧ Below w.heap.size w w')
    (h_y : ∀ w, Calls Try.prog 26 #[.agg #[.bool g1, .string s1], .agg #[.bool GBC, .string SBC]] w fun e w' => e = .returned (.tuple #[.agg #[.bool GX, .string SX], .int .i64 0]) ∧ Below w.heap.size w w')
    (h_p : ∀ w, Calls Try.prog 30 #[.agg #[.bool g1, .string s1], .agg #[.bool GBC, .string SBC]] w fun e w' => e = .returned (.tuple #[.agg #[.bool GP, .string SP], .int .i64 0]) ∧ Below w.heap.size w w')
    (h_q : ∀ w, Calls Try.prog 30 #[.agg #[.bool g1, .string s1], .agg #[.bool g2, .string s2]] w fun e w' => e = .returned (.tuple #[.agg #[.bool GQ, .string SQ], .int .i64 0]) ∧ Below w.heap.size w w')
    (h_r : ∀ w, Calls Try.prog 30 #[.agg #[.bool g1, .string s1], .agg #[.bool g3, .string s3]] w fun e w' => e = .returned (.tuple #[.agg #[.bool GR, .string SR], .int .i64 0]) ∧ Below w.heap.size w w')
    (h_s : ∀ w, Calls Try.prog 26 #[.agg #[.bool GQ, .string SQ], .agg #[.bool GR, .string SR]] w fun e w' => e = .returned (.tuple #[.agg #[.bool GP, .string SP], .int .i64 0]) ∧ Below w.heap.size w w')
    (h_t : ∀ w, Calls Try.prog 30 #[.agg #[.bool g2, .string s2], .agg #[.bool g1, .string s1]] w fun e w' => e = .returned (.tuple #[.agg #[.bool GQ, .string SQ], .int .i64 0]) ∧ Below w.heap.size w w')
    (h_d : ∀ w, Calls Try.prog 28 #[.agg #[.bool g1, .string s1], .agg #[.bool g2, .string s2]] w fun e w' => e = .returned (.tuple #[.agg #[.bool GD, .string SD], .int .i64 0]) ∧ Below w.heap.size w w')
    (h_n : ∀ w, Calls Try.prog 24 #[.agg #[.bool g1, .string s1], .agg #[.bool g2, .string s2]] w fun e w' => e = .returned (.int .i64 (-d)) ∧ Below w.heap.size w w')
    (h_nb : ∀ w, Calls Try.prog 24 #[.agg #[.bool g2, .string s2], .agg #[.bool g1, .string s1]] w fun e w' => e = .returned (.int .i64 d) ∧ Below w.heap.size w w')
    (h_nd : ∀ w, Calls Try.prog 24 #[.agg #[.bool GD, .string SD], .agg #[.bool false, .string ⟨#[]⟩]] w fun e w' => e = .returned (.int .i64 (-d)) ∧ Below w.heap.size w w')
    (h_na : ∀ w, Calls Try.prog 24 #[.agg #[.bool GAB, .string SAB], .agg #[.bool GBC, .string SBC]] w fun e w' => e = .returned (.int .i64 c2) ∧ Below w.heap.size w w')
    (h_nc : ∀ w, Calls Try.prog 24 #[.agg #[.bool g1, .string s1], .agg #[.bool g3, .string s3]] w fun e w' => e = .returned (.int .i64 c2) ∧ Below w.heap.size w w') :
    Calls Try.prog 9 #[.agg #[.bool g1, .string s1], .agg #[.bool g2, .string s2], .agg #[.bool g3, .string s3]] w fun e w' => e = .returned (.bool true) ∧ Below w.heap.size w w' := by
  have I1 := Lib.hid i1; clear i1
  have I2 := Lib.hid i2; clear i2
  have I3 := Lib.hid i3; clear i3
  have H_ab := Lib.hid h_ab; clear h_ab
  have H_ba := Lib.hid h_ba; clear h_ba
  have H_bc := Lib.hid h_bc; clear h_bc
  have H_bk := Lib.hid h_bk; clear h_bk
  have H_x := Lib.hid h_x; clear h_x
  have H_y := Lib.hid h_y; clear h_y
  have H_p := Lib.hid h_p; clear h_p
  have H_q := Lib.hid h_q; clear h_q
  have H_r := Lib.hid h_r; clear h_r
  have H_s := Lib.hid h_s; clear h_s
  have H_t := Lib.hid h_t; clear h_t
  have H_d := Lib.hid h_d; clear h_d
  have H_n := Lib.hid h_n; clear h_n
  have H_nb := Lib.hid h_nb; clear h_nb
  have H_nd := Lib.hid h_nd; clear h_nd
  have H_na := Lib.hid h_na; clear h_na
  have H_nc := Lib.hid h_nc; clear h_nc
  subst eg
  have k := Below.refl w.heap.size w
  have A := Two.new w (.bool g1) (.string s1) 24 (w.heap.size) (by first | (simp; done) | (simp; omega) | omega)
  have k := k.alloc (by first | (simp; done) | (simp; omega) | omega) (.cells #[.bool g1, .string s1] 24)
  have A := A.alloc (.cells #[.bool g1, .string s2] 24)
  have B := Two.new (w.alloc (.cells #[.bool g1, .string s1] 24)) (.bool g1) (.string s2) 24 (w.heap.size + 1) (by first | (simp; done) | (simp; omega) | omega)
  have k := k.alloc (by first | (simp; done) | (simp; omega) | omega) (.cells #[.bool g1, .string s2] 24)
  have A := A.alloc (.cells #[.bool g3, .string s3] 24)
  have B := B.alloc (.cells #[.bool g3, .string s3] 24)
  have C := Two.new ((w.alloc (.cells #[.bool g1, .string s1] 24)).alloc (.cells #[.bool g1, .string s2] 24)) (.bool g3) (.string s3) 24 (w.heap.size + 1 + 1) (by first | (simp; done) | (simp; omega) | omega)
  have k := k.alloc (by first | (simp; done) | (simp; omega) | omega) (.cells #[.bool g3, .string s3] 24)
  go_enter Try.func9, Try.ntmps9
  go_wp2_with fail
  refine (ivalid_t g1 s1 _ I1.out).mono ?_; rintro e w1 ⟨rfl, b1⟩
  have A := A.below b1 rfl
  have B := B.below b1 rfl
  have C := C.below b1 rfl
  have lA := A.2.2.2.2
  have lB := B.2.2.2.2
  have lC := C.2.2.2.2
  have k := bnextW k b1 (by first | (simp; done) | (simp; omega) | omega)
  have z1 := k.size
  have q1a := B.1
  have q1b := B.2.1
  go_wp2_with fail
  refine (ivalid_t g1 s2 _ I2.out).mono ?_; rintro e w2 ⟨rfl, b2⟩
  clear q1a q1b
  have A := A.below b2 rfl
  have B := B.below b2 rfl
  have C := C.below b2 rfl
  have lA := A.2.2.2.2
  have lB := B.2.2.2.2
  have lC := C.2.2.2.2
  have k := bnextW k b2 (by first | (simp; done) | (simp; omega) | omega)
  have z2 := k.size
  have q2a := C.1
  have q2b := C.2.1
  go_wp2_with fail
  refine (ivalid_t g3 s3 _ I3.out).mono ?_; rintro e w3 ⟨rfl, b3⟩
  clear q2a q2b
  have A := A.below b3 rfl
  have B := B.below b3 rfl
  have C := C.below b3 rfl
  have lA := A.2.2.2.2
  have lB := B.2.2.2.2
  have lC := C.2.2.2.2
  have k := bnextW k b3 (by first | (simp; done) | (simp; omega) | omega)
  have z3 := k.size
  have q3a := A.1
  have q3b := A.2.1
  have q4a := B.1
  have q4b := B.2.1
  have q5a := C.1
  have q5b := C.2.1
  go_wp2_with fail
  refine (H_ab.out _).mono ?_; rintro e w4 ⟨rfl, b4⟩
  clear q3a q3b q4a q4b q5a q5b
  have A := A.below b4 rfl
  have B := B.below b4 rfl
  have C := C.below b4 rfl
  have lA := A.2.2.2.2
  have lB := B.2.2.2.2
  have lC := C.2.2.2.2
  have k := bnextW k b4 (by first | (simp; done) | (simp; omega) | omega)
  have z4 := k.size
  have A := A.alloc (.cells #[.bool GAB, .string SAB] 24)
  have B := B.alloc (.cells #[.bool GAB, .string SAB] 24)
  have C := C.alloc (.cells #[.bool GAB, .string SAB] 24)
  have T7 := Two.new w4 (.bool GAB) (.string SAB) 24 (w4.heap.size) (by first | (simp; done) | (simp; omega) | omega)
  have k := k.alloc (by first | (simp; done) | (simp; omega) | omega) (.cells #[.bool GAB, .string SAB] 24)
  have q6a := B.1
  have q6b := B.2.1
  have q7a := A.1
  have q7b := A.2.1
  go_wp2_with fail
  refine (H_ba.out _).mono ?_; rintro e w5 ⟨rfl, b5⟩
  clear q6a q6b q7a q7b
  have A := A.below b5 rfl
  have B := B.below b5 rfl
  have C := C.below b5 rfl
  have T7 := T7.below b5 rfl
  have lA := A.2.2.2.2
  have lB := B.2.2.2.2
  have lC := C.2.2.2.2
  have lT7 := T7.2.2.2.2
  have k := bnextW k b5 (by first | (simp; done) | (simp; omega) | omega)
  have z5 := k.size
  have A := A.alloc (.cells #[.bool GAB, .string SAB] 24)
  have B := B.alloc (.cells #[.bool GAB, .string SAB] 24)
  have C := C.alloc (.cells #[.bool GAB, .string SAB] 24)
  have T7 := T7.alloc (.cells #[.bool GAB, .string SAB] 24)
  have T9 := Two.new w5 (.bool GAB) (.string SAB) 24 (w5.heap.size) (by first | (simp; done) | (simp; omega) | omega)
  have k := k.alloc (by first | (simp; done) | (simp; omega) | omega) (.cells #[.bool GAB, .string SAB] 24)
  have q8a := B.1
  have q8b := B.2.1
  have q9a := C.1
  have q9b := C.2.1
  go_wp2_with fail
  refine (H_bc.out _).mono ?_; rintro e w6 ⟨rfl, b6⟩
  clear q8a q8b q9a q9b
  have A := A.below b6 rfl
  have B := B.below b6 rfl
  have C := C.below b6 rfl
  have T7 := T7.below b6 rfl
  have T9 := T9.below b6 rfl
  have lA := A.2.2.2.2
  have lB := B.2.2.2.2
  have lC := C.2.2.2.2
  have lT7 := T7.2.2.2.2
  have lT9 := T9.2.2.2.2
  have k := bnextW k b6 (by first | (simp; done) | (simp; omega) | omega)
  have z6 := k.size
  have A := A.alloc (.cells #[.bool GBC, .string SBC] 24)
  have B := B.alloc (.cells #[.bool GBC, .string SBC] 24)
  have C := C.alloc (.cells #[.bool GBC, .string SBC] 24)
  have T7 := T7.alloc (.cells #[.bool GBC, .string SBC] 24)
  have T9 := T9.alloc (.cells #[.bool GBC, .string SBC] 24)
  have T11 := Two.new w6 (.bool GBC) (.string SBC) 24 (w6.heap.size) (by first | (simp; done) | (simp; omega) | omega)
  have k := k.alloc (by first | (simp; done) | (simp; omega) | omega) (.cells #[.bool GBC, .string SBC] 24)
  have q10a := T7.1
  have q10b := T7.2.1
  have q11a := B.1
  have q11b := B.2.1
  go_wp2_with fail
  refine (H_bk.out _).mono ?_; rintro e w7 ⟨rfl, b7⟩
  clear q10a q10b q11a q11b
  have A := A.below b7 rfl
  have B := B.below b7 rfl
  have C := C.below b7 rfl
  have T7 := T7.below b7 rfl
  have T9 := T9.below b7 rfl
  have T11 := T11.below b7 rfl
  have lA := A.2.2.2.2
  have lB := B.2.2.2.2
  have lC := C.2.2.2.2
  have lT7 := T7.2.2.2.2
  have lT9 := T9.2.2.2.2
  have lT11 := T11.2.2.2.2
  have k := bnextW k b7 (by first | (simp; done) | (simp; omega) | omega)
  have z7 := k.size
  have A := A.alloc (.cells #[.bool g1, .string s1] 24)
  have B := B.alloc (.cells #[.bool g1, .string s1] 24)
  have C := C.alloc (.cells #[.bool g1, .string s1] 24)
  have T7 := T7.alloc (.cells #[.bool g1, .string s1] 24)
  have T9 := T9.alloc (.cells #[.bool g1, .string s1] 24)
  have T11 := T11.alloc (.cells #[.bool g1, .string s1] 24)
  have T13 := Two.new w7 (.bool g1) (.string s1) 24 (w7.heap.size) (by first | (simp; done) | (simp; omega) | omega)
  have k := k.alloc (by first | (simp; done) | (simp; omega) | omega) (.cells #[.bool g1, .string s1] 24)
  have q12a := T7.1
  have q12b := T7.2.1
  have q13a := C.1
  have q13b := C.2.1
  have q14a := T7.1
  have q14b := T7.2.1
  have q15a := T9.1
  have q15b := T9.2.1
  have q16a := T13.1
  have q16b := T13.2.1
  have q17a := A.1
  have q17b := A.2.1
  go_wp2_with fail
  refine (H_x.out _).mono ?_; rintro e w8 ⟨rfl, b8⟩
  clear q12a q12b q13a q13b q14a q14b q15a q15b q16a q16b q17a q17b
  have A := A.below b8 rfl
  have B := B.below b8 rfl
  have C := C.below b8 rfl
  have T7 := T7.below b8 rfl
  have T9 := T9.below b8 rfl
  have T11 := T11.below b8 rfl
  have T13 := T13.below b8 rfl
  have lA := A.2.2.2.2
  have lB := B.2.2.2.2
  have lC := C.2.2.2.2
  have lT7 := T7.2.2.2.2
  have lT9 := T9.2.2.2.2
  have lT11 := T11.2.2.2.2
  have lT13 := T13.2.2.2.2
  have k := bnextW k b8 (by first | (simp; done) | (simp; omega) | omega)
  have z8 := k.size
  have A := A.alloc (.cells #[.bool GX, .string SX] 24)
  have B := B.alloc (.cells #[.bool GX, .string SX] 24)
  have C := C.alloc (.cells #[.bool GX, .string SX] 24)
  have T7 := T7.alloc (.cells #[.bool GX, .string SX] 24)
  have T9 := T9.alloc (.cells #[.bool GX, .string SX] 24)
  have T11 := T11.alloc (.cells #[.bool GX, .string SX] 24)
  have T13 := T13.alloc (.cells #[.bool GX, .string SX] 24)
  have T15 := Two.new w8 (.bool GX) (.string SX) 24 (w8.heap.size) (by first | (simp; done) | (simp; omega) | omega)
  have k := k.alloc (by first | (simp; done) | (simp; omega) | omega) (.cells #[.bool GX, .string SX] 24)
  have q18a := A.1
  have q18b := A.2.1
  have q19a := T11.1
  have q19b := T11.2.1
  go_wp2_with fail
  refine (H_y.out _).mono ?_; rintro e w9 ⟨rfl, b9⟩
  clear q18a q18b q19a q19b
  have A := A.below b9 rfl
  have B := B.below b9 rfl
  have C := C.below b9 rfl
  have T7 := T7.below b9 rfl
  have T9 := T9.below b9 rfl
  have T11 := T11.below b9 rfl
  have T13 := T13.below b9 rfl
  have T15 := T15.below b9 rfl
  have lA := A.2.2.2.2
  have lB := B.2.2.2.2
  have lC := C.2.2.2.2
  have lT7 := T7.2.2.2.2
  have lT9 := T9.2.2.2.2
  have lT11 := T11.2.2.2.2
  have lT13 := T13.2.2.2.2
  have lT15 := T15.2.2.2.2
  have k := bnextW k b9 (by first | (simp; done) | (simp; omega) | omega)
  have z9 := k.size
  have A := A.alloc (.cells #[.bool GX, .string SX] 24)
  have B := B.alloc (.cells #[.bool GX, .string SX] 24)
  have C := C.alloc (.cells #[.bool GX, .string SX] 24)
  have T7 := T7.alloc (.cells #[.bool GX, .string SX] 24)
  have T9 := T9.alloc (.cells #[.bool GX, .string SX] 24)
  have T11 := T11.alloc (.cells #[.bool GX, .string SX] 24)
  have T13 := T13.alloc (.cells #[.bool GX, .string SX] 24)
  have T15 := T15.alloc (.cells #[.bool GX, .string SX] 24)
  have T16 := Two.new w9 (.bool GX) (.string SX) 24 (w9.heap.size) (by first | (simp; done) | (simp; omega) | omega)
  have k := k.alloc (by first | (simp; done) | (simp; omega) | omega) (.cells #[.bool GX, .string SX] 24)
  have q20a := A.1
  have q20b := A.2.1
  have q21a := T11.1
  have q21b := T11.2.1
  go_wp2_with fail
  refine (H_p.out _).mono ?_; rintro e w10 ⟨rfl, b10⟩
  clear q20a q20b q21a q21b
  have A := A.below b10 rfl
  have B := B.below b10 rfl
  have C := C.below b10 rfl
  have T7 := T7.below b10 rfl
  have T9 := T9.below b10 rfl
  have T11 := T11.below b10 rfl
  have T13 := T13.below b10 rfl
  have T15 := T15.below b10 rfl
  have T16 := T16.below b10 rfl
  have lA := A.2.2.2.2
  have lB := B.2.2.2.2
  have lC := C.2.2.2.2
  have lT7 := T7.2.2.2.2
  have lT9 := T9.2.2.2.2
  have lT11 := T11.2.2.2.2
  have lT13 := T13.2.2.2.2
  have lT15 := T15.2.2.2.2
  have lT16 := T16.2.2.2.2
  have k := bnextW k b10 (by first | (simp; done) | (simp; omega) | omega)
  have z10 := k.size
  have A := A.alloc (.cells #[.bool GP, .string SP] 24)
  have B := B.alloc (.cells #[.bool GP, .string SP] 24)
  have C := C.alloc (.cells #[.bool GP, .string SP] 24)
  have T7 := T7.alloc (.cells #[.bool GP, .string SP] 24)
  have T9 := T9.alloc (.cells #[.bool GP, .string SP] 24)
  have T11 := T11.alloc (.cells #[.bool GP, .string SP] 24)
  have T13 := T13.alloc (.cells #[.bool GP, .string SP] 24)
  have T15 := T15.alloc (.cells #[.bool GP, .string SP] 24)
  have T16 := T16.alloc (.cells #[.bool GP, .string SP] 24)
  have T17 := Two.new w10 (.bool GP) (.string SP) 24 (w10.heap.size) (by first | (simp; done) | (simp; omega) | omega)
  have k := k.alloc (by first | (simp; done) | (simp; omega) | omega) (.cells #[.bool GP, .string SP] 24)
  have q22a := A.1
  have q22b := A.2.1
  have q23a := B.1
  have q23b := B.2.1
  go_wp2_with fail
  refine (H_q.out _).mono ?_; rintro e w11 ⟨rfl, b11⟩
  clear q22a q22b q23a q23b
  have A := A.below b11 rfl
  have B := B.below b11 rfl
  have C := C.below b11 rfl
  have T7 := T7.below b11 rfl
  have T9 := T9.below b11 rfl
  have T11 := T11.below b11 rfl
  have T13 := T13.below b11 rfl
  have T15 := T15.below b11 rfl
  have T16 := T16.below b11 rfl
  have T17 := T17.below b11 rfl
  have lA := A.2.2.2.2
  have lB := B.2.2.2.2
  have lC := C.2.2.2.2
  have lT7 := T7.2.2.2.2
  have lT9 := T9.2.2.2.2
  have lT11 := T11.2.2.2.2
  have lT13 := T13.2.2.2.2
  have lT15 := T15.2.2.2.2
  have lT16 := T16.2.2.2.2
  have lT17 := T17.2.2.2.2
  have k := bnextW k b11 (by first | (simp; done) | (simp; omega) | omega)
  have z11 := k.size
  have A := A.alloc (.cells #[.bool GQ, .string SQ] 24)
  have B := B.alloc (.cells #[.bool GQ, .string SQ] 24)
  have C := C.alloc (.cells #[.bool GQ, .string SQ] 24)
  have T7 := T7.alloc (.cells #[.bool GQ, .string SQ] 24)
  have T9 := T9.alloc (.cells #[.bool GQ, .string SQ] 24)
  have T11 := T11.alloc (.cells #[.bool GQ, .string SQ] 24)
  have T13 := T13.alloc (.cells #[.bool GQ, .string SQ] 24)
  have T15 := T15.alloc (.cells #[.bool GQ, .string SQ] 24)
  have T16 := T16.alloc (.cells #[.bool GQ, .string SQ] 24)
  have T17 := T17.alloc (.cells #[.bool GQ, .string SQ] 24)
  have T18 := Two.new w11 (.bool GQ) (.string SQ) 24 (w11.heap.size) (by first | (simp; done) | (simp; omega) | omega)
  have k := k.alloc (by first | (simp; done) | (simp; omega) | omega) (.cells #[.bool GQ, .string SQ] 24)
  have q24a := A.1
  have q24b := A.2.1
  have q25a := C.1
  have q25b := C.2.1
  go_wp2_with fail
  refine (H_r.out _).mono ?_; rintro e w12 ⟨rfl, b12⟩
  clear q24a q24b q25a q25b
  have A := A.below b12 rfl
  have B := B.below b12 rfl
  have C := C.below b12 rfl
  have T7 := T7.below b12 rfl
  have T9 := T9.below b12 rfl
  have T11 := T11.below b12 rfl
  have T13 := T13.below b12 rfl
  have T15 := T15.below b12 rfl
  have T16 := T16.below b12 rfl
  have T17 := T17.below b12 rfl
  have T18 := T18.below b12 rfl
  have lA := A.2.2.2.2
  have lB := B.2.2.2.2
  have lC := C.2.2.2.2
  have lT7 := T7.2.2.2.2
  have lT9 := T9.2.2.2.2
  have lT11 := T11.2.2.2.2
  have lT13 := T13.2.2.2.2
  have lT15 := T15.2.2.2.2
  have lT16 := T16.2.2.2.2
  have lT17 := T17.2.2.2.2
  have lT18 := T18.2.2.2.2
  have k := bnextW k b12 (by first | (simp; done) | (simp; omega) | omega)
  have z12 := k.size
  have A := A.alloc (.cells #[.bool GR, .string SR] 24)
  have B := B.alloc (.cells #[.bool GR, .string SR] 24)
  have C := C.alloc (.cells #[.bool GR, .string SR] 24)
  have T7 := T7.alloc (.cells #[.bool GR, .string SR] 24)
  have T9 := T9.alloc (.cells #[.bool GR, .string SR] 24)
  have T11 := T11.alloc (.cells #[.bool GR, .string SR] 24)
  have T13 := T13.alloc (.cells #[.bool GR, .string SR] 24)
  have T15 := T15.alloc (.cells #[.bool GR, .string SR] 24)
  have T16 := T16.alloc (.cells #[.bool GR, .string SR] 24)
  have T17 := T17.alloc (.cells #[.bool GR, .string SR] 24)
  have T18 := T18.alloc (.cells #[.bool GR, .string SR] 24)
  have T19 := Two.new w12 (.bool GR) (.string SR) 24 (w12.heap.size) (by first | (simp; done) | (simp; omega) | omega)
  have k := k.alloc (by first | (simp; done) | (simp; omega) | omega) (.cells #[.bool GR, .string SR] 24)
  have q26a := T18.1
  have q26b := T18.2.1
  have q27a := T19.1
  have q27b := T19.2.1
  go_wp2_with fail
  refine (H_s.out _).mono ?_; rintro e w13 ⟨rfl, b13⟩
  clear q26a q26b q27a q27b
  have A := A.below b13 rfl
  have B := B.below b13 rfl
  have C := C.below b13 rfl
  have T7 := T7.below b13 rfl
  have T9 := T9.below b13 rfl
  have T11 := T11.below b13 rfl
  have T13 := T13.below b13 rfl
  have T15 := T15.below b13 rfl
  have T16 := T16.below b13 rfl
  have T17 := T17.below b13 rfl
  have T18 := T18.below b13 rfl
  have T19 := T19.below b13 rfl
  have lA := A.2.2.2.2
  have lB := B.2.2.2.2
  have lC := C.2.2.2.2
  have lT7 := T7.2.2.2.2
  have lT9 := T9.2.2.2.2
  have lT11 := T11.2.2.2.2
  have lT13 := T13.2.2.2.2
  have lT15 := T15.2.2.2.2
  have lT16 := T16.2.2.2.2
  have lT17 := T17.2.2.2.2
  have lT18 := T18.2.2.2.2
  have lT19 := T19.2.2.2.2
  have k := bnextW k b13 (by first | (simp; done) | (simp; omega) | omega)
  have z13 := k.size
  have A := A.alloc (.cells #[.bool GP, .string SP] 24)
  have B := B.alloc (.cells #[.bool GP, .string SP] 24)
  have C := C.alloc (.cells #[.bool GP, .string SP] 24)
  have T7 := T7.alloc (.cells #[.bool GP, .string SP] 24)
  have T9 := T9.alloc (.cells #[.bool GP, .string SP] 24)
  have T11 := T11.alloc (.cells #[.bool GP, .string SP] 24)
  have T13 := T13.alloc (.cells #[.bool GP, .string SP] 24)
  have T15 := T15.alloc (.cells #[.bool GP, .string SP] 24)
  have T16 := T16.alloc (.cells #[.bool GP, .string SP] 24)
  have T17 := T17.alloc (.cells #[.bool GP, .string SP] 24)
  have T18 := T18.alloc (.cells #[.bool GP, .string SP] 24)
  have T19 := T19.alloc (.cells #[.bool GP, .string SP] 24)
  have T21 := Two.new w13 (.bool GP) (.string SP) 24 (w13.heap.size) (by first | (simp; done) | (simp; omega) | omega)
  have k := k.alloc (by first | (simp; done) | (simp; omega) | omega) (.cells #[.bool GP, .string SP] 24)
  have q28a := B.1
  have q28b := B.2.1
  have q29a := A.1
  have q29b := A.2.1
  go_wp2_with fail
  refine (H_t.out _).mono ?_; rintro e w14 ⟨rfl, b14⟩
  clear q28a q28b q29a q29b
  have A := A.below b14 rfl
  have B := B.below b14 rfl
  have C := C.below b14 rfl
  have T7 := T7.below b14 rfl
  have T9 := T9.below b14 rfl
  have T11 := T11.below b14 rfl
  have T13 := T13.below b14 rfl
  have T15 := T15.below b14 rfl
  have T16 := T16.below b14 rfl
  have T17 := T17.below b14 rfl
  have T18 := T18.below b14 rfl
  have T19 := T19.below b14 rfl
  have T21 := T21.below b14 rfl
  have lA := A.2.2.2.2
  have lB := B.2.2.2.2
  have lC := C.2.2.2.2
  have lT7 := T7.2.2.2.2
  have lT9 := T9.2.2.2.2
  have lT11 := T11.2.2.2.2
  have lT13 := T13.2.2.2.2
  have lT15 := T15.2.2.2.2
  have lT16 := T16.2.2.2.2
  have lT17 := T17.2.2.2.2
  have lT18 := T18.2.2.2.2
  have lT19 := T19.2.2.2.2
  have lT21 := T21.2.2.2.2
  have k := bnextW k b14 (by first | (simp; done) | (simp; omega) | omega)
  have z14 := k.size
  have A := A.alloc (.cells #[.bool GQ, .string SQ] 24)
  have B := B.alloc (.cells #[.bool GQ, .string SQ] 24)
  have C := C.alloc (.cells #[.bool GQ, .string SQ] 24)
  have T7 := T7.alloc (.cells #[.bool GQ, .string SQ] 24)
  have T9 := T9.alloc (.cells #[.bool GQ, .string SQ] 24)
  have T11 := T11.alloc (.cells #[.bool GQ, .string SQ] 24)
  have T13 := T13.alloc (.cells #[.bool GQ, .string SQ] 24)
  have T15 := T15.alloc (.cells #[.bool GQ, .string SQ] 24)
  have T16 := T16.alloc (.cells #[.bool GQ, .string SQ] 24)
  have T17 := T17.alloc (.cells #[.bool GQ, .string SQ] 24)
  have T18 := T18.alloc (.cells #[.bool GQ, .string SQ] 24)
  have T19 := T19.alloc (.cells #[.bool GQ, .string SQ] 24)
  have T21 := T21.alloc (.cells #[.bool GQ, .string SQ] 24)
  have T23 := Two.new w14 (.bool GQ) (.string SQ) 24 (w14.heap.size) (by first | (simp; done) | (simp; omega) | omega)
  have k := k.alloc (by first | (simp; done) | (simp; omega) | omega) (.cells #[.bool GQ, .string SQ] 24)
  have q30a := A.1
  have q30b := A.2.1
  have q31a := B.1
  have q31b := B.2.1
  go_wp2_with fail
  refine (H_d.out _).mono ?_; rintro e w15 ⟨rfl, b15⟩
  clear q30a q30b q31a q31b
  have A := A.below b15 rfl
  have B := B.below b15 rfl
  have C := C.below b15 rfl
  have T7 := T7.below b15 rfl
  have T9 := T9.below b15 rfl
  have T11 := T11.below b15 rfl
  have T13 := T13.below b15 rfl
  have T15 := T15.below b15 rfl
  have T16 := T16.below b15 rfl
  have T17 := T17.below b15 rfl
  have T18 := T18.below b15 rfl
  have T19 := T19.below b15 rfl
  have T21 := T21.below b15 rfl
  have T23 := T23.below b15 rfl
  have lA := A.2.2.2.2
  have lB := B.2.2.2.2
  have lC := C.2.2.2.2
  have lT7 := T7.2.2.2.2
  have lT9 := T9.2.2.2.2
  have lT11 := T11.2.2.2.2
  have lT13 := T13.2.2.2.2
  have lT15 := T15.2.2.2.2
  have lT16 := T16.2.2.2.2
  have lT17 := T17.2.2.2.2
  have lT18 := T18.2.2.2.2
  have lT19 := T19.2.2.2.2
  have lT21 := T21.2.2.2.2
  have lT23 := T23.2.2.2.2
  have k := bnextW k b15 (by first | (simp; done) | (simp; omega) | omega)
  have z15 := k.size
  have A := A.alloc (.cells #[.bool GD, .string SD] 24)
  have B := B.alloc (.cells #[.bool GD, .string SD] 24)
  have C := C.alloc (.cells #[.bool GD, .string SD] 24)
  have T7 := T7.alloc (.cells #[.bool GD, .string SD] 24)
  have T9 := T9.alloc (.cells #[.bool GD, .string SD] 24)
  have T11 := T11.alloc (.cells #[.bool GD, .string SD] 24)
  have T13 := T13.alloc (.cells #[.bool GD, .string SD] 24)
  have T15 := T15.alloc (.cells #[.bool GD, .string SD] 24)
  have T16 := T16.alloc (.cells #[.bool GD, .string SD] 24)
  have T17 := T17.alloc (.cells #[.bool GD, .string SD] 24)
  have T18 := T18.alloc (.cells #[.bool GD, .string SD] 24)
  have T19 := T19.alloc (.cells #[.bool GD, .string SD] 24)
  have T21 := T21.alloc (.cells #[.bool GD, .string SD] 24)
  have T23 := T23.alloc (.cells #[.bool GD, .string SD] 24)
  have T25 := Two.new w15 (.bool GD) (.string SD) 24 (w15.heap.size) (by first | (simp; done) | (simp; omega) | omega)
  have k := k.alloc (by first | (simp; done) | (simp; omega) | omega) (.cells #[.bool GD, .string SD] 24)
  have q32a := A.1
  have q32b := A.2.1
  have q33a := B.1
  have q33b := B.2.1
  go_wp2_with fail
  refine (H_n.out _).mono ?_; rintro e w16 ⟨rfl, b16⟩
  clear q32a q32b q33a q33b
  have A := A.below b16 rfl
  have B := B.below b16 rfl
  have C := C.below b16 rfl
  have T7 := T7.below b16 rfl
  have T9 := T9.below b16 rfl
  have T11 := T11.below b16 rfl
  have T13 := T13.below b16 rfl
  have T15 := T15.below b16 rfl
  have T16 := T16.below b16 rfl
  have T17 := T17.below b16 rfl
  have T18 := T18.below b16 rfl
  have T19 := T19.below b16 rfl
  have T21 := T21.below b16 rfl
  have T23 := T23.below b16 rfl
  have T25 := T25.below b16 rfl
  have lA := A.2.2.2.2
  have lB := B.2.2.2.2
  have lC := C.2.2.2.2
  have lT7 := T7.2.2.2.2
  have lT9 := T9.2.2.2.2
  have lT11 := T11.2.2.2.2
  have lT13 := T13.2.2.2.2
  have lT15 := T15.2.2.2.2
  have lT16 := T16.2.2.2.2
  have lT17 := T17.2.2.2.2
  have lT18 := T18.2.2.2.2
  have lT19 := T19.2.2.2.2
  have lT21 := T21.2.2.2.2
  have lT23 := T23.2.2.2.2
  have lT25 := T25.2.2.2.2
  have k := bnextW k b16 (by first | (simp; done) | (simp; omega) | omega)
  have z16 := k.size
  go_wp2
  go_region_held3 (fun w' => w'.cell? ⟨w8.heap.size, 0, none⟩ = some (.bool GX) ∧ w'.cell? ⟨w8.heap.size, 1, none⟩ = some (.string SX) ∧ w'.cell? ⟨w9.heap.size, 0, none⟩ = some (.bool GX) ∧ w'.cell? ⟨w9.heap.size, 1, none⟩ = some (.string SX) ∧ w'.cell? ⟨w10.heap.size, 0, none⟩ = some (.bool GP) ∧ w'.cell? ⟨w10.heap.size, 1, none⟩ = some (.string SP) ∧ w'.cell? ⟨w13.heap.size, 0, none⟩ = some (.bool GP) ∧ w'.cell? ⟨w13.heap.size, 1, none⟩ = some (.string SP) ∧ w'.cell? ⟨w11.heap.size, 0, none⟩ = some (.bool GQ) ∧ w'.cell? ⟨w11.heap.size, 1, none⟩ = some (.string SQ) ∧ w'.cell? ⟨w14.heap.size, 0, none⟩ = some (.bool GQ) ∧ w'.cell? ⟨w14.heap.size, 1, none⟩ = some (.string SQ) ∧ w'.cell? ⟨w.heap.size + 1, 0, none⟩ = some (.bool g1) ∧ w'.cell? ⟨w.heap.size + 1, 1, none⟩ = some (.string s2) ∧ w'.cell? ⟨w.heap.size, 0, none⟩ = some (.bool g1) ∧ w'.cell? ⟨w.heap.size, 1, none⟩ = some (.string s1) ∧ w'.cell? ⟨w15.heap.size, 0, none⟩ = some (.bool GD) ∧ w'.cell? ⟨w15.heap.size, 1, none⟩ = some (.string SD) ∧ w'.cell? ⟨w4.heap.size, 0, none⟩ = some (.bool GAB) ∧ w'.cell? ⟨w4.heap.size, 1, none⟩ = some (.string SAB) ∧ w'.cell? ⟨w6.heap.size, 0, none⟩ = some (.bool GBC) ∧ w'.cell? ⟨w6.heap.size, 1, none⟩ = some (.string SBC) ∧ w'.cell? ⟨w.heap.size + 1 + 1, 0, none⟩ = some (.bool g3) ∧ w'.cell? ⟨w.heap.size + 1 + 1, 1, none⟩ = some (.string s3) ∧ Below w.heap.size w w') (first | exact ⟨T15.1, T15.2.1, T16.1, T16.2.1, T17.1, T17.2.1, T21.1, T21.2.1, T18.1, T18.2.1, T23.1, T23.2.1, B.1, B.2.1, A.1, A.2.1, T25.1, T25.2.1, T7.1, T7.2.1, T11.1, T11.2.1, C.1, C.2.1, k.drew⟩ | exact keep12S b99 (by assumption))
    (first
    | (go_at_call 13; ((with_reducible refine (awake2 _).mono ?_); rintro e w99 ⟨rfl, b99⟩))
    | (go_at_call 16; ((with_reducible refine (of_nul _).mono ?_); rintro e w99 ⟨rfl, b99⟩))
    | (go_at_call 24; ((with_reducible refine (H_nb.out _).mono ?_); rintro e w99 ⟨rfl, b99⟩))
    | (go_at_call 24; ((with_reducible refine (H_nd.out _).mono ?_); rintro e w99 ⟨rfl, b99⟩))
    | (go_at_call 24; ((with_reducible refine (H_na.out _).mono ?_); rintro e w99 ⟨rfl, b99⟩))
    | (go_at_call 24; ((with_reducible refine (H_nc.out _).mono ?_); rintro e w99 ⟨rfl, b99⟩)))
  all_goals go_wp2
  all_goals go_ret
  all_goals exact ⟨rfl, keep12L (by assumption)⟩

theorem mul30 {a b : Int} (ha : a.natAbs < 256 ^ 30 + 256 ^ 30) (hb : b.natAbs < 256 ^ 30 + 256 ^ 30) : (a * b).natAbs < Lim := by
  rw [Int.natAbs_mul]
  exact Nat.lt_trans (Nat.lt_of_le_of_lt (Nat.mul_le_mul_left _ (Nat.le_of_lt hb)) (Nat.mul_lt_mul_of_pos_right ha (by decide +kernel))) lim30
theorem small30 {a : Nat} (ha : a < 256 ^ 30 + 256 ^ 30 + 256 ^ 30) : a < Lim := by
  have h : 256 ^ 30 + 256 ^ 30 + 256 ^ 30 < Lim := by rw [lim_eq]; decide +kernel
  omega
theorem law_IntegerRing (g1 : Bool) (s1 : ByteArray) (g2 : Bool) (s2 : ByteArray) (g3 : Bool) (s3 : ByteArray) (l1 : s1.size ≤ maxLen) (l2 : s2.size ≤ maxLen) (l3 : s3.size ≤ maxLen) (w : World) :
    Calls Try.prog 9 #[.agg #[.bool g1, .string s1], .agg #[.bool g2, .string s2], .agg #[.bool g3, .string s3]] w fun e w' => e = .returned (.bool true) ∧ Below w.heap.size w w' := by
  unfold maxLen at l1 l2 l3
  by_cases i1 : IVal g1 s1
  · by_cases i2 : IVal g2 s2
    · by_cases i3 : IVal g3 s3
      · by_cases k1 : s1.size ≤ 30
        · by_cases k2 : s2.size ≤ 30
          · by_cases k3 : s3.size ≤ 30
            · have p1 := pair_IZ i1
              have hinj := fun h => IZ_inj i1 i2 h
              have m1 := IZ30 (g := g1) k1
              have m2 := IZ30 (g := g2) k2
              have m3 := IZ30 (g := g3) k3
              have h0 : IVal false ⟨#[]⟩ ∧ IZ false ⟨#[]⟩ = 0 := by
                have a := ival_Z 0 (by have := lim_two; show 0 < Lim; omega)
                have b := IZ_Z 0
                exact ⟨a, b⟩
              have hab := add_z g1 g2 s1 s2 i1 i2 (small30 (by omega))
              have hba := add_z g2 g1 s2 s1 i2 i1 (small30 (by omega))
              have hbc := add_z g2 g3 s2 s3 i2 i3 (small30 (by omega))
              have vab := ival_Z (IZ g1 s1 + IZ g2 s2) (small30 (by omega))
              have vbc := ival_Z (IZ g2 s2 + IZ g3 s3) (small30 (by omega))
              have hbk := sub_z _ g2 _ s2 vab i2 (by rw [IZ_Z]; exact small30 (by omega))
              have hx := add_z _ g3 _ s3 vab i3 (by rw [IZ_Z]; exact small30 (by omega))
              have hy := add_z g1 _ s1 _ i1 vbc (by rw [IZ_Z]; exact small30 (by omega))
              have hp := mul_z g1 _ s1 _ i1 vbc (by rw [IZ_Z]; exact mul30 (by omega) (by omega))
              have hq := mul_z g1 g2 s1 s2 i1 i2 (mul30 (by omega) (by omega))
              have hr := mul_z g1 g3 s1 s3 i1 i3 (mul30 (by omega) (by omega))
              have vq := ival_Z (IZ g1 s1 * IZ g2 s2) (mul30 (by omega) (by omega))
              have vr := ival_Z (IZ g1 s1 * IZ g3 s3) (mul30 (by omega) (by omega))
              have hs := add_z _ _ _ _ vq vr (by rw [IZ_Z, IZ_Z, ← Int.mul_add]; exact mul30 (by omega) (by omega))
              have ht := mul_z g2 g1 s2 s1 i2 i1 (mul30 (by omega) (by omega))
              have hd := sub_z g1 g2 s1 s2 i1 i2 (small30 (by omega))
              have vd := ival_Z (IZ g1 s1 - IZ g2 s2) (small30 (by omega))
              have cn := fun w => icmp_yes g1 g2 s1 s2 w i1 i2
              have cb := fun w => icmp_yes g2 g1 s2 s1 w i2 i1
              have cd := fun w => icmp_yes _ _ _ _ w vd h0.1
              have ca := fun w => icmp_yes _ _ _ _ w vab vbc
              have cc := fun w => icmp_yes g1 g3 s1 s3 w i1 i3
              rw [Int.add_comm (IZ g2 s2)] at hba
              rw [IZ_Z, show IZ g1 s1 + IZ g2 s2 - IZ g2 s2 = IZ g1 s1 by omega, p1.1, p1.2] at hbk
              rw [IZ_Z] at hx hy hp
              rw [← Int.add_assoc] at hy
              rw [IZ_Z, IZ_Z, ← Int.mul_add] at hs
              rw [Int.mul_comm (IZ g2 s2)] at ht
              rw [IZ_Z, h0.2, zsgn_sub, zsgn_swap (IZ g2 s2)] at cd
              rw [IZ_Z, IZ_Z, zsgn_add] at ca
              rw [zsgn_swap (IZ g2 s2)] at cn
              have hb := zsgn_bd (IZ g2 s2) (IZ g1 s1)
              have hz : zsgn (IZ g2 s2) (IZ g1 s1) = 0 ↔ g1 = g2 ∧ s1 = s2 := by
                rw [zsgn_zero]
                constructor
                · intro h; exact hinj h.symm
                · intro h; rw [h.1, h.2]
              generalize zsgn (IZ g2 s2) (IZ g1 s1) = d at *
              have e4 : IntKind.i64.wrap (-d) = -d := IntWalk.i64_in _ (by omega)
              have e5 : wrap64 (-d) = -d := by unfold wrap64; omega
              by_cases he : g1 = g2 ∧ s1 = s2
              · have hd0 := hz.2 he
                exact ring_same g1 g2 g3 _ _ _ _ _ _ _ s1 s2 s3 _ _ _ _ _ _ _ d _ w i1 i2 i3 (by omega) (by omega) (by omega) he.1 he.2 hb.1 hb.2 (by rw [hd0]; rfl) (by rw [hd0]; rfl) e4 e5 hab hba hbc hbk hx hy hp hq hr hs ht hd cn cb cd ca cc
              · have hd0 : d ≠ 0 := fun q => he (hz.1 q)
                have e2 : (d == 0) = false := by rw [beq_eq_false_iff_ne]; exact hd0
                have e3 : (-d == 0) = false := by rw [beq_eq_false_iff_ne]; omega
                by_cases hg : g1 = g2
                · have hss : (s1.toList == s2.toList) = false := by
                    rw [beq_eq_false_iff_ne]
                    intro q
                    refine he ⟨hg, ?_⟩
                    rw [ByteArray.toList_eq, ByteArray.toList_eq] at q
                    exact ByteArray.ext (Array.ext' q)
                  exact ring_size g1 g2 g3 _ _ _ _ _ _ _ s1 s2 s3 _ _ _ _ _ _ _ d _ w i1 i2 i3 (by omega) (by omega) (by omega) hg hss hb.1 hb.2 e2 e3 e4 e5 hab hba hbc hbk hx hy hp hq hr hs ht hd cn cb cd ca cc
                · exact ring_sign g1 g2 g3 _ _ _ _ _ _ _ s1 s2 s3 _ _ _ _ _ _ _ d _ w i1 i2 i3 (by omega) (by omega) (by omega) (by rw [beq_eq_false_iff_ne]; exact hg) hb.1 hb.2 e2 e3 e4 e5 hab hba hbc hbk hx hy hp hq hr hs ht hd cn cb cd ca cc
            · exact ring_l3 g1 g2 g3 s1 s2 s3 w i1 i2 i3 (by omega) (by omega) (by omega) (by omega) (by omega) (by omega)
          · exact ring_l2 g1 g2 g3 s1 s2 s3 w i1 i2 i3 (by omega) (by omega) (by omega) (by omega) (by omega)
        · exact ring_l1 g1 g2 g3 s1 s2 s3 w i1 i2 i3 (by omega) (by omega) (by omega) (by omega)
      · exact ring_n3 g1 g2 g3 s1 s2 s3 w i1 i2 i3
    · exact ring_n2 g1 g2 g3 s1 s2 s3 w i1 i2
  · exact ring_n1 g1 g2 g3 s1 s2 s3 w i1
end Go.Proofs.Ytamgklgjhjociaa
