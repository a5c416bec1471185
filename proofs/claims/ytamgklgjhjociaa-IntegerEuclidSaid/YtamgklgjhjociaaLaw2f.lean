/-
  The walk of IntegerEuclid.
-/
import Derived.Test.YtamgklgjhjociaaLaw2b
namespace Go.Proofs.Ytamgklgjhjociaa
open Go.RowKit
set_option linter.unusedVariables false

theorem add_z (g1 g2 : Bool) (s1 s2 : ByteArray) (h1 : IVal g1 s1) (h2 : IVal g2 s2) (hl : (IZ g1 s1 + IZ g2 s2).natAbs < Lim) (w : World) :
    Calls Try.prog 26 #[.agg #[.bool g1, .string s1], .agg #[.bool g2, .string s2]] w fun e w' => e = .returned (.tuple #[.agg #[.bool (ZG (IZ g1 s1 + IZ g2 s2)), .string (ZS (IZ g1 s1 + IZ g2 s2))], .int .i64 0]) ∧ Below w.heap.size w w' := by
  have := iadd_yes g1 g2 s1 s2 w h1 h2
  rwa [zokN_yes hl] at this
theorem mul_z (g1 g2 : Bool) (s1 s2 : ByteArray) (h1 : IVal g1 s1) (h2 : IVal g2 s2) (hl : (IZ g1 s1 * IZ g2 s2).natAbs < Lim) (w : World) :
    Calls Try.prog 30 #[.agg #[.bool g1, .string s1], .agg #[.bool g2, .string s2]] w fun e w' => e = .returned (.tuple #[.agg #[.bool (ZG (IZ g1 s1 * IZ g2 s2)), .string (ZS (IZ g1 s1 * IZ g2 s2))], .int .i64 0]) ∧ Below w.heap.size w w' := by
  have := imul_yes g1 g2 s1 s2 w h1 h2
  rwa [zokN_yes hl] at this
theorem pair_IZ {g : Bool} {s : ByteArray} (h : IVal g s) : ZG (IZ g s) = g ∧ ZS (IZ g s) = s := by
  have e := Z_IZ h
  unfold Z at e
  injection e with e
  have e := congrArg Array.toList e
  simp at e
  exact ⟨e.1.symm, e.2.symm⟩
theorem quot_abs (a : Int) {b : Int} (hb : b ≠ 0) : (a / b).natAbs ≤ a.natAbs + 1 := by
  have h0 := Int.emod_nonneg a hb
  have h1 := Int.emod_lt a hb
  have e := Int.mul_ediv_add_emod a b
  have h2 : (b * (a / b)).natAbs ≤ a.natAbs + b.natAbs := by omega
  rw [Int.natAbs_mul] at h2
  have hB : 0 < b.natAbs := by omega
  have h3 : b.natAbs * (a / b).natAbs < b.natAbs * (a.natAbs + 2) := by
    rw [Nat.mul_add]
    have : a.natAbs ≤ b.natAbs * a.natAbs := Nat.le_mul_of_pos_left _ hB
    omega
  have := Nat.lt_of_mul_lt_mul_left h3
  omega
theorem cmp_below (s t : ByteArray) (w : World) (hs : Can s) (ht : Can t) :
    Calls Try.prog 44 #[.string s, .string t] w fun e w' => e = .returned (.int .i64 (sgn (V s) (V t))) ∧ Below w.heap.size w w' :=
  (cmp_yes s t w hs ht).mono fun _ _ => same_below
theorem imod_yes (g : Bool) (s m : ByteArray) (w : World) (h : IVal g s) (hm : Can m) (h0 : V m ≠ 0) :
    Calls Try.prog 34 #[.agg #[.bool g, .string s], .string m] w fun e w' => e = .returned (.tuple #[.string (E (IZ g s % (V m : Nat)).toNat), .int .i64 0]) ∧ Below w.heap.size w w' := by
  have hv : IVal (ZG (V m : Nat)) (ZS (V m : Nat)) := ival_Z _ (by simpa using V_lim hm)
  have hd := fun w => idiv_yes g (ZG (V m : Nat)) s (ZS (V m : Nat)) w h hv
  rw [IZ_Z] at hd
  unfold zdivN at hd
  rw [if_neg (by omega)] at hd
  exact imod_core g _ _ s m _ _ _ 0 w hm (fun w => from_z m w hm) hd
theorem mod_shift {g : Bool} {s : ByteArray} {a : Int} (h : IVal g s) : (a + IZ g s) % (V s : Nat) = a % IZ g s := by
  unfold IZ
  cases g
  · rw [sg_f, Int.add_emod_right]
  · rw [sg_t, Int.emod_neg, ← Int.sub_eq_add_neg, Int.sub_emod_right]
theorem idivide_exact (g1 g2 : Bool) (s1 s2 : ByteArray) (w : World) (h1 : IVal g1 s1) (h2 : IVal g2 s2) (hb : IZ g2 s2 ≠ 0) (hr : IZ g1 s1 % IZ g2 s2 = 0) :
    Calls Try.prog 36 #[.agg #[.bool g1, .string s1], .agg #[.bool g2, .string s2]] w fun e w' => e = .returned (.tuple #[.agg #[.bool (ZG (IZ g1 s1 / IZ g2 s2)), .string (ZS (IZ g1 s1 / IZ g2 s2))], .int .i64 0]) ∧ Below w.heap.size w w' := by
  have hd := fun w => idiv_yes g1 g2 s1 s2 w h1 h2
  unfold zdivN at hd
  rw [if_neg hb, hr] at hd
  exact idivide_ok g1 g2 _ s1 s2 _ _ 0 w rfl (by rw [E_empty]; rfl) hd

set_option maxHeartbeats 4000000 in
set_option maxRecDepth 20000 in
theorem euclid_n1 (g1 g2 : Bool) (s1 s2 : ByteArray) (w : World) (i1 : ¬ IVal g1 s1) :
    Calls Try.prog 10 #[.agg #[.bool g1, .string s1], .agg #[.bool g2, .string s2]] w fun e w' => e = .returned (.bool true) ∧ Below w.heap.size w w' := by
  have I1 := Lib.hid i1; clear i1
  have k := Below.refl w.heap.size w
  have A := Two.new w (.bool g1) (.string s1) 24 (w.heap.size) (by first | (simp; done) | (simp; omega) | omega)
  have k := k.alloc (by first | (simp; done) | (simp; omega) | omega) (.cells #[.bool g1, .string s1] 24)
  have A := A.alloc (.cells #[.bool g2, .string s2] 24)
  have B := Two.new (w.alloc (.cells #[.bool g1, .string s1] 24)) (.bool g2) (.string s2) 24 (w.heap.size + 1) (by first | (simp; done) | (simp; omega) | omega)
  have k := k.alloc (by first | (simp; done) | (simp; omega) | omega) (.cells #[.bool g2, .string s2] 24)
  go_enter Try.func10, Try.ntmps10
  go_wp2_with fail
  refine (ivalid_f g1 s1 _ I1.out).mono ?_; rintro e w1 ⟨rfl, b1⟩
  have A := A.below b1 rfl
  have B := B.below b1 rfl
  have lA := A.2.2.2.2
  have lB := B.2.2.2.2
  have k := bnextW k b1 (by first | (simp; done) | (simp; omega) | omega)
  have z1 := k.size
  go_wp2_with fail
  refine (awake2 _).mono ?_; rintro e w2 ⟨rfl, b2⟩
  have A := A.below b2 rfl
  have B := B.below b2 rfl
  have lA := A.2.2.2.2
  have lB := B.2.2.2.2
  have k := bnextW k b2 (by first | (simp; done) | (simp; omega) | omega)
  have z2 := k.size
  go_wp2
  go_ret
  exact ⟨rfl, k⟩

set_option maxHeartbeats 4000000 in
set_option maxRecDepth 20000 in
theorem euclid_n2 (g1 g2 : Bool) (s1 s2 : ByteArray) (w : World) (i1 : IVal g1 s1) (i2 : ¬ IVal g2 s2) :
    Calls Try.prog 10 #[.agg #[.bool g1, .string s1], .agg #[.bool g2, .string s2]] w fun e w' => e = .returned (.bool true) ∧ Below w.heap.size w w' := by
  have I1 := Lib.hid i1; clear i1
  have I2 := Lib.hid i2; clear i2
  have k := Below.refl w.heap.size w
  have A := Two.new w (.bool g1) (.string s1) 24 (w.heap.size) (by first | (simp; done) | (simp; omega) | omega)
  have k := k.alloc (by first | (simp; done) | (simp; omega) | omega) (.cells #[.bool g1, .string s1] 24)
  have A := A.alloc (.cells #[.bool g2, .string s2] 24)
  have B := Two.new (w.alloc (.cells #[.bool g1, .string s1] 24)) (.bool g2) (.string s2) 24 (w.heap.size + 1) (by first | (simp; done) | (simp; omega) | omega)
  have k := k.alloc (by first | (simp; done) | (simp; omega) | omega) (.cells #[.bool g2, .string s2] 24)
  go_enter Try.func10, Try.ntmps10
  go_wp2_with fail
  refine (ivalid_t g1 s1 _ I1.out).mono ?_; rintro e w1 ⟨rfl, b1⟩
  have A := A.below b1 rfl
  have B := B.below b1 rfl
  have lA := A.2.2.2.2
  have lB := B.2.2.2.2
  have k := bnextW k b1 (by first | (simp; done) | (simp; omega) | omega)
  have z1 := k.size
  have q1a := B.1
  have q1b := B.2.1
  go_wp2_with fail
  refine (ivalid_f g2 s2 _ I2.out).mono ?_; rintro e w2 ⟨rfl, b2⟩
  clear q1a q1b
  have A := A.below b2 rfl
  have B := B.below b2 rfl
  have lA := A.2.2.2.2
  have lB := B.2.2.2.2
  have k := bnextW k b2 (by first | (simp; done) | (simp; omega) | omega)
  have z2 := k.size
  go_wp2_with fail
  refine (awake2 _).mono ?_; rintro e w3 ⟨rfl, b3⟩
  have A := A.below b3 rfl
  have B := B.below b3 rfl
  have lA := A.2.2.2.2
  have lB := B.2.2.2.2
  have k := bnextW k b3 (by first | (simp; done) | (simp; omega) | omega)
  have z3 := k.size
  go_wp2
  go_ret
  exact ⟨rfl, k⟩

set_option maxHeartbeats 4000000 in
set_option maxRecDepth 20000 in
theorem euclid_l1 (g1 g2 : Bool) (s1 s2 : ByteArray) (w : World) (i1 : IVal g1 s1) (i2 : IVal g2 s2) (l1 : ¬ (s1.size : Int) ≤ 60) (m1 : s1.size ≤ 9223372036854775807) (m2 : s2.size ≤ 9223372036854775807) :
    Calls Try.prog 10 #[.agg #[.bool g1, .string s1], .agg #[.bool g2, .string s2]] w fun e w' => e = .returned (.bool true) ∧ Below w.heap.size w w' := by
  have I1 := Lib.hid i1; clear i1
  have I2 := Lib.hid i2; clear i2
  have k := Below.refl w.heap.size w
  have A := Two.new w (.bool g1) (.string s1) 24 (w.heap.size) (by first | (simp; done) | (simp; omega) | omega)
  have k := k.alloc (by first | (simp; done) | (simp; omega) | omega) (.cells #[.bool g1, .string s1] 24)
  have A := A.alloc (.cells #[.bool g2, .string s2] 24)
  have B := Two.new (w.alloc (.cells #[.bool g1, .string s1] 24)) (.bool g2) (.string s2) 24 (w.heap.size + 1) (by first | (simp; done) | (simp; omega) | omega)
  have k := k.alloc (by first | (simp; done) | (simp; omega) | omega) (.cells #[.bool g2, .string s2] 24)
  go_enter Try.func10, Try.ntmps10
  go_wp2_with fail
  refine (ivalid_t g1 s1 _ I1.out).mono ?_; rintro e w1 ⟨rfl, b1⟩
  have A := A.below b1 rfl
  have B := B.below b1 rfl
  have lA := A.2.2.2.2
  have lB := B.2.2.2.2
  have k := bnextW k b1 (by first | (simp; done) | (simp; omega) | omega)
  have z1 := k.size
  have q1a := B.1
  have q1b := B.2.1
  go_wp2_with fail
  refine (ivalid_t g2 s2 _ I2.out).mono ?_; rintro e w2 ⟨rfl, b2⟩
  clear q1a q1b
  have A := A.below b2 rfl
  have B := B.below b2 rfl
  have lA := A.2.2.2.2
  have lB := B.2.2.2.2
  have k := bnextW k b2 (by first | (simp; done) | (simp; omega) | omega)
  have z2 := k.size
  have q2a := A.1
  have q2b := A.2.1
  have q3a := B.1
  have q3b := B.2.1
  go_wp2_with fail
  refine (awake2 _).mono ?_; rintro e w3 ⟨rfl, b3⟩
  clear q2a q2b q3a q3b
  have A := A.below b3 rfl
  have B := B.below b3 rfl
  have lA := A.2.2.2.2
  have lB := B.2.2.2.2
  have k := bnextW k b3 (by first | (simp; done) | (simp; omega) | omega)
  have z3 := k.size
  go_wp2
  go_ret
  exact ⟨rfl, k⟩

set_option maxHeartbeats 4000000 in
set_option maxRecDepth 20000 in
theorem euclid_l2 (g1 g2 : Bool) (s1 s2 : ByteArray) (w : World) (i1 : IVal g1 s1) (i2 : IVal g2 s2) (l1 : (s1.size : Int) ≤ 60) (l2 : ¬ (s2.size : Int) ≤ 60) (m1 : s1.size ≤ 9223372036854775807) (m2 : s2.size ≤ 9223372036854775807) :
    Calls Try.prog 10 #[.agg #[.bool g1, .string s1], .agg #[.bool g2, .string s2]] w fun e w' => e = .returned (.bool true) ∧ Below w.heap.size w w' := by
  have I1 := Lib.hid i1; clear i1
  have I2 := Lib.hid i2; clear i2
  have k := Below.refl w.heap.size w
  have A := Two.new w (.bool g1) (.string s1) 24 (w.heap.size) (by first | (simp; done) | (simp; omega) | omega)
  have k := k.alloc (by first | (simp; done) | (simp; omega) | omega) (.cells #[.bool g1, .string s1] 24)
  have A := A.alloc (.cells #[.bool g2, .string s2] 24)
  have B := Two.new (w.alloc (.cells #[.bool g1, .string s1] 24)) (.bool g2) (.string s2) 24 (w.heap.size + 1) (by first | (simp; done) | (simp; omega) | omega)
  have k := k.alloc (by first | (simp; done) | (simp; omega) | omega) (.cells #[.bool g2, .string s2] 24)
  go_enter Try.func10, Try.ntmps10
  go_wp2_with fail
  refine (ivalid_t g1 s1 _ I1.out).mono ?_; rintro e w1 ⟨rfl, b1⟩
  have A := A.below b1 rfl
  have B := B.below b1 rfl
  have lA := A.2.2.2.2
  have lB := B.2.2.2.2
  have k := bnextW k b1 (by first | (simp; done) | (simp; omega) | omega)
  have z1 := k.size
  have q1a := B.1
  have q1b := B.2.1
  go_wp2_with fail
  refine (ivalid_t g2 s2 _ I2.out).mono ?_; rintro e w2 ⟨rfl, b2⟩
  clear q1a q1b
  have A := A.below b2 rfl
  have B := B.below b2 rfl
  have lA := A.2.2.2.2
  have lB := B.2.2.2.2
  have k := bnextW k b2 (by first | (simp; done) | (simp; omega) | omega)
  have z2 := k.size
  have q2a := A.1
  have q2b := A.2.1
  have q3a := B.1
  have q3b := B.2.1
  go_wp2_with fail
  refine (awake2 _).mono ?_; rintro e w3 ⟨rfl, b3⟩
  clear q2a q2b q3a q3b
  have A := A.below b3 rfl
  have B := B.below b3 rfl
  have lA := A.2.2.2.2
  have lB := B.2.2.2.2
  have k := bnextW k b3 (by first | (simp; done) | (simp; omega) | omega)
  have z3 := k.size
  go_wp2
  go_ret
  exact ⟨rfl, k⟩

set_option maxHeartbeats 4000000 in
set_option maxRecDepth 20000 in
theorem euclid_l3 (g1 g2 : Bool) (s1 s2 : ByteArray) (w : World) (i1 : IVal g1 s1) (i2 : IVal g2 s2) (l1 : (s1.size : Int) ≤ 60) (l2 : (s2.size : Int) ≤ 60) (hE : s2.toList.isEmpty = true) (m1 : s1.size ≤ 9223372036854775807) (m2 : s2.size ≤ 9223372036854775807) :
    Calls Try.prog 10 #[.agg #[.bool g1, .string s1], .agg #[.bool g2, .string s2]] w fun e w' => e = .returned (.bool true) ∧ Below w.heap.size w w' := by
  have I1 := Lib.hid i1; clear i1
  have I2 := Lib.hid i2; clear i2
  have k := Below.refl w.heap.size w
  have A := Two.new w (.bool g1) (.string s1) 24 (w.heap.size) (by first | (simp; done) | (simp; omega) | omega)
  have k := k.alloc (by first | (simp; done) | (simp; omega) | omega) (.cells #[.bool g1, .string s1] 24)
  have A := A.alloc (.cells #[.bool g2, .string s2] 24)
  have B := Two.new (w.alloc (.cells #[.bool g1, .string s1] 24)) (.bool g2) (.string s2) 24 (w.heap.size + 1) (by first | (simp; done) | (simp; omega) | omega)
  have k := k.alloc (by first | (simp; done) | (simp; omega) | omega) (.cells #[.bool g2, .string s2] 24)
  go_enter Try.func10, Try.ntmps10
  go_wp2_with fail
  refine (ivalid_t g1 s1 _ I1.out).mono ?_; rintro e w1 ⟨rfl, b1⟩
  have A := A.below b1 rfl
  have B := B.below b1 rfl
  have lA := A.2.2.2.2
  have lB := B.2.2.2.2
  have k := bnextW k b1 (by first | (simp; done) | (simp; omega) | omega)
  have z1 := k.size
  have q1a := B.1
  have q1b := B.2.1
  go_wp2_with fail
  refine (ivalid_t g2 s2 _ I2.out).mono ?_; rintro e w2 ⟨rfl, b2⟩
  clear q1a q1b
  have A := A.below b2 rfl
  have B := B.below b2 rfl
  have lA := A.2.2.2.2
  have lB := B.2.2.2.2
  have k := bnextW k b2 (by first | (simp; done) | (simp; omega) | omega)
  have z2 := k.size
  have q2a := A.1
  have q2b := A.2.1
  have q3a := B.1
  have q3b := B.2.1
  go_wp2_with fail
  refine (awake2 _).mono ?_; rintro e w3 ⟨rfl, b3⟩
  clear q2a q2b q3a q3b
  have A := A.below b3 rfl
  have B := B.below b3 rfl
  have lA := A.2.2.2.2
  have lB := B.2.2.2.2
  have k := bnextW k b3 (by first | (simp; done) | (simp; omega) | omega)
  have z3 := k.size
  go_wp2
  go_ret
  exact ⟨rfl, k⟩

set_option maxHeartbeats 16000000 in
set_option maxRecDepth 100000 in
theorem euclid_yes (g1 g2 G1 G2 G3 G4 : Bool) (s1 s2 r S1 S2 S3 S4 : ByteArray) (w : World) (i1 : IVal g1 s1) (i2 : IVal g2 s2) (l1 : (s1.size : Int) ≤ 60) (l2 : (s2.size : Int) ≤ 60) (hE : s2.toList.isEmpty = false)
    (h_d : ∀ w, Calls Try.prog 32 #[.agg #[.bool g1, .string s1], .agg #[.bool g2, .string s2]] w fun e w' => e = .returned (.tuple #[.agg #[.bool G1, .string S1], .string r, .int .i64 0]) ∧ Below w.heap.size w w')
    (h_m : ∀ w, Calls Try.prog 30 #[.agg #[.bool G1, .string S1], .agg #[.bool g2, .string s2]] w fun e w' => e = .returned (.tuple #[.agg #[.bool G2, .string S2], .int .i64 0]) ∧ Below w.heap.size w w')
    (h_f : ∀ w, Calls Try.prog 20 #[.string r] w fun e w' => e = .returned (.agg #[.bool G3, .string S3]) ∧ Below w.heap.size w w')
    (h_s : ∀ w, Calls Try.prog 26 #[.agg #[.bool G2, .string S2], .agg #[.bool G3, .string S3]] w fun e w' => e = .returned (.tuple #[.agg #[.bool g1, .string s1], .int .i64 0]) ∧ Below w.heap.size w w')
    (h_c : ∀ w, Calls Try.prog 44 #[.string r, .string s2] w fun e w' => e = .returned (.int .i64 (-1)) ∧ Below w.heap.size w w')
    (h_t : ∀ w, Calls Try.prog 26 #[.agg #[.bool g1, .string s1], .agg #[.bool g2, .string s2]] w fun e w' => e = .returned (.tuple #[.agg #[.bool G4, .string S4], .int .i64 0]) ∧ Below w.heap.size w w')
    (h_u : ∀ w, Calls Try.prog 34 #[.agg #[.bool G4, .string S4], .string s2] w fun e w' => e = .returned (.tuple #[.string r, .int .i64 0]) ∧ Below w.heap.size w w')
    (h_v : ∀ w, Calls Try.prog 36 #[.agg #[.bool G2, .string S2], .agg #[.bool g2, .string s2]] w fun e w' => e = .returned (.tuple #[.agg #[.bool G1, .string S1], .int .i64 0]) ∧ Below w.heap.size w w') :
    Calls Try.prog 10 #[.agg #[.bool g1, .string s1], .agg #[.bool g2, .string s2]] w fun e w' => e = .returned (.bool true) ∧ Below w.heap.size w w' := by
  have I1 := Lib.hid i1; clear i1
  have I2 := Lib.hid i2; clear i2
  have H_d := Lib.hid h_d; clear h_d
  have H_m := Lib.hid h_m; clear h_m
  have H_f := Lib.hid h_f; clear h_f
  have H_s := Lib.hid h_s; clear h_s
  have H_c := Lib.hid h_c; clear h_c
  have H_t := Lib.hid h_t; clear h_t
  have H_u := Lib.hid h_u; clear h_u
  have H_v := Lib.hid h_v; clear h_v
  have k := Below.refl w.heap.size w
  have A := Two.new w (.bool g1) (.string s1) 24 (w.heap.size) (by first | (simp; done) | (simp; omega) | omega)
  have k := k.alloc (by first | (simp; done) | (simp; omega) | omega) (.cells #[.bool g1, .string s1] 24)
  have A := A.alloc (.cells #[.bool g2, .string s2] 24)
  have B := Two.new (w.alloc (.cells #[.bool g1, .string s1] 24)) (.bool g2) (.string s2) 24 (w.heap.size + 1) (by first | (simp; done) | (simp; omega) | omega)
  have k := k.alloc (by first | (simp; done) | (simp; omega) | omega) (.cells #[.bool g2, .string s2] 24)
  go_enter Try.func10, Try.ntmps10
  go_wp2_with fail
  refine (ivalid_t g1 s1 _ I1.out).mono ?_; rintro e w1 ⟨rfl, b1⟩
  have A := A.below b1 rfl
  have B := B.below b1 rfl
  have lA := A.2.2.2.2
  have lB := B.2.2.2.2
  have k := bnextW k b1 (by first | (simp; done) | (simp; omega) | omega)
  have z1 := k.size
  have q1a := B.1
  have q1b := B.2.1
  go_wp2_with fail
  refine (ivalid_t g2 s2 _ I2.out).mono ?_; rintro e w2 ⟨rfl, b2⟩
  clear q1a q1b
  have A := A.below b2 rfl
  have B := B.below b2 rfl
  have lA := A.2.2.2.2
  have lB := B.2.2.2.2
  have k := bnextW k b2 (by first | (simp; done) | (simp; omega) | omega)
  have z2 := k.size
  have q2a := A.1
  have q2b := A.2.1
  have q3a := B.1
  have q3b := B.2.1
  go_wp2_with fail
  refine (H_d.out _).mono ?_; rintro e w3 ⟨rfl, b3⟩
  clear q2a q2b q3a q3b
  have A := A.below b3 rfl
  have B := B.below b3 rfl
  have lA := A.2.2.2.2
  have lB := B.2.2.2.2
  have k := bnextW k b3 (by first | (simp; done) | (simp; omega) | omega)
  have z3 := k.size
  have A := A.alloc (.cells #[.bool G1, .string S1] 24)
  have B := B.alloc (.cells #[.bool G1, .string S1] 24)
  have Q := Two.new w3 (.bool G1) (.string S1) 24 (w3.heap.size) (by first | (simp; done) | (simp; omega) | omega)
  have k := k.alloc (by first | (simp; done) | (simp; omega) | omega) (.cells #[.bool G1, .string S1] 24)
  have q4a := A.1
  have q4b := A.2.1
  have q5a := B.1
  have q5b := B.2.1
  have q6a := Q.1
  have q6b := Q.2.1
  go_wp2_with fail
  refine (H_m.out _).mono ?_; rintro e w4 ⟨rfl, b4⟩
  clear q4a q4b q5a q5b q6a q6b
  have A := A.below b4 rfl
  have B := B.below b4 rfl
  have Q := Q.below b4 rfl
  have lA := A.2.2.2.2
  have lB := B.2.2.2.2
  have lQ := Q.2.2.2.2
  have k := bnextW k b4 (by first | (simp; done) | (simp; omega) | omega)
  have z4 := k.size
  have A := A.alloc (.cells #[.bool G2, .string S2] 24)
  have B := B.alloc (.cells #[.bool G2, .string S2] 24)
  have Q := Q.alloc (.cells #[.bool G2, .string S2] 24)
  have P := Two.new w4 (.bool G2) (.string S2) 24 (w4.heap.size) (by first | (simp; done) | (simp; omega) | omega)
  have k := k.alloc (by first | (simp; done) | (simp; omega) | omega) (.cells #[.bool G2, .string S2] 24)
  have zA := A.2.2.2.2
  have zB := B.2.2.2.2
  have zQ := Q.2.2.2.2
  have zP := P.2.2.2.2
  go_upto_region 5 with fail
  go_cut [10, 11] (fun v10 v11 wx => ∃ g : Nat, v10 = .pointer (some ⟨g, 0, none⟩) ∧ v11 = .int .i64 0 ∧ Two wx g (.bool g1) (.string s1) ∧ Two wx (w.heap.size) (.bool g1) (.string s1) ∧ Two wx (w.heap.size + 1) (.bool g2) (.string s2) ∧ Two wx (w3.heap.size) (.bool G1) (.string S1) ∧ Two wx (w4.heap.size) (.bool G2) (.string S2) ∧ Below w.heap.size w wx)
  case first =>
    have qpa := P.1
    have qpb := P.2.1
    go_region_with (first
      | (go_at_call 20; refine (H_f.out _).mono ?_; rintro e x2 ⟨rfl, b92⟩; have A : Two x2 (w.heap.size) (.bool g1) (.string s1) := Two.below (by first | with_reducible exact A | with_reducible exact A.drewD | with_reducible exact Two.alloc A _ | with_reducible exact Two.allocD A _) b92 rfl; have B : Two x2 (w.heap.size + 1) (.bool g2) (.string s2) := Two.below (by first | with_reducible exact B | with_reducible exact B.drewD | with_reducible exact Two.alloc B _ | with_reducible exact Two.allocD B _) b92 rfl; have Q : Two x2 (w3.heap.size) (.bool G1) (.string S1) := Two.below (by first | with_reducible exact Q | with_reducible exact Q.drewD | with_reducible exact Two.alloc Q _ | with_reducible exact Two.allocD Q _) b92 rfl; have P : Two x2 (w4.heap.size) (.bool G2) (.string S2) := Two.below (by first | with_reducible exact P | with_reducible exact P.drewD | with_reducible exact Two.alloc P _ | with_reducible exact Two.allocD P _) b92 rfl; have k : Below w.heap.size w x2 := bnextW (by repeat' (first | assumption | exact Below.refl _ _ | refine Below.drew ?_ | refine Below.setCell ?_ ?_ _ | refine Below.alloc ?_ ?_ _ | (simp; done) | (simp; omega) | omega)) b92 (by first | (simp; done) | (simp; omega) | omega); have z92 := k.size; have y92A := A.2.2.2.2; have y92B := B.2.2.2.2; have y92Q := Q.2.2.2.2; have y92P := P.2.2.2.2; have qpa := P.1; have qpb := P.2.1; first | (have T9 : Two x2 (w4.heap.size + 1) (.bool false) (.string ⟨#[]⟩) := Two.below (Two.newD _ _ _ _ _ (by simp)) b92 rfl; have z99 := T9.2.2.2.2) | skip)
      | (go_at_call 26; refine (H_s.out _).mono ?_; rintro e x3 ⟨rfl, b93⟩; have A : Two x3 (w.heap.size) (.bool g1) (.string s1) := Two.below (by first | with_reducible exact A | with_reducible exact A.drewD | with_reducible exact Two.alloc A _ | with_reducible exact Two.allocD A _) b93 rfl; have B : Two x3 (w.heap.size + 1) (.bool g2) (.string s2) := Two.below (by first | with_reducible exact B | with_reducible exact B.drewD | with_reducible exact Two.alloc B _ | with_reducible exact Two.allocD B _) b93 rfl; have Q : Two x3 (w3.heap.size) (.bool G1) (.string S1) := Two.below (by first | with_reducible exact Q | with_reducible exact Q.drewD | with_reducible exact Two.alloc Q _ | with_reducible exact Two.allocD Q _) b93 rfl; have P : Two x3 (w4.heap.size) (.bool G2) (.string S2) := Two.below (by first | with_reducible exact P | with_reducible exact P.drewD | with_reducible exact Two.alloc P _ | with_reducible exact Two.allocD P _) b93 rfl; have k : Below w.heap.size w x3 := bnextW (by repeat' (first | assumption | exact Below.refl _ _ | refine Below.drew ?_ | refine Below.setCell ?_ ?_ _ | refine Below.alloc ?_ ?_ _ | (simp; done) | (simp; omega) | omega)) b93 (by first | (simp; done) | (simp; omega) | omega); have z93 := k.size; first | (have T9 : Two x3 (w4.heap.size + 1) (.bool false) (.string ⟨#[]⟩) := Two.below T9 b93 rfl; have T8 := T9; obtain ⟨t1, t2, t3, t4, t5⟩ := T9) | (have T9 : Two x3 x2.heap.size (.bool false) (.string ⟨#[]⟩) := Two.below (by first | with_reducible exact Two.new _ _ _ _ _ rfl | with_reducible exact Two.newD _ _ _ _ _ rfl) b93 rfl; have T8 := T9; obtain ⟨t1, t2, t3, t4, t5⟩ := T9) | skip))
    all_goals go_wp2_with fail
    all_goals go_meet
    all_goals refine ⟨_, rfl, rfl, ?_, ?_, ?_, ?_, ?_, (by repeat' (first | assumption | exact Below.refl _ _ | refine Below.drew ?_ | refine Below.setCell ?_ ?_ _ | refine Below.alloc ?_ ?_ _ | (simp; done) | (simp; omega) | omega))⟩
    all_goals first | exact Two.new _ _ _ _ _ rfl | exact Two.set T8 _ _ | exact A.set_ne _ _ _ (by omega) | exact A.alloc _ | exact B.set_ne _ _ _ (by omega) | exact B.alloc _ | exact Q.set_ne _ _ _ (by omega) | exact Q.alloc _ | exact P.set_ne _ _ _ (by omega) | exact P.alloc _
  case rest =>
    obtain ⟨gS, rfl, rfl, S, A, B, Q, P, k⟩ := hcut
    have zc := k.size
    have lS := S.2.2.2.2
    have lA := A.2.2.2.2
    have lB := B.2.2.2.2
    have lQ := Q.2.2.2.2
    have lP := P.2.2.2.2
    have q7a := A.1
    have q7b := A.2.1
    have q8a := B.1
    have q8b := B.2.1
    have q9a := S.1
    have q9b := S.2.1
    go_wp2_with fail
    refine (H_c.out _).mono ?_; rintro e w5 ⟨rfl, b5⟩
    clear q7a q7b q8a q8b q9a q9b
    have S := S.below b5 rfl
    have A := A.below b5 rfl
    have B := B.below b5 rfl
    have Q := Q.below b5 rfl
    have P := P.below b5 rfl
    have lS := S.2.2.2.2
    have lA := A.2.2.2.2
    have lB := B.2.2.2.2
    have lQ := Q.2.2.2.2
    have lP := P.2.2.2.2
    have k := bnextW k b5 (by first | (simp; done) | (simp; omega) | omega)
    have z5 := k.size
    have q10a := A.1
    have q10b := A.2.1
    have q11a := B.1
    have q11b := B.2.1
    have q12a := S.1
    have q12b := S.2.1
    go_wp2_with fail
    refine (H_t.out _).mono ?_; rintro e w6 ⟨rfl, b6⟩
    clear q10a q10b q11a q11b q12a q12b
    have S := S.below b6 rfl
    have A := A.below b6 rfl
    have B := B.below b6 rfl
    have Q := Q.below b6 rfl
    have P := P.below b6 rfl
    have lS := S.2.2.2.2
    have lA := A.2.2.2.2
    have lB := B.2.2.2.2
    have lQ := Q.2.2.2.2
    have lP := P.2.2.2.2
    have k := bnextW k b6 (by first | (simp; done) | (simp; omega) | omega)
    have z6 := k.size
    have S := S.alloc (.cells #[.bool G4, .string S4] 24)
    have A := A.alloc (.cells #[.bool G4, .string S4] 24)
    have B := B.alloc (.cells #[.bool G4, .string S4] 24)
    have Q := Q.alloc (.cells #[.bool G4, .string S4] 24)
    have P := P.alloc (.cells #[.bool G4, .string S4] 24)
    have T := Two.new w6 (.bool G4) (.string S4) 24 (w6.heap.size) (by first | (simp; done) | (simp; omega) | omega)
    have k := k.alloc (by first | (simp; done) | (simp; omega) | omega) (.cells #[.bool G4, .string S4] 24)
    have q13a := T.1
    have q13b := T.2.1
    have q14a := B.1
    have q14b := B.2.1
    go_wp2_with fail
    refine (H_u.out _).mono ?_; rintro e w7 ⟨rfl, b7⟩
    clear q13a q13b q14a q14b
    have S := S.below b7 rfl
    have A := A.below b7 rfl
    have B := B.below b7 rfl
    have Q := Q.below b7 rfl
    have P := P.below b7 rfl
    have T := T.below b7 rfl
    have lS := S.2.2.2.2
    have lA := A.2.2.2.2
    have lB := B.2.2.2.2
    have lQ := Q.2.2.2.2
    have lP := P.2.2.2.2
    have lT := T.2.2.2.2
    have k := bnextW k b7 (by first | (simp; done) | (simp; omega) | omega)
    have z7 := k.size
    have q15a := P.1
    have q15b := P.2.1
    have q16a := B.1
    have q16b := B.2.1
    go_wp2_with fail
    refine (H_v.out _).mono ?_; rintro e w8 ⟨rfl, b8⟩
    clear q15a q15b q16a q16b
    have S := S.below b8 rfl
    have A := A.below b8 rfl
    have B := B.below b8 rfl
    have Q := Q.below b8 rfl
    have P := P.below b8 rfl
    have T := T.below b8 rfl
    have lS := S.2.2.2.2
    have lA := A.2.2.2.2
    have lB := B.2.2.2.2
    have lQ := Q.2.2.2.2
    have lP := P.2.2.2.2
    have lT := T.2.2.2.2
    have k := bnextW k b8 (by first | (simp; done) | (simp; omega) | omega)
    have z8 := k.size
    have S := S.alloc (.cells #[.bool G1, .string S1] 24)
    have A := A.alloc (.cells #[.bool G1, .string S1] 24)
    have B := B.alloc (.cells #[.bool G1, .string S1] 24)
    have Q := Q.alloc (.cells #[.bool G1, .string S1] 24)
    have P := P.alloc (.cells #[.bool G1, .string S1] 24)
    have T := T.alloc (.cells #[.bool G1, .string S1] 24)
    have D := Two.new w8 (.bool G1) (.string S1) 24 (w8.heap.size) (by first | (simp; done) | (simp; omega) | omega)
    have k := k.alloc (by first | (simp; done) | (simp; omega) | omega) (.cells #[.bool G1, .string S1] 24)
    go_wp2_with fail
    refine (awake2 _).mono ?_; rintro e w9 ⟨rfl, b9⟩
    have S := S.below b9 rfl
    have A := A.below b9 rfl
    have B := B.below b9 rfl
    have Q := Q.below b9 rfl
    have P := P.below b9 rfl
    have T := T.below b9 rfl
    have D := D.below b9 rfl
    have lS := S.2.2.2.2
    have lA := A.2.2.2.2
    have lB := B.2.2.2.2
    have lQ := Q.2.2.2.2
    have lP := P.2.2.2.2
    have lT := T.2.2.2.2
    have lD := D.2.2.2.2
    have k := bnextW k b9 (by first | (simp; done) | (simp; omega) | omega)
    have z9 := k.size
    have q17a := D.1
    have q17b := D.2.1
    have q18a := Q.1
    have q18b := Q.2.1
    go_wp2
    go_ret
    exact ⟨rfl, k⟩

theorem lim60 : 256 ^ 60 * 256 ^ 60 + 256 ^ 60 * 256 ^ 60 + 256 ^ 60 + 256 ^ 60 < Lim := by rw [lim_eq]; decide +kernel
theorem IZ60 {g : Bool} {s : ByteArray} (h : s.size ≤ 60) : (IZ g s).natAbs < 256 ^ 60 := by
  unfold IZ; rw [sg_natAbs]; exact Nat.lt_of_lt_of_le (V_lt s) (Nat.pow_le_pow_right (by omega) h)
theorem law_IntegerEuclid (g1 : Bool) (s1 : ByteArray) (g2 : Bool) (s2 : ByteArray) (l1 : s1.size ≤ maxLen) (l2 : s2.size ≤ maxLen) (w : World) :
    Calls Try.prog 10 #[.agg #[.bool g1, .string s1], .agg #[.bool g2, .string s2]] w fun e w' => e = .returned (.bool true) ∧ Below w.heap.size w w' := by
  unfold maxLen at l1 l2
  by_cases i1 : IVal g1 s1
  · by_cases i2 : IVal g2 s2
    · by_cases k1 : s1.size ≤ 60
      · by_cases k2 : s2.size ≤ 60
        · by_cases h0 : s2.size = 0
          · exact euclid_l3 g1 g2 s1 s2 w i1 i2 (by omega) (by omega) (empty_of h0) (by omega) (by omega)
          · have hv : V s2 ≠ 0 := fun q => h0 ((size_zero i2.1).2 q)
            have hb : IZ g2 s2 ≠ 0 := sg_ne g2 hv
            have e2 : (IZ g2 s2).natAbs = V s2 := by unfold IZ; rw [sg_natAbs]
            have m1 := IZ60 (g := g1) k1
            have m2 := IZ60 (g := g2) k2
            have hlim := lim60
            have p1 := pair_IZ i1
            have hr0 := Int.emod_nonneg (IZ g1 s1) hb
            have hr1 := Int.emod_lt (IZ g1 s1) hb
            have hr2 : (IZ g1 s1 % IZ g2 s2).toNat < V s2 := by omega
            have hq : (IZ g1 s1 / IZ g2 s2).natAbs ≤ (IZ g1 s1).natAbs + 1 := quot_abs _ hb
            have hqb : IZ g1 s1 / IZ g2 s2 * IZ g2 s2 = IZ g1 s1 - IZ g1 s1 % IZ g2 s2 := by
              have := Int.mul_ediv_add_emod (IZ g1 s1) (IZ g2 s2)
              rw [Int.mul_comm] at this; omega
            generalize hM : 256 ^ 60 = M at *
            have hM1 : M ≤ M * M := Nat.le_mul_of_pos_left _ (by omega)
            have l3 := V_lim i2.1
            have hqv := ival_Z (IZ g1 s1 / IZ g2 s2) (by omega)
            have hd := fun w => idiv_yes g1 g2 s1 s2 w i1 i2
            unfold zdivN at hd
            rw [if_neg hb] at hd
            have hm := mul_z (ZG (IZ g1 s1 / IZ g2 s2)) g2 (ZS (IZ g1 s1 / IZ g2 s2)) s2 hqv i2 (by rw [IZ_Z, hqb]; omega)
            rw [IZ_Z, hqb] at hm
            have hpv := ival_Z (IZ g1 s1 - IZ g1 s1 % IZ g2 s2) (by omega)
            have hcr : Can (E (IZ g1 s1 % IZ g2 s2).toNat) := can_E' (by omega)
            have hf := fun w => from_z (E (IZ g1 s1 % IZ g2 s2).toNat) w hcr
            rw [V_E] at hf
            have hrv := ival_Z (((IZ g1 s1 % IZ g2 s2).toNat : Nat) : Int) (by simp; omega)
            have hs := add_z _ _ _ _ hpv hrv (by rw [IZ_Z, IZ_Z]; omega)
            rw [IZ_Z, IZ_Z, show IZ g1 s1 - IZ g1 s1 % IZ g2 s2 + ((IZ g1 s1 % IZ g2 s2).toNat : Nat) = IZ g1 s1 by omega, p1.1, p1.2] at hs
            have hc := fun w => cmp_below (E (IZ g1 s1 % IZ g2 s2).toNat) s2 w hcr i2.1
            rw [V_E, show sgn (IZ g1 s1 % IZ g2 s2).toNat (V s2) = -1 by unfold sgn; rw [if_pos hr2]] at hc
            have ht := add_z g1 g2 s1 s2 i1 i2 (by omega)
            have htv := ival_Z (IZ g1 s1 + IZ g2 s2) (by omega)
            have hu := fun w => imod_yes (ZG (IZ g1 s1 + IZ g2 s2)) (ZS (IZ g1 s1 + IZ g2 s2)) s2 w htv i2.1 hv
            rw [IZ_Z, show (IZ g1 s1 + IZ g2 s2) % (V s2 : Nat) = IZ g1 s1 % IZ g2 s2 from mod_shift i2] at hu
            have hvv := fun w => idivide_exact (ZG (IZ g1 s1 - IZ g1 s1 % IZ g2 s2)) g2 (ZS (IZ g1 s1 - IZ g1 s1 % IZ g2 s2)) s2 w hpv i2 hb (by rw [IZ_Z, ← hqb]; exact Int.mul_emod_left _ _)
            rw [IZ_Z, show (IZ g1 s1 - IZ g1 s1 % IZ g2 s2) / IZ g2 s2 = IZ g1 s1 / IZ g2 s2 by rw [← hqb]; exact Int.mul_ediv_cancel _ hb] at hvv
            exact euclid_yes g1 g2 _ _ _ _ s1 s2 _ _ _ _ _ w i1 i2 (by omega) (by omega) (not_empty_of h0) hd hm hf hs hc ht hu hvv
        · exact euclid_l2 g1 g2 s1 s2 w i1 i2 (by omega) (by omega) (by omega) (by omega)
      · exact euclid_l1 g1 g2 s1 s2 w i1 i2 (by omega) (by omega) (by omega)
    · exact euclid_n2 g1 g2 s1 s2 w i1 i2
  · exact euclid_n1 g1 g2 s1 s2 w i1
end Go.Proofs.Ytamgklgjhjociaa
