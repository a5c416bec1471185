/-
  The walk of IntegerDivides.
-/
import Derived.Test.YtamgklgjhjociaaLaw2a
namespace Go.Proofs.Ytamgklgjhjociaa
open Go.RowKit
set_option linter.unusedVariables false

theorem zdivN_code' (a b : Int) : ∃ (G : Bool) (S t : ByteArray) (v : Nat), zdivN a b = .tuple #[.agg #[.bool G, .string S], .string t, .int .i64 v] ∧ v ≤ 100 := by
  unfold zdivN; split
  · exact ⟨_, _, _, 11, rfl, by omega⟩
  · exact ⟨_, _, _, 0, rfl, by omega⟩
theorem idiv_agree (g1 g2 : Bool) (s1 s2 : ByteArray) : ∃ (G : Bool) (S t : ByteArray) (v : Nat), v ≤ 100 ∧
    (∀ w, Calls Try.prog 32 #[.agg #[.bool g1, .string s1], .agg #[.bool g2, .string s2]] w fun e w' => e = .returned (.tuple #[.agg #[.bool G, .string S], .string t, .int .i64 v]) ∧ Below w.heap.size w w') ∧
    (∀ w, Calls Try.prog 33 #[.agg #[.bool g1, .string s1], .agg #[.bool g2, .string s2]] w fun e w' => e = .returned (.tuple #[.agg #[.bool G, .string S], .string t, .int .i64 v]) ∧ Below w.heap.size w w') := by
  by_cases h : IVal g1 s1 ∧ IVal g2 s2
  · obtain ⟨G, S, t, v, hz, hl⟩ := zdivN_code' (IZ g1 s1) (IZ g2 s2)
    exact ⟨G, S, t, v, hl, fun w => hz ▸ idiv_yes g1 g2 s1 s2 w h.1 h.2, fun w => hz ▸ ridiv_yes g1 g2 s1 s2 w h.1 h.2⟩
  · exact ⟨false, ⟨#[]⟩, ⟨#[]⟩, 3, by omega, fun w => by have := idiv_no g1 g2 s1 s2 w h; rwa [Z_zero] at this, fun w => by have := ridiv_no g1 g2 s1 s2 w h; rwa [Z_zero] at this⟩
theorem idivide_agree (g1 g2 : Bool) (s1 s2 : ByteArray) : ∃ (G : Bool) (S : ByteArray) (v : Nat), v ≤ 100 ∧
    (∀ w, Calls Try.prog 36 #[.agg #[.bool g1, .string s1], .agg #[.bool g2, .string s2]] w fun e w' => e = .returned (.tuple #[.agg #[.bool G, .string S], .int .i64 v]) ∧ Below w.heap.size w w') ∧
    (∀ w, Calls Try.prog 37 #[.agg #[.bool g1, .string s1], .agg #[.bool g2, .string s2]] w fun e w' => e = .returned (.tuple #[.agg #[.bool G, .string S], .int .i64 v]) ∧ Below w.heap.size w w') := by
  obtain ⟨G, S, t, v, hl, h1, h2⟩ := idiv_agree g1 g2 s1 s2
  by_cases hv : v = 0
  · subst hv
    by_cases ht : t.size = 0
    · exact ⟨G, S, 0, by omega, fun w => idivide_ok g1 g2 G s1 s2 S t 0 w rfl (empty_of ht) h1, fun w => ridivide_ok g1 g2 G s1 s2 S t 0 w rfl (empty_of ht) h2⟩
    · exact ⟨false, ⟨#[]⟩, 1, by omega, fun w => idivide_rest g1 g2 G s1 s2 S t 0 w rfl (not_empty_of ht) h1, fun w => ridivide_rest g1 g2 G s1 s2 S t 0 w rfl (not_empty_of ht) h2⟩
  · exact ⟨false, ⟨#[]⟩, v, hl, fun w => idivide_err g1 g2 G s1 s2 S t v w (by omega) (by omega) (by omega) h1, fun w => ridivide_err g1 g2 G s1 s2 S t v w (by omega) (by omega) (by omega) h2⟩
theorem imod_agree (g1 : Bool) (s1 m : ByteArray) : ∃ (t : ByteArray) (v : Nat), v ≤ 100 ∧
    (∀ w, Calls Try.prog 34 #[.agg #[.bool g1, .string s1], .string m] w fun e w' => e = .returned (.tuple #[.string t, .int .i64 v]) ∧ Below w.heap.size w w') ∧
    (∀ w, Calls Try.prog 35 #[.agg #[.bool g1, .string s1], .string m] w fun e w' => e = .returned (.tuple #[.string t, .int .i64 v]) ∧ Below w.heap.size w w') := by
  by_cases hm : Can m
  · have hv : IVal (ZG (V m : Nat)) (ZS (V m : Nat)) := ival_Z _ (by simpa using V_lim hm)
    by_cases hi : IVal g1 s1
    · obtain ⟨G, S, t, v, hl, h1, h2⟩ := idiv_agree g1 (ZG (V m : Nat)) s1 (ZS (V m : Nat))
      exact ⟨t, v, hl, fun w => imod_core g1 _ _ s1 m _ _ t v w hm (fun w => from_z m w hm) h1, fun w => rimod_core g1 _ _ s1 m _ _ t v w hm hi (fun w => rfrom_yes m w hm) h2⟩
    · refine ⟨⟨#[]⟩, 3, by omega, fun w => imod_core g1 _ (ZG 0) s1 m _ (ZS 0) ⟨#[]⟩ 3 w hm (fun w => from_z m w hm) (fun w => ?_), fun w => rimod_no2 g1 s1 m w hi⟩
      exact idiv_no g1 (ZG (V m : Nat)) s1 (ZS (V m : Nat)) w (fun q => hi q.1)
  · refine ⟨⟨#[]⟩, 3, by omega, fun w => imod_no1 g1 s1 m w hm, fun w => ?_⟩
    by_cases hi : IVal g1 s1
    · exact rimod_no1 g1 s1 m w hm hi
    · exact rimod_no2 g1 s1 m w hi

set_option maxHeartbeats 4000000 in
set_option maxRecDepth 20000 in
theorem divides_yes (g1 g2 G1 G3 : Bool) (s1 s2 m S1 S3 t1 t2 : ByteArray) (v1 v2 v3 : Int) (w : World) (hf : ∀ j, j < 2 → (if j = 0 then s1 else s2).size ≤ 140) (hm : m.size ≤ 140)
    (h1 : ∀ w, Calls Try.prog 32 #[.agg #[.bool g1, .string s1], .agg #[.bool g2, .string s2]] w fun e w' => e = .returned (.tuple #[.agg #[.bool G1, .string S1], .string t1, .int .i64 v1]) ∧ Below w.heap.size w w')
    (h2 : ∀ w, Calls Try.prog 34 #[.agg #[.bool g1, .string s1], .string m] w fun e w' => e = .returned (.tuple #[.string t2, .int .i64 v2]) ∧ Below w.heap.size w w')
    (h3 : ∀ w, Calls Try.prog 36 #[.agg #[.bool g1, .string s1], .agg #[.bool g2, .string s2]] w fun e w' => e = .returned (.tuple #[.agg #[.bool G3, .string S3], .int .i64 v3]) ∧ Below w.heap.size w w')
    (r1 : ∀ w, Calls Try.prog 33 #[.agg #[.bool g1, .string s1], .agg #[.bool g2, .string s2]] w fun e w' => e = .returned (.tuple #[.agg #[.bool G1, .string S1], .string t1, .int .i64 v1]) ∧ Below w.heap.size w w')
    (r2 : ∀ w, Calls Try.prog 35 #[.agg #[.bool g1, .string s1], .string m] w fun e w' => e = .returned (.tuple #[.string t2, .int .i64 v2]) ∧ Below w.heap.size w w')
    (r3 : ∀ w, Calls Try.prog 37 #[.agg #[.bool g1, .string s1], .agg #[.bool g2, .string s2]] w fun e w' => e = .returned (.tuple #[.agg #[.bool G3, .string S3], .int .i64 v3]) ∧ Below w.heap.size w w') :
    Calls Try.prog 5 #[.agg #[.bool g1, .string s1], .agg #[.bool g2, .string s2], .string m] w fun e w' => e = .returned (.bool true) ∧ Below w.heap.size w w' := by
  have HF := Lib.hid hf; clear hf
  have hm' : (m.size : Int) ≤ 140 := by omega
  have H1 := Lib.hid h1; clear h1
  have H2 := Lib.hid h2; clear h2
  have H3 := Lib.hid h3; clear h3
  have R1 := Lib.hid r1; clear r1
  have R2 := Lib.hid r2; clear r2
  have R3 := Lib.hid r3; clear r3
  have k := Below.refl w.heap.size w
  have A := Two.new w (.bool g1) (.string s1) 24 (w.heap.size) (by first | (simp; done) | (simp; omega) | omega)
  have k := k.alloc (by first | (simp; done) | (simp; omega) | omega) (.cells #[.bool g1, .string s1] 24)
  have A := A.alloc (.cells #[.bool g2, .string s2] 24)
  have B := Two.new (w.alloc (.cells #[.bool g1, .string s1] 24)) (.bool g2) (.string s2) 24 (w.heap.size + 1) (by first | (simp; done) | (simp; omega) | omega)
  have k := k.alloc (by first | (simp; done) | (simp; omega) | omega) (.cells #[.bool g2, .string s2] 24)
  have hst := ints2 ((w.alloc (.cells #[.bool g1, .string s1] 24)).alloc (.cells #[.bool g2, .string s2] 24)) g1 g2 s1 s2 24 (w.heap.size + 1 + 1) (by first | (simp; done) | (simp; omega) | omega)
  have HST := Lib.hid hst; clear hst
  have A := A.alloc (.cells #[.bool g1, .string s1, .bool g2, .string s2] 24)
  have B := B.alloc (.cells #[.bool g1, .string s1, .bool g2, .string s2] 24)
  have k := k.alloc (by first | (simp; done) | (simp; omega) | omega) (.cells #[.bool g1, .string s1, .bool g2, .string s2] 24)
  go_enter Try.func5, Try.ntmps5
  go_wp2_with fail
  refine (long_no _ 2 _ _ (by omega) HST.out HF.out).mono ?_; rintro e wx ⟨rfl, rfl⟩
  have q1a := A.1
  have q1b := A.2.1
  have q2a := B.1
  have q2b := B.2.1
  go_wp2_with fail
  refine (H1.out _).mono ?_; rintro e w1 ⟨rfl, b1⟩
  clear q1a q1b q2a q2b
  have A := A.below b1 rfl
  have B := B.below b1 rfl
  have lA := A.2.2.2.2
  have lB := B.2.2.2.2
  have k := bnextW k b1 (by first | (simp; done) | (simp; omega) | omega)
  have z1 := k.size
  have A := A.alloc (.cells #[.bool G1, .string S1] 24)
  have B := B.alloc (.cells #[.bool G1, .string S1] 24)
  have Q := Two.new w1 (.bool G1) (.string S1) 24 (w1.heap.size) (by first | (simp; done) | (simp; omega) | omega)
  have k := k.alloc (by first | (simp; done) | (simp; omega) | omega) (.cells #[.bool G1, .string S1] 24)
  have q3a := A.1
  have q3b := A.2.1
  have q4a := B.1
  have q4b := B.2.1
  go_wp2_with fail
  refine (R1.out _).mono ?_; rintro e w2 ⟨rfl, b2⟩
  clear q3a q3b q4a q4b
  have A := A.below b2 rfl
  have B := B.below b2 rfl
  have Q := Q.below b2 rfl
  have lA := A.2.2.2.2
  have lB := B.2.2.2.2
  have lQ := Q.2.2.2.2
  have k := bnextW k b2 (by first | (simp; done) | (simp; omega) | omega)
  have z2 := k.size
  have A := A.alloc (.cells #[.bool G1, .string S1] 24)
  have B := B.alloc (.cells #[.bool G1, .string S1] 24)
  have Q := Q.alloc (.cells #[.bool G1, .string S1] 24)
  have X := Two.new w2 (.bool G1) (.string S1) 24 (w2.heap.size) (by first | (simp; done) | (simp; omega) | omega)
  have k := k.alloc (by first | (simp; done) | (simp; omega) | omega) (.cells #[.bool G1, .string S1] 24)
  have q5a := A.1
  have q5b := A.2.1
  go_wp2_with fail
  refine (H2.out _).mono ?_; rintro e w3 ⟨rfl, b3⟩
  clear q5a q5b
  have A := A.below b3 rfl
  have B := B.below b3 rfl
  have Q := Q.below b3 rfl
  have X := X.below b3 rfl
  have lA := A.2.2.2.2
  have lB := B.2.2.2.2
  have lQ := Q.2.2.2.2
  have lX := X.2.2.2.2
  have k := bnextW k b3 (by first | (simp; done) | (simp; omega) | omega)
  have z3 := k.size
  have q6a := A.1
  have q6b := A.2.1
  go_wp2_with fail
  refine (R2.out _).mono ?_; rintro e w4 ⟨rfl, b4⟩
  clear q6a q6b
  have A := A.below b4 rfl
  have B := B.below b4 rfl
  have Q := Q.below b4 rfl
  have X := X.below b4 rfl
  have lA := A.2.2.2.2
  have lB := B.2.2.2.2
  have lQ := Q.2.2.2.2
  have lX := X.2.2.2.2
  have k := bnextW k b4 (by first | (simp; done) | (simp; omega) | omega)
  have z4 := k.size
  have q7a := A.1
  have q7b := A.2.1
  have q8a := B.1
  have q8b := B.2.1
  go_wp2_with fail
  refine (H3.out _).mono ?_; rintro e w5 ⟨rfl, b5⟩
  clear q7a q7b q8a q8b
  have A := A.below b5 rfl
  have B := B.below b5 rfl
  have Q := Q.below b5 rfl
  have X := X.below b5 rfl
  have lA := A.2.2.2.2
  have lB := B.2.2.2.2
  have lQ := Q.2.2.2.2
  have lX := X.2.2.2.2
  have k := bnextW k b5 (by first | (simp; done) | (simp; omega) | omega)
  have z5 := k.size
  have A := A.alloc (.cells #[.bool G3, .string S3] 24)
  have B := B.alloc (.cells #[.bool G3, .string S3] 24)
  have Q := Q.alloc (.cells #[.bool G3, .string S3] 24)
  have X := X.alloc (.cells #[.bool G3, .string S3] 24)
  have D := Two.new w5 (.bool G3) (.string S3) 24 (w5.heap.size) (by first | (simp; done) | (simp; omega) | omega)
  have k := k.alloc (by first | (simp; done) | (simp; omega) | omega) (.cells #[.bool G3, .string S3] 24)
  have q9a := A.1
  have q9b := A.2.1
  have q10a := B.1
  have q10b := B.2.1
  go_wp2_with fail
  refine (R3.out _).mono ?_; rintro e w6 ⟨rfl, b6⟩
  clear q9a q9b q10a q10b
  have A := A.below b6 rfl
  have B := B.below b6 rfl
  have Q := Q.below b6 rfl
  have X := X.below b6 rfl
  have D := D.below b6 rfl
  have lA := A.2.2.2.2
  have lB := B.2.2.2.2
  have lQ := Q.2.2.2.2
  have lX := X.2.2.2.2
  have lD := D.2.2.2.2
  have k := bnextW k b6 (by first | (simp; done) | (simp; omega) | omega)
  have z6 := k.size
  have A := A.alloc (.cells #[.bool G3, .string S3] 24)
  have B := B.alloc (.cells #[.bool G3, .string S3] 24)
  have Q := Q.alloc (.cells #[.bool G3, .string S3] 24)
  have X := X.alloc (.cells #[.bool G3, .string S3] 24)
  have D := D.alloc (.cells #[.bool G3, .string S3] 24)
  have Y := Two.new w6 (.bool G3) (.string S3) 24 (w6.heap.size) (by first | (simp; done) | (simp; omega) | omega)
  have k := k.alloc (by first | (simp; done) | (simp; omega) | omega) (.cells #[.bool G3, .string S3] 24)
  go_wp2_with fail
  refine (awake2 _).mono ?_; rintro e w7 ⟨rfl, b7⟩
  have A := A.below b7 rfl
  have B := B.below b7 rfl
  have Q := Q.below b7 rfl
  have X := X.below b7 rfl
  have D := D.below b7 rfl
  have Y := Y.below b7 rfl
  have lA := A.2.2.2.2
  have lB := B.2.2.2.2
  have lQ := Q.2.2.2.2
  have lX := X.2.2.2.2
  have lD := D.2.2.2.2
  have lY := Y.2.2.2.2
  have k := bnextW k b7 (by first | (simp; done) | (simp; omega) | omega)
  have z7 := k.size
  have q11a := Q.1
  have q11b := Q.2.1
  have q12a := X.1
  have q12b := X.2.1
  have q13a := D.1
  have q13b := D.2.1
  have q14a := Y.1
  have q14b := Y.2.1
  go_wp2
  go_ret
  exact ⟨rfl, k⟩

set_option maxHeartbeats 4000000 in
set_option maxRecDepth 20000 in
theorem divides_skip1 (g1 g2 : Bool) (s1 s2 m : ByteArray) (w : World) (hm1 : s1.size ≤ 9223372036854775807) (hm2 : s2.size ≤ 9223372036854775807) (hf : ¬ ∀ j, j < 2 → (if j = 0 then s1 else s2).size ≤ 140) :
    Calls Try.prog 5 #[.agg #[.bool g1, .string s1], .agg #[.bool g2, .string s2], .string m] w fun e w' => e = .returned (.bool true) ∧ Below w.heap.size w w' := by
  have HF := Lib.hid hf; clear hf
  have hx : ∀ j, j < 2 → (if j = 0 then s1 else s2).size ≤ 9223372036854775807 := fun j _ => by split <;> omega
  have HM := Lib.hid hx; clear hx
  have k := Below.refl w.heap.size w
  have A := Two.new w (.bool g1) (.string s1) 24 (w.heap.size) (by first | (simp; done) | (simp; omega) | omega)
  have k := k.alloc (by first | (simp; done) | (simp; omega) | omega) (.cells #[.bool g1, .string s1] 24)
  have A := A.alloc (.cells #[.bool g2, .string s2] 24)
  have B := Two.new (w.alloc (.cells #[.bool g1, .string s1] 24)) (.bool g2) (.string s2) 24 (w.heap.size + 1) (by first | (simp; done) | (simp; omega) | omega)
  have k := k.alloc (by first | (simp; done) | (simp; omega) | omega) (.cells #[.bool g2, .string s2] 24)
  have hst := ints2 ((w.alloc (.cells #[.bool g1, .string s1] 24)).alloc (.cells #[.bool g2, .string s2] 24)) g1 g2 s1 s2 24 (w.heap.size + 1 + 1) (by first | (simp; done) | (simp; omega) | omega)
  have HST := Lib.hid hst; clear hst
  have A := A.alloc (.cells #[.bool g1, .string s1, .bool g2, .string s2] 24)
  have B := B.alloc (.cells #[.bool g1, .string s1, .bool g2, .string s2] 24)
  have k := k.alloc (by first | (simp; done) | (simp; omega) | omega) (.cells #[.bool g1, .string s1, .bool g2, .string s2] 24)
  go_enter Try.func5, Try.ntmps5
  go_wp2_with fail
  refine (long_yes _ 2 _ _ (by omega) HST.out HM.out HF.out).mono ?_; rintro e wx ⟨rfl, rfl⟩
  go_wp2_with fail
  refine (awake2 _).mono ?_; rintro e w1 ⟨rfl, b1⟩
  have A := A.below b1 rfl
  have B := B.below b1 rfl
  have lA := A.2.2.2.2
  have lB := B.2.2.2.2
  have k := bnextW k b1 (by first | (simp; done) | (simp; omega) | omega)
  have z1 := k.size
  go_wp2
  go_ret
  exact ⟨rfl, k⟩

set_option maxHeartbeats 4000000 in
set_option maxRecDepth 20000 in
theorem divides_skip2 (g1 g2 : Bool) (s1 s2 m : ByteArray) (w : World) (hf : ∀ j, j < 2 → (if j = 0 then s1 else s2).size ≤ 140) (hm0 : m.size ≤ 9223372036854775807) (hm : ¬ m.size ≤ 140) :
    Calls Try.prog 5 #[.agg #[.bool g1, .string s1], .agg #[.bool g2, .string s2], .string m] w fun e w' => e = .returned (.bool true) ∧ Below w.heap.size w w' := by
  have HF := Lib.hid hf; clear hf
  have hm' : ¬ (m.size : Int) ≤ 140 := by omega
  have k := Below.refl w.heap.size w
  have A := Two.new w (.bool g1) (.string s1) 24 (w.heap.size) (by first | (simp; done) | (simp; omega) | omega)
  have k := k.alloc (by first | (simp; done) | (simp; omega) | omega) (.cells #[.bool g1, .string s1] 24)
  have A := A.alloc (.cells #[.bool g2, .string s2] 24)
  have B := Two.new (w.alloc (.cells #[.bool g1, .string s1] 24)) (.bool g2) (.string s2) 24 (w.heap.size + 1) (by first | (simp; done) | (simp; omega) | omega)
  have k := k.alloc (by first | (simp; done) | (simp; omega) | omega) (.cells #[.bool g2, .string s2] 24)
  have hst := ints2 ((w.alloc (.cells #[.bool g1, .string s1] 24)).alloc (.cells #[.bool g2, .string s2] 24)) g1 g2 s1 s2 24 (w.heap.size + 1 + 1) (by first | (simp; done) | (simp; omega) | omega)
  have HST := Lib.hid hst; clear hst
  have A := A.alloc (.cells #[.bool g1, .string s1, .bool g2, .string s2] 24)
  have B := B.alloc (.cells #[.bool g1, .string s1, .bool g2, .string s2] 24)
  have k := k.alloc (by first | (simp; done) | (simp; omega) | omega) (.cells #[.bool g1, .string s1, .bool g2, .string s2] 24)
  go_enter Try.func5, Try.ntmps5
  go_wp2_with fail
  refine (long_no _ 2 _ _ (by omega) HST.out HF.out).mono ?_; rintro e wx ⟨rfl, rfl⟩
  go_wp2_with fail
  refine (awake2 _).mono ?_; rintro e w1 ⟨rfl, b1⟩
  have A := A.below b1 rfl
  have B := B.below b1 rfl
  have lA := A.2.2.2.2
  have lB := B.2.2.2.2
  have k := bnextW k b1 (by first | (simp; done) | (simp; omega) | omega)
  have z1 := k.size
  go_wp2
  go_ret
  exact ⟨rfl, k⟩

theorem law_IntegerDivides (g1 : Bool) (s1 : ByteArray) (g2 : Bool) (s2 m : ByteArray) (l1 : s1.size ≤ maxLen) (l2 : s2.size ≤ maxLen) (l3 : m.size ≤ maxLen) (w : World) :
    Calls Try.prog 5 #[.agg #[.bool g1, .string s1], .agg #[.bool g2, .string s2], .string m] w fun e w' => e = .returned (.bool true) ∧ Below w.heap.size w w' := by
  unfold maxLen at l1 l2 l3
  by_cases hf : ∀ j, j < 2 → (if j = 0 then s1 else s2).size ≤ 140
  · by_cases hm : m.size ≤ 140
    · obtain ⟨G1, S1, t1, v1, c1, h1, r1⟩ := idiv_agree g1 g2 s1 s2
      obtain ⟨t2, v2, c2, h2, r2⟩ := imod_agree g1 s1 m
      obtain ⟨G3, S3, v3, c3, h3, r3⟩ := idivide_agree g1 g2 s1 s2
      exact divides_yes g1 g2 G1 G3 s1 s2 m S1 S3 t1 t2 v1 v2 v3 w hf hm h1 h2 h3 r1 r2 r3
    · exact divides_skip2 g1 g2 s1 s2 m w hf (by omega) hm
  · exact divides_skip1 g1 g2 s1 s2 m w (by omega) (by omega) hf
end Go.Proofs.Ytamgklgjhjociaa
