/-
  The walk of IntegerAdds.
-/
import Derived.Test.YtamgklgjhjociaaInt17
namespace Go.Proofs.Ytamgklgjhjociaa
open Go.RowKit
set_option linter.unusedVariables false

theorem zero_code {z : Int} {n : Int} : (.tuple #[Z 0, .int .i64 n] : Value) = .tuple #[.agg #[.bool false, .string ⟨#[]⟩], .int .i64 n] := by rw [Z_zero]
theorem zokN_code' (z : Int) : ∃ (G : Bool) (S : ByteArray) (v : Nat), zokN z = .tuple #[.agg #[.bool G, .string S], .int .i64 v] ∧ v ≤ 100 ∧ (v = 0 ∨ (¬ (v : Int) = 0 ∧ G = false ∧ S = ⟨#[]⟩)) := by
  unfold zokN; split
  · exact ⟨_, _, 0, rfl, by omega, .inl rfl⟩
  · exact ⟨_, _, 5, by rw [Z_zero]; rfl, by omega, .inr ⟨by decide, rfl, rfl⟩⟩
theorem ints2 (w : World) (g1 g2 : Bool) (s1 s2 : ByteArray) (t : TypeId) (n : Nat) (hn : n = w.heap.size) : Ints (w.alloc (.cells #[.bool g1, .string s1, .bool g2, .string s2] t)) n 2 (fun j => if j = 0 then s1 else s2) := by
  subst hn
  intro j hj
  have : j = 0 ∨ j = 1 := by omega
  rcases this with rfl | rfl <;> (rw [World.cell?_alloc_new]; rfl)
theorem ints1 (w : World) (g1 : Bool) (s1 : ByteArray) (t : TypeId) (n : Nat) (hn : n = w.heap.size) : Ints (w.alloc (.cells #[.bool g1, .string s1] t)) n 1 (fun _ => s1) := by
  subst hn
  intro j hj
  obtain rfl : j = 0 := by omega
  rw [World.cell?_alloc_new]; rfl

theorem iadd_agree (g1 g2 : Bool) (s1 s2 : ByteArray) : ∃ (G : Bool) (S : ByteArray) (v : Nat), v ≤ 100 ∧ (v = 0 ∨ (¬ (v : Int) = 0 ∧ G = false ∧ S = ⟨#[]⟩)) ∧
    (∀ w, Calls Try.prog 26 #[.agg #[.bool g1, .string s1], .agg #[.bool g2, .string s2]] w fun e w' => e = .returned (.tuple #[.agg #[.bool G, .string S], .int .i64 v]) ∧ Below w.heap.size w w') ∧
    (∀ w, Calls Try.prog 27 #[.agg #[.bool g1, .string s1], .agg #[.bool g2, .string s2]] w fun e w' => e = .returned (.tuple #[.agg #[.bool G, .string S], .int .i64 v]) ∧ Below w.heap.size w w') := by
  by_cases h : IVal g1 s1 ∧ IVal g2 s2
  · obtain ⟨G, S, v, hz, hl, hv⟩ := zokN_code' (IZ g1 s1 + IZ g2 s2)
    exact ⟨G, S, v, hl, hv, fun w => hz ▸ iadd_yes g1 g2 s1 s2 w h.1 h.2, fun w => hz ▸ riadd_yes g1 g2 s1 s2 w h.1 h.2⟩
  · exact ⟨false, ⟨#[]⟩, 3, by omega, .inr ⟨by decide, rfl, rfl⟩, fun w => by have := iadd_no g1 g2 s1 s2 w h; rwa [Z_zero] at this, fun w => by have := riadd_no g1 g2 s1 s2 w h; rwa [Z_zero] at this⟩

theorem isub_agree (g1 g2 : Bool) (s1 s2 : ByteArray) : ∃ (G : Bool) (S : ByteArray) (v : Nat), v ≤ 100 ∧ (v = 0 ∨ (¬ (v : Int) = 0 ∧ G = false ∧ S = ⟨#[]⟩)) ∧
    (∀ w, Calls Try.prog 28 #[.agg #[.bool g1, .string s1], .agg #[.bool g2, .string s2]] w fun e w' => e = .returned (.tuple #[.agg #[.bool G, .string S], .int .i64 v]) ∧ Below w.heap.size w w') ∧
    (∀ w, Calls Try.prog 29 #[.agg #[.bool g1, .string s1], .agg #[.bool g2, .string s2]] w fun e w' => e = .returned (.tuple #[.agg #[.bool G, .string S], .int .i64 v]) ∧ Below w.heap.size w w') := by
  by_cases h : IVal g1 s1 ∧ IVal g2 s2
  · obtain ⟨G, S, v, hz, hl, hv⟩ := zokN_code' (IZ g1 s1 - IZ g2 s2)
    exact ⟨G, S, v, hl, hv, fun w => hz ▸ isub_yes g1 g2 s1 s2 w h.1 h.2, fun w => hz ▸ risub_yes g1 g2 s1 s2 w h.1 h.2⟩
  · exact ⟨false, ⟨#[]⟩, 3, by omega, .inr ⟨by decide, rfl, rfl⟩, fun w => by have := isub_no g1 g2 s1 s2 w h; rwa [Z_zero] at this, fun w => by have := risub_no g1 g2 s1 s2 w h; rwa [Z_zero] at this⟩

theorem imul_agree (g1 g2 : Bool) (s1 s2 : ByteArray) : ∃ (G : Bool) (S : ByteArray) (v : Nat), v ≤ 100 ∧ (v = 0 ∨ (¬ (v : Int) = 0 ∧ G = false ∧ S = ⟨#[]⟩)) ∧
    (∀ w, Calls Try.prog 30 #[.agg #[.bool g1, .string s1], .agg #[.bool g2, .string s2]] w fun e w' => e = .returned (.tuple #[.agg #[.bool G, .string S], .int .i64 v]) ∧ Below w.heap.size w w') ∧
    (∀ w, Calls Try.prog 31 #[.agg #[.bool g1, .string s1], .agg #[.bool g2, .string s2]] w fun e w' => e = .returned (.tuple #[.agg #[.bool G, .string S], .int .i64 v]) ∧ Below w.heap.size w w') := by
  by_cases h : IVal g1 s1 ∧ IVal g2 s2
  · obtain ⟨G, S, v, hz, hl, hv⟩ := zokN_code' (IZ g1 s1 * IZ g2 s2)
    exact ⟨G, S, v, hl, hv, fun w => hz ▸ imul_yes g1 g2 s1 s2 w h.1 h.2, fun w => hz ▸ rimul_yes g1 g2 s1 s2 w h.1 h.2⟩
  · exact ⟨false, ⟨#[]⟩, 3, by omega, .inr ⟨by decide, rfl, rfl⟩, fun w => by have := imul_no g1 g2 s1 s2 w h; rwa [Z_zero] at this, fun w => by have := rimul_no g1 g2 s1 s2 w h; rwa [Z_zero] at this⟩

set_option maxHeartbeats 4000000 in
set_option maxRecDepth 20000 in
theorem adds_0 (g1 g2 G1 G2 G3 : Bool) (s1 s2 S1 S2 S3 : ByteArray) (w : World) (hf : ∀ j, j < 2 → (if j = 0 then s1 else s2).size ≤ 140)
    (h1 : ∀ w, Calls Try.prog 26 #[.agg #[.bool g1, .string s1], .agg #[.bool g2, .string s2]] w fun e w' => e = .returned (.tuple #[.agg #[.bool G1, .string S1], .int .i64 0]) ∧ Below w.heap.size w w')
    (r1 : ∀ w, Calls Try.prog 27 #[.agg #[.bool g1, .string s1], .agg #[.bool g2, .string s2]] w fun e w' => e = .returned (.tuple #[.agg #[.bool G1, .string S1], .int .i64 0]) ∧ Below w.heap.size w w')
    (h2 : ∀ w, Calls Try.prog 28 #[.agg #[.bool g1, .string s1], .agg #[.bool g2, .string s2]] w fun e w' => e = .returned (.tuple #[.agg #[.bool G2, .string S2], .int .i64 0]) ∧ Below w.heap.size w w')
    (r2 : ∀ w, Calls Try.prog 29 #[.agg #[.bool g1, .string s1], .agg #[.bool g2, .string s2]] w fun e w' => e = .returned (.tuple #[.agg #[.bool G2, .string S2], .int .i64 0]) ∧ Below w.heap.size w w')
    (h3 : ∀ w, Calls Try.prog 30 #[.agg #[.bool g1, .string s1], .agg #[.bool g2, .string s2]] w fun e w' => e = .returned (.tuple #[.agg #[.bool G3, .string S3], .int .i64 0]) ∧ Below w.heap.size w w')
    (r3 : ∀ w, Calls Try.prog 31 #[.agg #[.bool g1, .string s1], .agg #[.bool g2, .string s2]] w fun e w' => e = .returned (.tuple #[.agg #[.bool G3, .string S3], .int .i64 0]) ∧ Below w.heap.size w w') :
    Calls Try.prog 4 #[.agg #[.bool g1, .string s1], .agg #[.bool g2, .string s2]] w fun e w' => e = .returned (.bool true) ∧ Below w.heap.size w w' := by
  have HF := Lib.hid hf; clear hf
  have H1 := Lib.hid h1; clear h1
  have H2 := Lib.hid h2; clear h2
  have H3 := Lib.hid h3; clear h3
  have R1 := Lib.hid r1; clear r1
  have R2 := Lib.hid r2; clear r2
  have R3 := Lib.hid r3; clear r3
  have k := Below.refl w.heap.size w
  have A := Two.new w (.bool g1) (.string s1) 24 (w.heap.size) (by first | (simp; done) | (simp; omega) | omega)
  have k := k.alloc (by first | (simp; done) | (simp; omega) | omega) (.cells #[.bool g1, .string s1] 24)
  have A := A.alloc (.cells #[.bool g2, .string s2] 24)
  have B := Two.new (w.alloc (.cells #[.bool g1, .string s1] 24)) (.bool g2) (.string s2) 24 (w.heap.size + 1) (by first | (simp; done) | (simp; omega) | omega)
  have k := k.alloc (by first | (simp; done) | (simp; omega) | omega) (.cells #[.bool g2, .string s2] 24)
  have hst := ints2 ((w.alloc (.cells #[.bool g1, .string s1] 24)).alloc (.cells #[.bool g2, .string s2] 24)) g1 g2 s1 s2 24 (w.heap.size + 1 + 1) (by first | (simp; done) | (simp; omega) | omega)
  have HST := Lib.hid hst; clear hst
  have A := A.alloc (.cells #[.bool g1, .string s1, .bool g2, .string s2] 24)
  have B := B.alloc (.cells #[.bool g1, .string s1, .bool g2, .string s2] 24)
  have k := k.alloc (by first | (simp; done) | (simp; omega) | omega) (.cells #[.bool g1, .string s1, .bool g2, .string s2] 24)
  go_enter Try.func4, Try.ntmps4
  go_wp2_with fail
  refine (long_no _ 2 _ _ (by omega) HST.out HF.out).mono ?_; rintro e wx ⟨rfl, rfl⟩
  have q1a := A.1
  have q1b := A.2.1
  have q2a := B.1
  have q2b := B.2.1
  go_wp2_with fail
  refine (H1.out _).mono ?_; rintro e w1 ⟨rfl, b1⟩
  clear q1a q1b q2a q2b
  have A := A.below b1 rfl
  have B := B.below b1 rfl
  have lA := A.2.2.2.2
  have lB := B.2.2.2.2
  have k := bnextW k b1 (by first | (simp; done) | (simp; omega) | omega)
  have z1 := k.size
  have A := A.alloc (.cells #[.bool G1, .string S1] 24)
  have B := B.alloc (.cells #[.bool G1, .string S1] 24)
  have S := Two.new w1 (.bool G1) (.string S1) 24 (w1.heap.size) (by first | (simp; done) | (simp; omega) | omega)
  have k := k.alloc (by first | (simp; done) | (simp; omega) | omega) (.cells #[.bool G1, .string S1] 24)
  have q3a := A.1
  have q3b := A.2.1
  have q4a := B.1
  have q4b := B.2.1
  go_wp2_with fail
  refine (R1.out _).mono ?_; rintro e w2 ⟨rfl, b2⟩
  clear q3a q3b q4a q4b
  have A := A.below b2 rfl
  have B := B.below b2 rfl
  have S := S.below b2 rfl
  have lA := A.2.2.2.2
  have lB := B.2.2.2.2
  have lS := S.2.2.2.2
  have k := bnextW k b2 (by first | (simp; done) | (simp; omega) | omega)
  have z2 := k.size
  have A := A.alloc (.cells #[.bool G1, .string S1] 24)
  have B := B.alloc (.cells #[.bool G1, .string S1] 24)
  have S := S.alloc (.cells #[.bool G1, .string S1] 24)
  have X := Two.new w2 (.bool G1) (.string S1) 24 (w2.heap.size) (by first | (simp; done) | (simp; omega) | omega)
  have k := k.alloc (by first | (simp; done) | (simp; omega) | omega) (.cells #[.bool G1, .string S1] 24)
  have q5a := A.1
  have q5b := A.2.1
  have q6a := B.1
  have q6b := B.2.1
  go_wp2_with fail
  refine (H2.out _).mono ?_; rintro e w3 ⟨rfl, b3⟩
  clear q5a q5b q6a q6b
  have A := A.below b3 rfl
  have B := B.below b3 rfl
  have S := S.below b3 rfl
  have X := X.below b3 rfl
  have lA := A.2.2.2.2
  have lB := B.2.2.2.2
  have lS := S.2.2.2.2
  have lX := X.2.2.2.2
  have k := bnextW k b3 (by first | (simp; done) | (simp; omega) | omega)
  have z3 := k.size
  have A := A.alloc (.cells #[.bool G2, .string S2] 24)
  have B := B.alloc (.cells #[.bool G2, .string S2] 24)
  have S := S.alloc (.cells #[.bool G2, .string S2] 24)
  have X := X.alloc (.cells #[.bool G2, .string S2] 24)
  have D := Two.new w3 (.bool G2) (.string S2) 24 (w3.heap.size) (by first | (simp; done) | (simp; omega) | omega)
  have k := k.alloc (by first | (simp; done) | (simp; omega) | omega) (.cells #[.bool G2, .string S2] 24)
  have q7a := A.1
  have q7b := A.2.1
  have q8a := B.1
  have q8b := B.2.1
  go_wp2_with fail
  refine (R2.out _).mono ?_; rintro e w4 ⟨rfl, b4⟩
  clear q7a q7b q8a q8b
  have A := A.below b4 rfl
  have B := B.below b4 rfl
  have S := S.below b4 rfl
  have X := X.below b4 rfl
  have D := D.below b4 rfl
  have lA := A.2.2.2.2
  have lB := B.2.2.2.2
  have lS := S.2.2.2.2
  have lX := X.2.2.2.2
  have lD := D.2.2.2.2
  have k := bnextW k b4 (by first | (simp; done) | (simp; omega) | omega)
  have z4 := k.size
  have A := A.alloc (.cells #[.bool G2, .string S2] 24)
  have B := B.alloc (.cells #[.bool G2, .string S2] 24)
  have S := S.alloc (.cells #[.bool G2, .string S2] 24)
  have X := X.alloc (.cells #[.bool G2, .string S2] 24)
  have D := D.alloc (.cells #[.bool G2, .string S2] 24)
  have Y := Two.new w4 (.bool G2) (.string S2) 24 (w4.heap.size) (by first | (simp; done) | (simp; omega) | omega)
  have k := k.alloc (by first | (simp; done) | (simp; omega) | omega) (.cells #[.bool G2, .string S2] 24)
  have q9a := A.1
  have q9b := A.2.1
  have q10a := B.1
  have q10b := B.2.1
  go_wp2_with fail
  refine (H3.out _).mono ?_; rintro e w5 ⟨rfl, b5⟩
  clear q9a q9b q10a q10b
  have A := A.below b5 rfl
  have B := B.below b5 rfl
  have S := S.below b5 rfl
  have X := X.below b5 rfl
  have D := D.below b5 rfl
  have Y := Y.below b5 rfl
  have lA := A.2.2.2.2
  have lB := B.2.2.2.2
  have lS := S.2.2.2.2
  have lX := X.2.2.2.2
  have lD := D.2.2.2.2
  have lY := Y.2.2.2.2
  have k := bnextW k b5 (by first | (simp; done) | (simp; omega) | omega)
  have z5 := k.size
  have A := A.alloc (.cells #[.bool G3, .string S3] 24)
  have B := B.alloc (.cells #[.bool G3, .string S3] 24)
  have S := S.alloc (.cells #[.bool G3, .string S3] 24)
  have X := X.alloc (.cells #[.bool G3, .string S3] 24)
  have D := D.alloc (.cells #[.bool G3, .string S3] 24)
  have Y := Y.alloc (.cells #[.bool G3, .string S3] 24)
  have P := Two.new w5 (.bool G3) (.string S3) 24 (w5.heap.size) (by first | (simp; done) | (simp; omega) | omega)
  have k := k.alloc (by first | (simp; done) | (simp; omega) | omega) (.cells #[.bool G3, .string S3] 24)
  have q11a := A.1
  have q11b := A.2.1
  have q12a := B.1
  have q12b := B.2.1
  go_wp2_with fail
  refine (R3.out _).mono ?_; rintro e w6 ⟨rfl, b6⟩
  clear q11a q11b q12a q12b
  have A := A.below b6 rfl
  have B := B.below b6 rfl
  have S := S.below b6 rfl
  have X := X.below b6 rfl
  have D := D.below b6 rfl
  have Y := Y.below b6 rfl
  have P := P.below b6 rfl
  have lA := A.2.2.2.2
  have lB := B.2.2.2.2
  have lS := S.2.2.2.2
  have lX := X.2.2.2.2
  have lD := D.2.2.2.2
  have lY := Y.2.2.2.2
  have lP := P.2.2.2.2
  have k := bnextW k b6 (by first | (simp; done) | (simp; omega) | omega)
  have z6 := k.size
  have A := A.alloc (.cells #[.bool G3, .string S3] 24)
  have B := B.alloc (.cells #[.bool G3, .string S3] 24)
  have S := S.alloc (.cells #[.bool G3, .string S3] 24)
  have X := X.alloc (.cells #[.bool G3, .string S3] 24)
  have D := D.alloc (.cells #[.bool G3, .string S3] 24)
  have Y := Y.alloc (.cells #[.bool G3, .string S3] 24)
  have P := P.alloc (.cells #[.bool G3, .string S3] 24)
  have Q := Two.new w6 (.bool G3) (.string S3) 24 (w6.heap.size) (by first | (simp; done) | (simp; omega) | omega)
  have k := k.alloc (by first | (simp; done) | (simp; omega) | omega) (.cells #[.bool G3, .string S3] 24)
  obtain ⟨q13a, q13b, q13c, q13d, q13e⟩ := id A
  obtain ⟨q14a, q14b, q14c, q14d, q14e⟩ := id B
  obtain ⟨q15a, q15b, q15c, q15d, q15e⟩ := id S
  obtain ⟨q16a, q16b, q16c, q16d, q16e⟩ := id X
  obtain ⟨q17a, q17b, q17c, q17d, q17e⟩ := id D
  obtain ⟨q18a, q18b, q18c, q18d, q18e⟩ := id Y
  obtain ⟨q19a, q19b, q19c, q19d, q19e⟩ := id P
  obtain ⟨q20a, q20b, q20c, q20d, q20e⟩ := id Q
  go_wp2_with fail
  refine (awake2 _).mono ?_; rintro e w7 ⟨rfl, b7⟩
  clear q13a q13b q13c q13d q13e q14a q14b q14c q14d q14e q15a q15b q15c q15d q15e q16a q16b q16c q16d q16e q17a q17b q17c q17d q17e q18a q18b q18c q18d q18e q19a q19b q19c q19d q19e q20a q20b q20c q20d q20e
  have A := A.below b7 rfl
  have B := B.below b7 rfl
  have S := S.below b7 rfl
  have X := X.below b7 rfl
  have D := D.below b7 rfl
  have Y := Y.below b7 rfl
  have P := P.below b7 rfl
  have Q := Q.below b7 rfl
  have lA := A.2.2.2.2
  have lB := B.2.2.2.2
  have lS := S.2.2.2.2
  have lX := X.2.2.2.2
  have lD := D.2.2.2.2
  have lY := Y.2.2.2.2
  have lP := P.2.2.2.2
  have lQ := Q.2.2.2.2
  have k := bnextW k b7 (by first | (simp; done) | (simp; omega) | omega)
  have z7 := k.size
  have q21a := S.1
  have q21b := S.2.1
  have q22a := X.1
  have q22b := X.2.1
  have q23a := D.1
  have q23b := D.2.1
  have q24a := Y.1
  have q24b := Y.2.1
  have q25a := P.1
  have q25b := P.2.1
  have q26a := Q.1
  have q26b := Q.2.1
  go_wp2
  go_ret
  exact ⟨rfl, k⟩

set_option maxHeartbeats 4000000 in
set_option maxRecDepth 20000 in
theorem adds_1 (g1 g2 G1 G2 G3 : Bool) (s1 s2 S1 S2 S3 : ByteArray) (w : World) (hf : ∀ j, j < 2 → (if j = 0 then s1 else s2).size ≤ 140) (v1 : Int) (n1 : ¬ v1 = 0) (a1 : 0 ≤ v1) (c1 : v1 ≤ 100)
    (h1 : ∀ w, Calls Try.prog 26 #[.agg #[.bool g1, .string s1], .agg #[.bool g2, .string s2]] w fun e w' => e = .returned (.tuple #[.agg #[.bool false, .string ⟨#[]⟩], .int .i64 v1]) ∧ Below w.heap.size w w')
    (r1 : ∀ w, Calls Try.prog 27 #[.agg #[.bool g1, .string s1], .agg #[.bool g2, .string s2]] w fun e w' => e = .returned (.tuple #[.agg #[.bool false, .string ⟨#[]⟩], .int .i64 v1]) ∧ Below w.heap.size w w')
    (h2 : ∀ w, Calls Try.prog 28 #[.agg #[.bool g1, .string s1], .agg #[.bool g2, .string s2]] w fun e w' => e = .returned (.tuple #[.agg #[.bool G2, .string S2], .int .i64 0]) ∧ Below w.heap.size w w')
    (r2 : ∀ w, Calls Try.prog 29 #[.agg #[.bool g1, .string s1], .agg #[.bool g2, .string s2]] w fun e w' => e = .returned (.tuple #[.agg #[.bool G2, .string S2], .int .i64 0]) ∧ Below w.heap.size w w')
    (h3 : ∀ w, Calls Try.prog 30 #[.agg #[.bool g1, .string s1], .agg #[.bool g2, .string s2]] w fun e w' => e = .returned (.tuple #[.agg #[.bool G3, .string S3], .int .i64 0]) ∧ Below w.heap.size w w')
    (r3 : ∀ w, Calls Try.prog 31 #[.agg #[.bool g1, .string s1], .agg #[.bool g2, .string s2]] w fun e w' => e = .returned (.tuple #[.agg #[.bool G3, .string S3], .int .i64 0]) ∧ Below w.heap.size w w') :
    Calls Try.prog 4 #[.agg #[.bool g1, .string s1], .agg #[.bool g2, .string s2]] w fun e w' => e = .returned (.bool true) ∧ Below w.heap.size w w' := by
  have HF := Lib.hid hf; clear hf
  have H1 := Lib.hid h1; clear h1
  have H2 := Lib.hid h2; clear h2
  have H3 := Lib.hid h3; clear h3
  have R1 := Lib.hid r1; clear r1
  have R2 := Lib.hid r2; clear r2
  have R3 := Lib.hid r3; clear r3
  have k := Below.refl w.heap.size w
  have A := Two.new w (.bool g1) (.string s1) 24 (w.heap.size) (by first | (simp; done) | (simp; omega) | omega)
  have k := k.alloc (by first | (simp; done) | (simp; omega) | omega) (.cells #[.bool g1, .string s1] 24)
  have A := A.alloc (.cells #[.bool g2, .string s2] 24)
  have B := Two.new (w.alloc (.cells #[.bool g1, .string s1] 24)) (.bool g2) (.string s2) 24 (w.heap.size + 1) (by first | (simp; done) | (simp; omega) | omega)
  have k := k.alloc (by first | (simp; done) | (simp; omega) | omega) (.cells #[.bool g2, .string s2] 24)
  have hst := ints2 ((w.alloc (.cells #[.bool g1, .string s1] 24)).alloc (.cells #[.bool g2, .string s2] 24)) g1 g2 s1 s2 24 (w.heap.size + 1 + 1) (by first | (simp; done) | (simp; omega) | omega)
  have HST := Lib.hid hst; clear hst
  have A := A.alloc (.cells #[.bool g1, .string s1, .bool g2, .string s2] 24)
  have B := B.alloc (.cells #[.bool g1, .string s1, .bool g2, .string s2] 24)
  have k := k.alloc (by first | (simp; done) | (simp; omega) | omega) (.cells #[.bool g1, .string s1, .bool g2, .string s2] 24)
  go_enter Try.func4, Try.ntmps4
  go_wp2_with fail
  refine (long_no _ 2 _ _ (by omega) HST.out HF.out).mono ?_; rintro e wx ⟨rfl, rfl⟩
  have q1a := A.1
  have q1b := A.2.1
  have q2a := B.1
  have q2b := B.2.1
  go_wp2_with fail
  refine (H1.out _).mono ?_; rintro e w1 ⟨rfl, b1⟩
  clear q1a q1b q2a q2b
  have A := A.below b1 rfl
  have B := B.below b1 rfl
  have lA := A.2.2.2.2
  have lB := B.2.2.2.2
  have k := bnextW k b1 (by first | (simp; done) | (simp; omega) | omega)
  have z1 := k.size
  have A := A.alloc (.cells #[.bool false, .string ⟨#[]⟩] 24)
  have B := B.alloc (.cells #[.bool false, .string ⟨#[]⟩] 24)
  have S := Two.new w1 (.bool false) (.string ⟨#[]⟩) 24 (w1.heap.size) (by first | (simp; done) | (simp; omega) | omega)
  have k := k.alloc (by first | (simp; done) | (simp; omega) | omega) (.cells #[.bool false, .string ⟨#[]⟩] 24)
  have q3a := A.1
  have q3b := A.2.1
  have q4a := B.1
  have q4b := B.2.1
  go_wp2_with fail
  refine (R1.out _).mono ?_; rintro e w2 ⟨rfl, b2⟩
  clear q3a q3b q4a q4b
  have A := A.below b2 rfl
  have B := B.below b2 rfl
  have S := S.below b2 rfl
  have lA := A.2.2.2.2
  have lB := B.2.2.2.2
  have lS := S.2.2.2.2
  have k := bnextW k b2 (by first | (simp; done) | (simp; omega) | omega)
  have z2 := k.size
  have A := A.alloc (.cells #[.bool false, .string ⟨#[]⟩] 24)
  have B := B.alloc (.cells #[.bool false, .string ⟨#[]⟩] 24)
  have S := S.alloc (.cells #[.bool false, .string ⟨#[]⟩] 24)
  have X := Two.new w2 (.bool false) (.string ⟨#[]⟩) 24 (w2.heap.size) (by first | (simp; done) | (simp; omega) | omega)
  have k := k.alloc (by first | (simp; done) | (simp; omega) | omega) (.cells #[.bool false, .string ⟨#[]⟩] 24)
  have q5a := A.1
  have q5b := A.2.1
  have q6a := B.1
  have q6b := B.2.1
  go_wp2_with fail
  refine (H2.out _).mono ?_; rintro e w3 ⟨rfl, b3⟩
  clear q5a q5b q6a q6b
  have A := A.below b3 rfl
  have B := B.below b3 rfl
  have S := S.below b3 rfl
  have X := X.below b3 rfl
  have lA := A.2.2.2.2
  have lB := B.2.2.2.2
  have lS := S.2.2.2.2
  have lX := X.2.2.2.2
  have k := bnextW k b3 (by first | (simp; done) | (simp; omega) | omega)
  have z3 := k.size
  have A := A.alloc (.cells #[.bool G2, .string S2] 24)
  have B := B.alloc (.cells #[.bool G2, .string S2] 24)
  have S := S.alloc (.cells #[.bool G2, .string S2] 24)
  have X := X.alloc (.cells #[.bool G2, .string S2] 24)
  have D := Two.new w3 (.bool G2) (.string S2) 24 (w3.heap.size) (by first | (simp; done) | (simp; omega) | omega)
  have k := k.alloc (by first | (simp; done) | (simp; omega) | omega) (.cells #[.bool G2, .string S2] 24)
  have q7a := A.1
  have q7b := A.2.1
  have q8a := B.1
  have q8b := B.2.1
  go_wp2_with fail
  refine (R2.out _).mono ?_; rintro e w4 ⟨rfl, b4⟩
  clear q7a q7b q8a q8b
  have A := A.below b4 rfl
  have B := B.below b4 rfl
  have S := S.below b4 rfl
  have X := X.below b4 rfl
  have D := D.below b4 rfl
  have lA := A.2.2.2.2
  have lB := B.2.2.2.2
  have lS := S.2.2.2.2
  have lX := X.2.2.2.2
  have lD := D.2.2.2.2
  have k := bnextW k b4 (by first | (simp; done) | (simp; omega) | omega)
  have z4 := k.size
  have A := A.alloc (.cells #[.bool G2, .string S2] 24)
  have B := B.alloc (.cells #[.bool G2, .string S2] 24)
  have S := S.alloc (.cells #[.bool G2, .string S2] 24)
  have X := X.alloc (.cells #[.bool G2, .string S2] 24)
  have D := D.alloc (.cells #[.bool G2, .string S2] 24)
  have Y := Two.new w4 (.bool G2) (.string S2) 24 (w4.heap.size) (by first | (simp; done) | (simp; omega) | omega)
  have k := k.alloc (by first | (simp; done) | (simp; omega) | omega) (.cells #[.bool G2, .string S2] 24)
  have q9a := A.1
  have q9b := A.2.1
  have q10a := B.1
  have q10b := B.2.1
  go_wp2_with fail
  refine (H3.out _).mono ?_; rintro e w5 ⟨rfl, b5⟩
  clear q9a q9b q10a q10b
  have A := A.below b5 rfl
  have B := B.below b5 rfl
  have S := S.below b5 rfl
  have X := X.below b5 rfl
  have D := D.below b5 rfl
  have Y := Y.below b5 rfl
  have lA := A.2.2.2.2
  have lB := B.2.2.2.2
  have lS := S.2.2.2.2
  have lX := X.2.2.2.2
  have lD := D.2.2.2.2
  have lY := Y.2.2.2.2
  have k := bnextW k b5 (by first | (simp; done) | (simp; omega) | omega)
  have z5 := k.size
  have A := A.alloc (.cells #[.bool G3, .string S3] 24)
  have B := B.alloc (.cells #[.bool G3, .string S3] 24)
  have S := S.alloc (.cells #[.bool G3, .string S3] 24)
  have X := X.alloc (.cells #[.bool G3, .string S3] 24)
  have D := D.alloc (.cells #[.bool G3, .string S3] 24)
  have Y := Y.alloc (.cells #[.bool G3, .string S3] 24)
  have P := Two.new w5 (.bool G3) (.string S3) 24 (w5.heap.size) (by first | (simp; done) | (simp; omega) | omega)
  have k := k.alloc (by first | (simp; done) | (simp; omega) | omega) (.cells #[.bool G3, .string S3] 24)
  have q11a := A.1
  have q11b := A.2.1
  have q12a := B.1
  have q12b := B.2.1
  go_wp2_with fail
  refine (R3.out _).mono ?_; rintro e w6 ⟨rfl, b6⟩
  clear q11a q11b q12a q12b
  have A := A.below b6 rfl
  have B := B.below b6 rfl
  have S := S.below b6 rfl
  have X := X.below b6 rfl
  have D := D.below b6 rfl
  have Y := Y.below b6 rfl
  have P := P.below b6 rfl
  have lA := A.2.2.2.2
  have lB := B.2.2.2.2
  have lS := S.2.2.2.2
  have lX := X.2.2.2.2
  have lD := D.2.2.2.2
  have lY := Y.2.2.2.2
  have lP := P.2.2.2.2
  have k := bnextW k b6 (by first | (simp; done) | (simp; omega) | omega)
  have z6 := k.size
  have A := A.alloc (.cells #[.bool G3, .string S3] 24)
  have B := B.alloc (.cells #[.bool G3, .string S3] 24)
  have S := S.alloc (.cells #[.bool G3, .string S3] 24)
  have X := X.alloc (.cells #[.bool G3, .string S3] 24)
  have D := D.alloc (.cells #[.bool G3, .string S3] 24)
  have Y := Y.alloc (.cells #[.bool G3, .string S3] 24)
  have P := P.alloc (.cells #[.bool G3, .string S3] 24)
  have Q := Two.new w6 (.bool G3) (.string S3) 24 (w6.heap.size) (by first | (simp; done) | (simp; omega) | omega)
  have k := k.alloc (by first | (simp; done) | (simp; omega) | omega) (.cells #[.bool G3, .string S3] 24)
  obtain ⟨q13a, q13b, q13c, q13d, q13e⟩ := id A
  obtain ⟨q14a, q14b, q14c, q14d, q14e⟩ := id B
  obtain ⟨q15a, q15b, q15c, q15d, q15e⟩ := id S
  obtain ⟨q16a, q16b, q16c, q16d, q16e⟩ := id X
  obtain ⟨q17a, q17b, q17c, q17d, q17e⟩ := id D
  obtain ⟨q18a, q18b, q18c, q18d, q18e⟩ := id Y
  obtain ⟨q19a, q19b, q19c, q19d, q19e⟩ := id P
  obtain ⟨q20a, q20b, q20c, q20d, q20e⟩ := id Q
  go_wp2_with fail
  refine (awake2 _).mono ?_; rintro e w7 ⟨rfl, b7⟩
  clear q13a q13b q13c q13d q13e q14a q14b q14c q14d q14e q15a q15b q15c q15d q15e q16a q16b q16c q16d q16e q17a q17b q17c q17d q17e q18a q18b q18c q18d q18e q19a q19b q19c q19d q19e q20a q20b q20c q20d q20e
  have A := A.below b7 rfl
  have B := B.below b7 rfl
  have S := S.below b7 rfl
  have X := X.below b7 rfl
  have D := D.below b7 rfl
  have Y := Y.below b7 rfl
  have P := P.below b7 rfl
  have Q := Q.below b7 rfl
  have lA := A.2.2.2.2
  have lB := B.2.2.2.2
  have lS := S.2.2.2.2
  have lX := X.2.2.2.2
  have lD := D.2.2.2.2
  have lY := Y.2.2.2.2
  have lP := P.2.2.2.2
  have lQ := Q.2.2.2.2
  have k := bnextW k b7 (by first | (simp; done) | (simp; omega) | omega)
  have z7 := k.size
  have q21a := S.1
  have q21b := S.2.1
  have q22a := X.1
  have q22b := X.2.1
  have q23a := D.1
  have q23b := D.2.1
  have q24a := Y.1
  have q24b := Y.2.1
  have q25a := P.1
  have q25b := P.2.1
  have q26a := Q.1
  have q26b := Q.2.1
  go_wp2
  go_ret
  exact ⟨rfl, k⟩

set_option maxHeartbeats 4000000 in
set_option maxRecDepth 20000 in
theorem adds_2 (g1 g2 G1 G2 G3 : Bool) (s1 s2 S1 S2 S3 : ByteArray) (w : World) (hf : ∀ j, j < 2 → (if j = 0 then s1 else s2).size ≤ 140) (v2 : Int) (n2 : ¬ v2 = 0) (a2 : 0 ≤ v2) (c2 : v2 ≤ 100)
    (h1 : ∀ w, Calls Try.prog 26 #[.agg #[.bool g1, .string s1], .agg #[.bool g2, .string s2]] w fun e w' => e = .returned (.tuple #[.agg #[.bool G1, .string S1], .int .i64 0]) ∧ Below w.heap.size w w')
    (r1 : ∀ w, Calls Try.prog 27 #[.agg #[.bool g1, .string s1], .agg #[.bool g2, .string s2]] w fun e w' => e = .returned (.tuple #[.agg #[.bool G1, .string S1], .int .i64 0]) ∧ Below w.heap.size w w')
    (h2 : ∀ w, Calls Try.prog 28 #[.agg #[.bool g1, .string s1], .agg #[.bool g2, .string s2]] w fun e w' => e = .returned (.tuple #[.agg #[.bool false, .string ⟨#[]⟩], .int .i64 v2]) ∧ Below w.heap.size w w')
    (r2 : ∀ w, Calls Try.prog 29 #[.agg #[.bool g1, .string s1], .agg #[.bool g2, .string s2]] w fun e w' => e = .returned (.tuple #[.agg #[.bool false, .string ⟨#[]⟩], .int .i64 v2]) ∧ Below w.heap.size w w')
    (h3 : ∀ w, Calls Try.prog 30 #[.agg #[.bool g1, .string s1], .agg #[.bool g2, .string s2]] w fun e w' => e = .returned (.tuple #[.agg #[.bool G3, .string S3], .int .i64 0]) ∧ Below w.heap.size w w')
    (r3 : ∀ w, Calls Try.prog 31 #[.agg #[.bool g1, .string s1], .agg #[.bool g2, .string s2]] w fun e w' => e = .returned (.tuple #[.agg #[.bool G3, .string S3], .int .i64 0]) ∧ Below w.heap.size w w') :
    Calls Try.prog 4 #[.agg #[.bool g1, .string s1], .agg #[.bool g2, .string s2]] w fun e w' => e = .returned (.bool true) ∧ Below w.heap.size w w' := by
  have HF := Lib.hid hf; clear hf
  have H1 := Lib.hid h1; clear h1
  have H2 := Lib.hid h2; clear h2
  have H3 := Lib.hid h3; clear h3
  have R1 := Lib.hid r1; clear r1
  have R2 := Lib.hid r2; clear r2
  have R3 := Lib.hid r3; clear r3
  have k := Below.refl w.heap.size w
  have A := Two.new w (.bool g1) (.string s1) 24 (w.heap.size) (by first | (simp; done) | (simp; omega) | omega)
  have k := k.alloc (by first | (simp; done) | (simp; omega) | omega) (.cells #[.bool g1, .string s1] 24)
  have A := A.alloc (.cells #[.bool g2, .string s2] 24)
  have B := Two.new (w.alloc (.cells #[.bool g1, .string s1] 24)) (.bool g2) (.string s2) 24 (w.heap.size + 1) (by first | (simp; done) | (simp; omega) | omega)
  have k := k.alloc (by first | (simp; done) | (simp; omega) | omega) (.cells #[.bool g2, .string s2] 24)
  have hst := ints2 ((w.alloc (.cells #[.bool g1, .string s1] 24)).alloc (.cells #[.bool g2, .string s2] 24)) g1 g2 s1 s2 24 (w.heap.size + 1 + 1) (by first | (simp; done) | (simp; omega) | omega)
  have HST := Lib.hid hst; clear hst
  have A := A.alloc (.cells #[.bool g1, .string s1, .bool g2, .string s2] 24)
  have B := B.alloc (.cells #[.bool g1, .string s1, .bool g2, .string s2] 24)
  have k := k.alloc (by first | (simp; done) | (simp; omega) | omega) (.cells #[.bool g1, .string s1, .bool g2, .string s2] 24)
  go_enter Try.func4, Try.ntmps4
  go_wp2_with fail
  refine (long_no _ 2 _ _ (by omega) HST.out HF.out).mono ?_; rintro e wx ⟨rfl, rfl⟩
  have q1a := A.1
  have q1b := A.2.1
  have q2a := B.1
  have q2b := B.2.1
  go_wp2_with fail
  refine (H1.out _).mono ?_; rintro e w1 ⟨rfl, b1⟩
  clear q1a q1b q2a q2b
  have A := A.below b1 rfl
  have B := B.below b1 rfl
  have lA := A.2.2.2.2
  have lB := B.2.2.2.2
  have k := bnextW k b1 (by first | (simp; done) | (simp; omega) | omega)
  have z1 := k.size
  have A := A.alloc (.cells #[.bool G1, .string S1] 24)
  have B := B.alloc (.cells #[.bool G1, .string S1] 24)
  have S := Two.new w1 (.bool G1) (.string S1) 24 (w1.heap.size) (by first | (simp; done) | (simp; omega) | omega)
  have k := k.alloc (by first | (simp; done) | (simp; omega) | omega) (.cells #[.bool G1, .string S1] 24)
  have q3a := A.1
  have q3b := A.2.1
  have q4a := B.1
  have q4b := B.2.1
  go_wp2_with fail
  refine (R1.out _).mono ?_; rintro e w2 ⟨rfl, b2⟩
  clear q3a q3b q4a q4b
  have A := A.below b2 rfl
  have B := B.below b2 rfl
  have S := S.below b2 rfl
  have lA := A.2.2.2.2
  have lB := B.2.2.2.2
  have lS := S.2.2.2.2
  have k := bnextW k b2 (by first | (simp; done) | (simp; omega) | omega)
  have z2 := k.size
  have A := A.alloc (.cells #[.bool G1, .string S1] 24)
  have B := B.alloc (.cells #[.bool G1, .string S1] 24)
  have S := S.alloc (.cells #[.bool G1, .string S1] 24)
  have X := Two.new w2 (.bool G1) (.string S1) 24 (w2.heap.size) (by first | (simp; done) | (simp; omega) | omega)
  have k := k.alloc (by first | (simp; done) | (simp; omega) | omega) (.cells #[.bool G1, .string S1] 24)
  have q5a := A.1
  have q5b := A.2.1
  have q6a := B.1
  have q6b := B.2.1
  go_wp2_with fail
  refine (H2.out _).mono ?_; rintro e w3 ⟨rfl, b3⟩
  clear q5a q5b q6a q6b
  have A := A.below b3 rfl
  have B := B.below b3 rfl
  have S := S.below b3 rfl
  have X := X.below b3 rfl
  have lA := A.2.2.2.2
  have lB := B.2.2.2.2
  have lS := S.2.2.2.2
  have lX := X.2.2.2.2
  have k := bnextW k b3 (by first | (simp; done) | (simp; omega) | omega)
  have z3 := k.size
  have A := A.alloc (.cells #[.bool false, .string ⟨#[]⟩] 24)
  have B := B.alloc (.cells #[.bool false, .string ⟨#[]⟩] 24)
  have S := S.alloc (.cells #[.bool false, .string ⟨#[]⟩] 24)
  have X := X.alloc (.cells #[.bool false, .string ⟨#[]⟩] 24)
  have D := Two.new w3 (.bool false) (.string ⟨#[]⟩) 24 (w3.heap.size) (by first | (simp; done) | (simp; omega) | omega)
  have k := k.alloc (by first | (simp; done) | (simp; omega) | omega) (.cells #[.bool false, .string ⟨#[]⟩] 24)
  have q7a := A.1
  have q7b := A.2.1
  have q8a := B.1
  have q8b := B.2.1
  go_wp2_with fail
  refine (R2.out _).mono ?_; rintro e w4 ⟨rfl, b4⟩
  clear q7a q7b q8a q8b
  have A := A.below b4 rfl
  have B := B.below b4 rfl
  have S := S.below b4 rfl
  have X := X.below b4 rfl
  have D := D.below b4 rfl
  have lA := A.2.2.2.2
  have lB := B.2.2.2.2
  have lS := S.2.2.2.2
  have lX := X.2.2.2.2
  have lD := D.2.2.2.2
  have k := bnextW k b4 (by first | (simp; done) | (simp; omega) | omega)
  have z4 := k.size
  have A := A.alloc (.cells #[.bool false, .string ⟨#[]⟩] 24)
  have B := B.alloc (.cells #[.bool false, .string ⟨#[]⟩] 24)
  have S := S.alloc (.cells #[.bool false, .string ⟨#[]⟩] 24)
  have X := X.alloc (.cells #[.bool false, .string ⟨#[]⟩] 24)
  have D := D.alloc (.cells #[.bool false, .string ⟨#[]⟩] 24)
  have Y := Two.new w4 (.bool false) (.string ⟨#[]⟩) 24 (w4.heap.size) (by first | (simp; done) | (simp; omega) | omega)
  have k := k.alloc (by first | (simp; done) | (simp; omega) | omega) (.cells #[.bool false, .string ⟨#[]⟩] 24)
  have q9a := A.1
  have q9b := A.2.1
  have q10a := B.1
  have q10b := B.2.1
  go_wp2_with fail
  refine (H3.out _).mono ?_; rintro e w5 ⟨rfl, b5⟩
  clear q9a q9b q10a q10b
  have A := A.below b5 rfl
  have B := B.below b5 rfl
  have S := S.below b5 rfl
  have X := X.below b5 rfl
  have D := D.below b5 rfl
  have Y := Y.below b5 rfl
  have lA := A.2.2.2.2
  have lB := B.2.2.2.2
  have lS := S.2.2.2.2
  have lX := X.2.2.2.2
  have lD := D.2.2.2.2
  have lY := Y.2.2.2.2
  have k := bnextW k b5 (by first | (simp; done) | (simp; omega) | omega)
  have z5 := k.size
  have A := A.alloc (.cells #[.bool G3, .string S3] 24)
  have B := B.alloc (.cells #[.bool G3, .string S3] 24)
  have S := S.alloc (.cells #[.bool G3, .string S3] 24)
  have X := X.alloc (.cells #[.bool G3, .string S3] 24)
  have D := D.alloc (.cells #[.bool G3, .string S3] 24)
  have Y := Y.alloc (.cells #[.bool G3, .string S3] 24)
  have P := Two.new w5 (.bool G3) (.string S3) 24 (w5.heap.size) (by first | (simp; done) | (simp; omega) | omega)
  have k := k.alloc (by first | (simp; done) | (simp; omega) | omega) (.cells #[.bool G3, .string S3] 24)
  have q11a := A.1
  have q11b := A.2.1
  have q12a := B.1
  have q12b := B.2.1
  go_wp2_with fail
  refine (R3.out _).mono ?_; rintro e w6 ⟨rfl, b6⟩
  clear q11a q11b q12a q12b
  have A := A.below b6 rfl
  have B := B.below b6 rfl
  have S := S.below b6 rfl
  have X := X.below b6 rfl
  have D := D.below b6 rfl
  have Y := Y.below b6 rfl
  have P := P.below b6 rfl
  have lA := A.2.2.2.2
  have lB := B.2.2.2.2
  have lS := S.2.2.2.2
  have lX := X.2.2.2.2
  have lD := D.2.2.2.2
  have lY := Y.2.2.2.2
  have lP := P.2.2.2.2
  have k := bnextW k b6 (by first | (simp; done) | (simp; omega) | omega)
  have z6 := k.size
  have A := A.alloc (.cells #[.bool G3, .string S3] 24)
  have B := B.alloc (.cells #[.bool G3, .string S3] 24)
  have S := S.alloc (.cells #[.bool G3, .string S3] 24)
  have X := X.alloc (.cells #[.bool G3, .string S3] 24)
  have D := D.alloc (.cells #[.bool G3, .string S3] 24)
  have Y := Y.alloc (.cells #[.bool G3, .string S3] 24)
  have P := P.alloc (.cells #[.bool G3, .string S3] 24)
  have Q := Two.new w6 (.bool G3) (.string S3) 24 (w6.heap.size) (by first | (simp; done) | (simp; omega) | omega)
  have k := k.alloc (by first | (simp; done) | (simp; omega) | omega) (.cells #[.bool G3, .string S3] 24)
  obtain ⟨q13a, q13b, q13c, q13d, q13e⟩ := id A
  obtain ⟨q14a, q14b, q14c, q14d, q14e⟩ := id B
  obtain ⟨q15a, q15b, q15c, q15d, q15e⟩ := id S
  obtain ⟨q16a, q16b, q16c, q16d, q16e⟩ := id X
  obtain ⟨q17a, q17b, q17c, q17d, q17e⟩ := id D
  obtain ⟨q18a, q18b, q18c, q18d, q18e⟩ := id Y
  obtain ⟨q19a, q19b, q19c, q19d, q19e⟩ := id P
  obtain ⟨q20a, q20b, q20c, q20d, q20e⟩ := id Q
  go_wp2_with fail
  refine (awake2 _).mono ?_; rintro e w7 ⟨rfl, b7⟩
  clear q13a q13b q13c q13d q13e q14a q14b q14c q14d q14e q15a q15b q15c q15d q15e q16a q16b q16c q16d q16e q17a q17b q17c q17d q17e q18a q18b q18c q18d q18e q19a q19b q19c q19d q19e q20a q20b q20c q20d q20e
  have A := A.below b7 rfl
  have B := B.below b7 rfl
  have S := S.below b7 rfl
  have X := X.below b7 rfl
  have D := D.below b7 rfl
  have Y := Y.below b7 rfl
  have P := P.below b7 rfl
  have Q := Q.below b7 rfl
  have lA := A.2.2.2.2
  have lB := B.2.2.2.2
  have lS := S.2.2.2.2
  have lX := X.2.2.2.2
  have lD := D.2.2.2.2
  have lY := Y.2.2.2.2
  have lP := P.2.2.2.2
  have lQ := Q.2.2.2.2
  have k := bnextW k b7 (by first | (simp; done) | (simp; omega) | omega)
  have z7 := k.size
  have q21a := S.1
  have q21b := S.2.1
  have q22a := X.1
  have q22b := X.2.1
  have q23a := D.1
  have q23b := D.2.1
  have q24a := Y.1
  have q24b := Y.2.1
  have q25a := P.1
  have q25b := P.2.1
  have q26a := Q.1
  have q26b := Q.2.1
  go_wp2
  go_ret
  exact ⟨rfl, k⟩

set_option maxHeartbeats 4000000 in
set_option maxRecDepth 20000 in
theorem adds_3 (g1 g2 G1 G2 G3 : Bool) (s1 s2 S1 S2 S3 : ByteArray) (w : World) (hf : ∀ j, j < 2 → (if j = 0 then s1 else s2).size ≤ 140) (v1 : Int) (n1 : ¬ v1 = 0) (a1 : 0 ≤ v1) (c1 : v1 ≤ 100) (v2 : Int) (n2 : ¬ v2 = 0) (a2 : 0 ≤ v2) (c2 : v2 ≤ 100)
    (h1 : ∀ w, Calls Try.prog 26 #[.agg #[.bool g1, .string s1], .agg #[.bool g2, .string s2]] w fun e w' => e = .returned (.tuple #[.agg #[.bool false, .string ⟨#[]⟩], .int .i64 v1]) ∧ Below w.heap.size w w')
    (r1 : ∀ w, Calls Try.prog 27 #[.agg #[.bool g1, .string s1], .agg #[.bool g2, .string s2]] w fun e w' => e = .returned (.tuple #[.agg #[.bool false, .string ⟨#[]⟩], .int .i64 v1]) ∧ Below w.heap.size w w')
    (h2 : ∀ w, Calls Try.prog 28 #[.agg #[.bool g1, .string s1], .agg #[.bool g2, .string s2]] w fun e w' => e = .returned (.tuple #[.agg #[.bool false, .string ⟨#[]⟩], .int .i64 v2]) ∧ Below w.heap.size w w')
    (r2 : ∀ w, Calls Try.prog 29 #[.agg #[.bool g1, .string s1], .agg #[.bool g2, .string s2]] w fun e w' => e = .returned (.tuple #[.agg #[.bool false, .string ⟨#[]⟩], .int .i64 v2]) ∧ Below w.heap.size w w')
    (h3 : ∀ w, Calls Try.prog 30 #[.agg #[.bool g1, .string s1], .agg #[.bool g2, .string s2]] w fun e w' => e = .returned (.tuple #[.agg #[.bool G3, .string S3], .int .i64 0]) ∧ Below w.heap.size w w')
    (r3 : ∀ w, Calls Try.prog 31 #[.agg #[.bool g1, .string s1], .agg #[.bool g2, .string s2]] w fun e w' => e = .returned (.tuple #[.agg #[.bool G3, .string S3], .int .i64 0]) ∧ Below w.heap.size w w') :
    Calls Try.prog 4 #[.agg #[.bool g1, .string s1], .agg #[.bool g2, .string s2]] w fun e w' => e = .returned (.bool true) ∧ Below w.heap.size w w' := by
  have HF := Lib.hid hf; clear hf
  have H1 := Lib.hid h1; clear h1
  have H2 := Lib.hid h2; clear h2
  have H3 := Lib.hid h3; clear h3
  have R1 := Lib.hid r1; clear r1
  have R2 := Lib.hid r2; clear r2
  have R3 := Lib.hid r3; clear r3
  have k := Below.refl w.heap.size w
  have A := Two.new w (.bool g1) (.string s1) 24 (w.heap.size) (by first | (simp; done) | (simp; omega) | omega)
  have k := k.alloc (by first | (simp; done) | (simp; omega) | omega) (.cells #[.bool g1, .string s1] 24)
  have A := A.alloc (.cells #[.bool g2, .string s2] 24)
  have B := Two.new (w.alloc (.cells #[.bool g1, .string s1] 24)) (.bool g2) (.string s2) 24 (w.heap.size + 1) (by first | (simp; done) | (simp; omega) | omega)
  have k := k.alloc (by first | (simp; done) | (simp; omega) | omega) (.cells #[.bool g2, .string s2] 24)
  have hst := ints2 ((w.alloc (.cells #[.bool g1, .string s1] 24)).alloc (.cells #[.bool g2, .string s2] 24)) g1 g2 s1 s2 24 (w.heap.size + 1 + 1) (by first | (simp; done) | (simp; omega) | omega)
  have HST := Lib.hid hst; clear hst
  have A := A.alloc (.cells #[.bool g1, .string s1, .bool g2, .string s2] 24)
  have B := B.alloc (.cells #[.bool g1, .string s1, .bool g2, .string s2] 24)
  have k := k.alloc (by first | (simp; done) | (simp; omega) | omega) (.cells #[.bool g1, .string s1, .bool g2, .string s2] 24)
  go_enter Try.func4, Try.ntmps4
  go_wp2_with fail
  refine (long_no _ 2 _ _ (by omega) HST.out HF.out).mono ?_; rintro e wx ⟨rfl, rfl⟩
  have q1a := A.1
  have q1b := A.2.1
  have q2a := B.1
  have q2b := B.2.1
  go_wp2_with fail
  refine (H1.out _).mono ?_; rintro e w1 ⟨rfl, b1⟩
  clear q1a q1b q2a q2b
  have A := A.below b1 rfl
  have B := B.below b1 rfl
  have lA := A.2.2.2.2
  have lB := B.2.2.2.2
  have k := bnextW k b1 (by first | (simp; done) | (simp; omega) | omega)
  have z1 := k.size
  have A := A.alloc (.cells #[.bool false, .string ⟨#[]⟩] 24)
  have B := B.alloc (.cells #[.bool false, .string ⟨#[]⟩] 24)
  have S := Two.new w1 (.bool false) (.string ⟨#[]⟩) 24 (w1.heap.size) (by first | (simp; done) | (simp; omega) | omega)
  have k := k.alloc (by first | (simp; done) | (simp; omega) | omega) (.cells #[.bool false, .string ⟨#[]⟩] 24)
  have q3a := A.1
  have q3b := A.2.1
  have q4a := B.1
  have q4b := B.2.1
  go_wp2_with fail
  refine (R1.out _).mono ?_; rintro e w2 ⟨rfl, b2⟩
  clear q3a q3b q4a q4b
  have A := A.below b2 rfl
  have B := B.below b2 rfl
  have S := S.below b2 rfl
  have lA := A.2.2.2.2
  have lB := B.2.2.2.2
  have lS := S.2.2.2.2
  have k := bnextW k b2 (by first | (simp; done) | (simp; omega) | omega)
  have z2 := k.size
  have A := A.alloc (.cells #[.bool false, .string ⟨#[]⟩] 24)
  have B := B.alloc (.cells #[.bool false, .string ⟨#[]⟩] 24)
  have S := S.alloc (.cells #[.bool false, .string ⟨#[]⟩] 24)
  have X := Two.new w2 (.bool false) (.string ⟨#[]⟩) 24 (w2.heap.size) (by first | (simp; done) | (simp; omega) | omega)
  have k := k.alloc (by first | (simp; done) | (simp; omega) | omega) (.cells #[.bool false, .string ⟨#[]⟩] 24)
  have q5a := A.1
  have q5b := A.2.1
  have q6a := B.1
  have q6b := B.2.1
  go_wp2_with fail
  refine (H2.out _).mono ?_; rintro e w3 ⟨rfl, b3⟩
  clear q5a q5b q6a q6b
  have A := A.below b3 rfl
  have B := B.below b3 rfl
  have S := S.below b3 rfl
  have X := X.below b3 rfl
  have lA := A.2.2.2.2
  have lB := B.2.2.2.2
  have lS := S.2.2.2.2
  have lX := X.2.2.2.2
  have k := bnextW k b3 (by first | (simp; done) | (simp; omega) | omega)
  have z3 := k.size
  have A := A.alloc (.cells #[.bool false, .string ⟨#[]⟩] 24)
  have B := B.alloc (.cells #[.bool false, .string ⟨#[]⟩] 24)
  have S := S.alloc (.cells #[.bool false, .string ⟨#[]⟩] 24)
  have X := X.alloc (.cells #[.bool false, .string ⟨#[]⟩] 24)
  have D := Two.new w3 (.bool false) (.string ⟨#[]⟩) 24 (w3.heap.size) (by first | (simp; done) | (simp; omega) | omega)
  have k := k.alloc (by first | (simp; done) | (simp; omega) | omega) (.cells #[.bool false, .string ⟨#[]⟩] 24)
  have q7a := A.1
  have q7b := A.2.1
  have q8a := B.1
  have q8b := B.2.1
  go_wp2_with fail
  refine (R2.out _).mono ?_; rintro e w4 ⟨rfl, b4⟩
  clear q7a q7b q8a q8b
  have A := A.below b4 rfl
  have B := B.below b4 rfl
  have S := S.below b4 rfl
  have X := X.below b4 rfl
  have D := D.below b4 rfl
  have lA := A.2.2.2.2
  have lB := B.2.2.2.2
  have lS := S.2.2.2.2
  have lX := X.2.2.2.2
  have lD := D.2.2.2.2
  have k := bnextW k b4 (by first | (simp; done) | (simp; omega) | omega)
  have z4 := k.size
  have A := A.alloc (.cells #[.bool false, .string ⟨#[]⟩] 24)
  have B := B.alloc (.cells #[.bool false, .string ⟨#[]⟩] 24)
  have S := S.alloc (.cells #[.bool false, .string ⟨#[]⟩] 24)
  have X := X.alloc (.cells #[.bool false, .string ⟨#[]⟩] 24)
  have D := D.alloc (.cells #[.bool false, .string ⟨#[]⟩] 24)
  have Y := Two.new w4 (.bool false) (.string ⟨#[]⟩) 24 (w4.heap.size) (by first | (simp; done) | (simp; omega) | omega)
  have k := k.alloc (by first | (simp; done) | (simp; omega) | omega) (.cells #[.bool false, .string ⟨#[]⟩] 24)
  have q9a := A.1
  have q9b := A.2.1
  have q10a := B.1
  have q10b := B.2.1
  go_wp2_with fail
  refine (H3.out _).mono ?_; rintro e w5 ⟨rfl, b5⟩
  clear q9a q9b q10a q10b
  have A := A.below b5 rfl
  have B := B.below b5 rfl
  have S := S.below b5 rfl
  have X := X.below b5 rfl
  have D := D.below b5 rfl
  have Y := Y.below b5 rfl
  have lA := A.2.2.2.2
  have lB := B.2.2.2.2
  have lS := S.2.2.2.2
  have lX := X.2.2.2.2
  have lD := D.2.2.2.2
  have lY := Y.2.2.2.2
  have k := bnextW k b5 (by first | (simp; done) | (simp; omega) | omega)
  have z5 := k.size
  have A := A.alloc (.cells #[.bool G3, .string S3] 24)
  have B := B.alloc (.cells #[.bool G3, .string S3] 24)
  have S := S.alloc (.cells #[.bool G3, .string S3] 24)
  have X := X.alloc (.cells #[.bool G3, .string S3] 24)
  have D := D.alloc (.cells #[.bool G3, .string S3] 24)
  have Y := Y.alloc (.cells #[.bool G3, .string S3] 24)
  have P := Two.new w5 (.bool G3) (.string S3) 24 (w5.heap.size) (by first | (simp; done) | (simp; omega) | omega)
  have k := k.alloc (by first | (simp; done) | (simp; omega) | omega) (.cells #[.bool G3, .string S3] 24)
  have q11a := A.1
  have q11b := A.2.1
  have q12a := B.1
  have q12b := B.2.1
  go_wp2_with fail
  refine (R3.out _).mono ?_; rintro e w6 ⟨rfl, b6⟩
  clear q11a q11b q12a q12b
  have A := A.below b6 rfl
  have B := B.below b6 rfl
  have S := S.below b6 rfl
  have X := X.below b6 rfl
  have D := D.below b6 rfl
  have Y := Y.below b6 rfl
  have P := P.below b6 rfl
  have lA := A.2.2.2.2
  have lB := B.2.2.2.2
  have lS := S.2.2.2.2
  have lX := X.2.2.2.2
  have lD := D.2.2.2.2
  have lY := Y.2.2.2.2
  have lP := P.2.2.2.2
  have k := bnextW k b6 (by first | (simp; done) | (simp; omega) | omega)
  have z6 := k.size
  have A := A.alloc (.cells #[.bool G3, .string S3] 24)
  have B := B.alloc (.cells #[.bool G3, .string S3] 24)
  have S := S.alloc (.cells #[.bool G3, .string S3] 24)
  have X := X.alloc (.cells #[.bool G3, .string S3] 24)
  have D := D.alloc (.cells #[.bool G3, .string S3] 24)
  have Y := Y.alloc (.cells #[.bool G3, .string S3] 24)
  have P := P.alloc (.cells #[.bool G3, .string S3] 24)
  have Q := Two.new w6 (.bool G3) (.string S3) 24 (w6.heap.size) (by first | (simp; done) | (simp; omega) | omega)
  have k := k.alloc (by first | (simp; done) | (simp; omega) | omega) (.cells #[.bool G3, .string S3] 24)
  obtain ⟨q13a, q13b, q13c, q13d, q13e⟩ := id A
  obtain ⟨q14a, q14b, q14c, q14d, q14e⟩ := id B
  obtain ⟨q15a, q15b, q15c, q15d, q15e⟩ := id S
  obtain ⟨q16a, q16b, q16c, q16d, q16e⟩ := id X
  obtain ⟨q17a, q17b, q17c, q17d, q17e⟩ := id D
  obtain ⟨q18a, q18b, q18c, q18d, q18e⟩ := id Y
  obtain ⟨q19a, q19b, q19c, q19d, q19e⟩ := id P
  obtain ⟨q20a, q20b, q20c, q20d, q20e⟩ := id Q
  go_wp2_with fail
  refine (awake2 _).mono ?_; rintro e w7 ⟨rfl, b7⟩
  clear q13a q13b q13c q13d q13e q14a q14b q14c q14d q14e q15a q15b q15c q15d q15e q16a q16b q16c q16d q16e q17a q17b q17c q17d q17e q18a q18b q18c q18d q18e q19a q19b q19c q19d q19e q20a q20b q20c q20d q20e
  have A := A.below b7 rfl
  have B := B.below b7 rfl
  have S := S.below b7 rfl
  have X := X.below b7 rfl
  have D := D.below b7 rfl
  have Y := Y.below b7 rfl
  have P := P.below b7 rfl
  have Q := Q.below b7 rfl
  have lA := A.2.2.2.2
  have lB := B.2.2.2.2
  have lS := S.2.2.2.2
  have lX := X.2.2.2.2
  have lD := D.2.2.2.2
  have lY := Y.2.2.2.2
  have lP := P.2.2.2.2
  have lQ := Q.2.2.2.2
  have k := bnextW k b7 (by first | (simp; done) | (simp; omega) | omega)
  have z7 := k.size
  have q21a := S.1
  have q21b := S.2.1
  have q22a := X.1
  have q22b := X.2.1
  have q23a := D.1
  have q23b := D.2.1
  have q24a := Y.1
  have q24b := Y.2.1
  have q25a := P.1
  have q25b := P.2.1
  have q26a := Q.1
  have q26b := Q.2.1
  go_wp2
  go_ret
  exact ⟨rfl, k⟩

set_option maxHeartbeats 4000000 in
set_option maxRecDepth 20000 in
theorem adds_4 (g1 g2 G1 G2 G3 : Bool) (s1 s2 S1 S2 S3 : ByteArray) (w : World) (hf : ∀ j, j < 2 → (if j = 0 then s1 else s2).size ≤ 140) (v3 : Int) (n3 : ¬ v3 = 0) (a3 : 0 ≤ v3) (c3 : v3 ≤ 100)
    (h1 : ∀ w, Calls Try.prog 26 #[.agg #[.bool g1, .string s1], .agg #[.bool g2, .string s2]] w fun e w' => e = .returned (.tuple #[.agg #[.bool G1, .string S1], .int .i64 0]) ∧ Below w.heap.size w w')
    (r1 : ∀ w, Calls Try.prog 27 #[.agg #[.bool g1, .string s1], .agg #[.bool g2, .string s2]] w fun e w' => e = .returned (.tuple #[.agg #[.bool G1, .string S1], .int .i64 0]) ∧ Below w.heap.size w w')
    (h2 : ∀ w, Calls Try.prog 28 #[.agg #[.bool g1, .string s1], .agg #[.bool g2, .string s2]] w fun e w' => e = .returned (.tuple #[.agg #[.bool G2, .string S2], .int .i64 0]) ∧ Below w.heap.size w w')
    (r2 : ∀ w, Calls Try.prog 29 #[.agg #[.bool g1, .string s1], .agg #[.bool g2, .string s2]] w fun e w' => e = .returned (.tuple #[.agg #[.bool G2, .string S2], .int .i64 0]) ∧ Below w.heap.size w w')
    (h3 : ∀ w, Calls Try.prog 30 #[.agg #[.bool g1, .string s1], .agg #[.bool g2, .string s2]] w fun e w' => e = .returned (.tuple #[.agg #[.bool false, .string ⟨#[]⟩], .int .i64 v3]) ∧ Below w.heap.size w w')
    (r3 : ∀ w, Calls Try.prog 31 #[.agg #[.bool g1, .string s1], .agg #[.bool g2, .string s2]] w fun e w' => e = .returned (.tuple #[.agg #[.bool false, .string ⟨#[]⟩], .int .i64 v3]) ∧ Below w.heap.size w w') :
    Calls Try.prog 4 #[.agg #[.bool g1, .string s1], .agg #[.bool g2, .string s2]] w fun e w' => e = .returned (.bool true) ∧ Below w.heap.size w w' := by
  have HF := Lib.hid hf; clear hf
  have H1 := Lib.hid h1; clear h1
  have H2 := Lib.hid h2; clear h2
  have H3 := Lib.hid h3; clear h3
  have R1 := Lib.hid r1; clear r1
  have R2 := Lib.hid r2; clear r2
  have R3 := Lib.hid r3; clear r3
  have k := Below.refl w.heap.size w
  have A := Two.new w (.bool g1) (.string s1) 24 (w.heap.size) (by first | (simp; done) | (simp; omega) | omega)
  have k := k.alloc (by first | (simp; done) | (simp; omega) | omega) (.cells #[.bool g1, .string s1] 24)
  have A := A.alloc (.cells #[.bool g2, .string s2] 24)
  have B := Two.new (w.alloc (.cells #[.bool g1, .string s1] 24)) (.bool g2) (.string s2) 24 (w.heap.size + 1) (by first | (simp; done) | (simp; omega) | omega)
  have k := k.alloc (by first | (simp; done) | (simp; omega) | omega) (.cells #[.bool g2, .string s2] 24)
  have hst := ints2 ((w.alloc (.cells #[.bool g1, .string s1] 24)).alloc (.cells #[.bool g2, .string s2] 24)) g1 g2 s1 s2 24 (w.heap.size + 1 + 1) (by first | (simp; done) | (simp; omega) | omega)
  have HST := Lib.hid hst; clear hst
  have A := A.alloc (.cells #[.bool g1, .string s1, .bool g2, .string s2] 24)
  have B := B.alloc (.cells #[.bool g1, .string s1, .bool g2, .string s2] 24)
  have k := k.alloc (by first | (simp; done) | (simp; omega) | omega) (.cells #[.bool g1, .string s1, .bool g2, .string s2] 24)
  go_enter Try.func4, Try.ntmps4
  go_wp2_with fail
  refine (long_no _ 2 _ _ (by omega) HST.out HF.out).mono ?_; rintro e wx ⟨rfl, rfl⟩
  have q1a := A.1
  have q1b := A.2.1
  have q2a := B.1
  have q2b := B.2.1
  go_wp2_with fail
  refine (H1.out _).mono ?_; rintro e w1 ⟨rfl, b1⟩
  clear q1a q1b q2a q2b
  have A := A.below b1 rfl
  have B := B.below b1 rfl
  have lA := A.2.2.2.2
  have lB := B.2.2.2.2
  have k := bnextW k b1 (by first | (simp; done) | (simp; omega) | omega)
  have z1 := k.size
  have A := A.alloc (.cells #[.bool G1, .string S1] 24)
  have B := B.alloc (.cells #[.bool G1, .string S1] 24)
  have S := Two.new w1 (.bool G1) (.string S1) 24 (w1.heap.size) (by first | (simp; done) | (simp; omega) | omega)
  have k := k.alloc (by first | (simp; done) | (simp; omega) | omega) (.cells #[.bool G1, .string S1] 24)
  have q3a := A.1
  have q3b := A.2.1
  have q4a := B.1
  have q4b := B.2.1
  go_wp2_with fail
  refine (R1.out _).mono ?_; rintro e w2 ⟨rfl, b2⟩
  clear q3a q3b q4a q4b
  have A := A.below b2 rfl
  have B := B.below b2 rfl
  have S := S.below b2 rfl
  have lA := A.2.2.2.2
  have lB := B.2.2.2.2
  have lS := S.2.2.2.2
  have k := bnextW k b2 (by first | (simp; done) | (simp; omega) | omega)
  have z2 := k.size
  have A := A.alloc (.cells #[.bool G1, .string S1] 24)
  have B := B.alloc (.cells #[.bool G1, .string S1] 24)
  have S := S.alloc (.cells #[.bool G1, .string S1] 24)
  have X := Two.new w2 (.bool G1) (.string S1) 24 (w2.heap.size) (by first | (simp; done) | (simp; omega) | omega)
  have k := k.alloc (by first | (simp; done) | (simp; omega) | omega) (.cells #[.bool G1, .string S1] 24)
  have q5a := A.1
  have q5b := A.2.1
  have q6a := B.1
  have q6b := B.2.1
  go_wp2_with fail
  refine (H2.out _).mono ?_; rintro e w3 ⟨rfl, b3⟩
  clear q5a q5b q6a q6b
  have A := A.below b3 rfl
  have B := B.below b3 rfl
  have S := S.below b3 rfl
  have X := X.below b3 rfl
  have lA := A.2.2.2.2
  have lB := B.2.2.2.2
  have lS := S.2.2.2.2
  have lX := X.2.2.2.2
  have k := bnextW k b3 (by first | (simp; done) | (simp; omega) | omega)
  have z3 := k.size
  have A := A.alloc (.cells #[.bool G2, .string S2] 24)
  have B := B.alloc (.cells #[.bool G2, .string S2] 24)
  have S := S.alloc (.cells #[.bool G2, .string S2] 24)
  have X := X.alloc (.cells #[.bool G2, .string S2] 24)
  have D := Two.new w3 (.bool G2) (.string S2) 24 (w3.heap.size) (by first | (simp; done) | (simp; omega) | omega)
  have k := k.alloc (by first | (simp; done) | (simp; omega) | omega) (.cells #[.bool G2, .string S2] 24)
  have q7a := A.1
  have q7b := A.2.1
  have q8a := B.1
  have q8b := B.2.1
  go_wp2_with fail
  refine (R2.out _).mono ?_; rintro e w4 ⟨rfl, b4⟩
  clear q7a q7b q8a q8b
  have A := A.below b4 rfl
  have B := B.below b4 rfl
  have S := S.below b4 rfl
  have X := X.below b4 rfl
  have D := D.below b4 rfl
  have lA := A.2.2.2.2
  have lB := B.2.2.2.2
  have lS := S.2.2.2.2
  have lX := X.2.2.2.2
  have lD := D.2.2.2.2
  have k := bnextW k b4 (by first | (simp; done) | (simp; omega) | omega)
  have z4 := k.size
  have A := A.alloc (.cells #[.bool G2, .string S2] 24)
  have B := B.alloc (.cells #[.bool G2, .string S2] 24)
  have S := S.alloc (.cells #[.bool G2, .string S2] 24)
  have X := X.alloc (.cells #[.bool G2, .string S2] 24)
  have D := D.alloc (.cells #[.bool G2, .string S2] 24)
  have Y := Two.new w4 (.bool G2) (.string S2) 24 (w4.heap.size) (by first | (simp; done) | (simp; omega) | omega)
  have k := k.alloc (by first | (simp; done) | (simp; omega) | omega) (.cells #[.bool G2, .string S2] 24)
  have q9a := A.1
  have q9b := A.2.1
  have q10a := B.1
  have q10b := B.2.1
  go_wp2_with fail
  refine (H3.out _).mono ?_; rintro e w5 ⟨rfl, b5⟩
  clear q9a q9b q10a q10b
  have A := A.below b5 rfl
  have B := B.below b5 rfl
  have S := S.below b5 rfl
  have X := X.below b5 rfl
  have D := D.below b5 rfl
  have Y := Y.below b5 rfl
  have lA := A.2.2.2.2
  have lB := B.2.2.2.2
  have lS := S.2.2.2.2
  have lX := X.2.2.2.2
  have lD := D.2.2.2.2
  have lY := Y.2.2.2.2
  have k := bnextW k b5 (by first | (simp; done) | (simp; omega) | omega)
  have z5 := k.size
  have A := A.alloc (.cells #[.bool false, .string ⟨#[]⟩] 24)
  have B := B.alloc (.cells #[.bool false, .string ⟨#[]⟩] 24)
  have S := S.alloc (.cells #[.bool false, .string ⟨#[]⟩] 24)
  have X := X.alloc (.cells #[.bool false, .string ⟨#[]⟩] 24)
  have D := D.alloc (.cells #[.bool false, .string ⟨#[]⟩] 24)
  have Y := Y.alloc (.cells #[.bool false, .string ⟨#[]⟩] 24)
  have P := Two.new w5 (.bool false) (.string ⟨#[]⟩) 24 (w5.heap.size) (by first | (simp; done) | (simp; omega) | omega)
  have k := k.alloc (by first | (simp; done) | (simp; omega) | omega) (.cells #[.bool false, .string ⟨#[]⟩] 24)
  have q11a := A.1
  have q11b := A.2.1
  have q12a := B.1
  have q12b := B.2.1
  go_wp2_with fail
  refine (R3.out _).mono ?_; rintro e w6 ⟨rfl, b6⟩
  clear q11a q11b q12a q12b
  have A := A.below b6 rfl
  have B := B.below b6 rfl
  have S := S.below b6 rfl
  have X := X.below b6 rfl
  have D := D.below b6 rfl
  have Y := Y.below b6 rfl
  have P := P.below b6 rfl
  have lA := A.2.2.2.2
  have lB := B.2.2.2.2
  have lS := S.2.2.2.2
  have lX := X.2.2.2.2
  have lD := D.2.2.2.2
  have lY := Y.2.2.2.2
  have lP := P.2.2.2.2
  have k := bnextW k b6 (by first | (simp; done) | (simp; omega) | omega)
  have z6 := k.size
  have A := A.alloc (.cells #[.bool false, .string ⟨#[]⟩] 24)
  have B := B.alloc (.cells #[.bool false, .string ⟨#[]⟩] 24)
  have S := S.alloc (.cells #[.bool false, .string ⟨#[]⟩] 24)
  have X := X.alloc (.cells #[.bool false, .string ⟨#[]⟩] 24)
  have D := D.alloc (.cells #[.bool false, .string ⟨#[]⟩] 24)
  have Y := Y.alloc (.cells #[.bool false, .string ⟨#[]⟩] 24)
  have P := P.alloc (.cells #[.bool false, .string ⟨#[]⟩] 24)
  have Q := Two.new w6 (.bool false) (.string ⟨#[]⟩) 24 (w6.heap.size) (by first | (simp; done) | (simp; omega) | omega)
  have k := k.alloc (by first | (simp; done) | (simp; omega) | omega) (.cells #[.bool false, .string ⟨#[]⟩] 24)
  obtain ⟨q13a, q13b, q13c, q13d, q13e⟩ := id A
  obtain ⟨q14a, q14b, q14c, q14d, q14e⟩ := id B
  obtain ⟨q15a, q15b, q15c, q15d, q15e⟩ := id S
  obtain ⟨q16a, q16b, q16c, q16d, q16e⟩ := id X
  obtain ⟨q17a, q17b, q17c, q17d, q17e⟩ := id D
  obtain ⟨q18a, q18b, q18c, q18d, q18e⟩ := id Y
  obtain ⟨q19a, q19b, q19c, q19d, q19e⟩ := id P
  obtain ⟨q20a, q20b, q20c, q20d, q20e⟩ := id Q
  go_wp2_with fail
  refine (awake2 _).mono ?_; rintro e w7 ⟨rfl, b7⟩
  clear q13a q13b q13c q13d q13e q14a q14b q14c q14d q14e q15a q15b q15c q15d q15e q16a q16b q16c q16d q16e q17a q17b q17c q17d q17e q18a q18b q18c q18d q18e q19a q19b q19c q19d q19e q20a q20b q20c q20d q20e
  have A := A.below b7 rfl
  have B := B.below b7 rfl
  have S := S.below b7 rfl
  have X := X.below b7 rfl
  have D := D.below b7 rfl
  have Y := Y.below b7 rfl
  have P := P.below b7 rfl
  have Q := Q.below b7 rfl
  have lA := A.2.2.2.2
  have lB := B.2.2.2.2
  have lS := S.2.2.2.2
  have lX := X.2.2.2.2
  have lD := D.2.2.2.2
  have lY := Y.2.2.2.2
  have lP := P.2.2.2.2
  have lQ := Q.2.2.2.2
  have k := bnextW k b7 (by first | (simp; done) | (simp; omega) | omega)
  have z7 := k.size
  have q21a := S.1
  have q21b := S.2.1
  have q22a := X.1
  have q22b := X.2.1
  have q23a := D.1
  have q23b := D.2.1
  have q24a := Y.1
  have q24b := Y.2.1
  have q25a := P.1
  have q25b := P.2.1
  have q26a := Q.1
  have q26b := Q.2.1
  go_wp2
  go_ret
  exact ⟨rfl, k⟩

set_option maxHeartbeats 4000000 in
set_option maxRecDepth 20000 in
theorem adds_5 (g1 g2 G1 G2 G3 : Bool) (s1 s2 S1 S2 S3 : ByteArray) (w : World) (hf : ∀ j, j < 2 → (if j = 0 then s1 else s2).size ≤ 140) (v1 : Int) (n1 : ¬ v1 = 0) (a1 : 0 ≤ v1) (c1 : v1 ≤ 100) (v3 : Int) (n3 : ¬ v3 = 0) (a3 : 0 ≤ v3) (c3 : v3 ≤ 100)
    (h1 : ∀ w, Calls Try.prog 26 #[.agg #[.bool g1, .string s1], .agg #[.bool g2, .string s2]] w fun e w' => e = .returned (.tuple #[.agg #[.bool false, .string ⟨#[]⟩], .int .i64 v1]) ∧ Below w.heap.size w w')
    (r1 : ∀ w, Calls Try.prog 27 #[.agg #[.bool g1, .string s1], .agg #[.bool g2, .string s2]] w fun e w' => e = .returned (.tuple #[.agg #[.bool false, .string ⟨#[]⟩], .int .i64 v1]) ∧ Below w.heap.size w w')
    (h2 : ∀ w, Calls Try.prog 28 #[.agg #[.bool g1, .string s1], .agg #[.bool g2, .string s2]] w fun e w' => e = .returned (.tuple #[.agg #[.bool G2, .string S2], .int .i64 0]) ∧ Below w.heap.size w w')
    (r2 : ∀ w, Calls Try.prog 29 #[.agg #[.bool g1, .string s1], .agg #[.bool g2, .string s2]] w fun e w' => e = .returned (.tuple #[.agg #[.bool G2, .string S2], .int .i64 0]) ∧ Below w.heap.size w w')
    (h3 : ∀ w, Calls Try.prog 30 #[.agg #[.bool g1, .string s1], .agg #[.bool g2, .string s2]] w fun e w' => e = .returned (.tuple #[.agg #[.bool false, .string ⟨#[]⟩], .int .i64 v3]) ∧ Below w.heap.size w w')
    (r3 : ∀ w, Calls Try.prog 31 #[.agg #[.bool g1, .string s1], .agg #[.bool g2, .string s2]] w fun e w' => e = .returned (.tuple #[.agg #[.bool false, .string ⟨#[]⟩], .int .i64 v3]) ∧ Below w.heap.size w w') :
    Calls Try.prog 4 #[.agg #[.bool g1, .string s1], .agg #[.bool g2, .string s2]] w fun e w' => e = .returned (.bool true) ∧ Below w.heap.size w w' := by
  have HF := Lib.hid hf; clear hf
  have H1 := Lib.hid h1; clear h1
  have H2 := Lib.hid h2; clear h2
  have H3 := Lib.hid h3; clear h3
  have R1 := Lib.hid r1; clear r1
  have R2 := Lib.hid r2; clear r2
  have R3 := Lib.hid r3; clear r3
  have k := Below.refl w.heap.size w
  have A := Two.new w (.bool g1) (.string s1) 24 (w.heap.size) (by first | (simp; done) | (simp; omega) | omega)
  have k := k.alloc (by first | (simp; done) | (simp; omega) | omega) (.cells #[.bool g1, .string s1] 24)
  have A := A.alloc (.cells #[.bool g2, .string s2] 24)
  have B := Two.new (w.alloc (.cells #[.bool g1, .string s1] 24)) (.bool g2) (.string s2) 24 (w.heap.size + 1) (by first | (simp; done) | (simp; omega) | omega)
  have k := k.alloc (by first | (simp; done) | (simp; omega) | omega) (.cells #[.bool g2, .string s2] 24)
  have hst := ints2 ((w.alloc (.cells #[.bool g1, .string s1] 24)).alloc (.cells #[.bool g2, .string s2] 24)) g1 g2 s1 s2 24 (w.heap.size + 1 + 1) (by first | (simp; done) | (simp; omega) | omega)
  have HST := Lib.hid hst; clear hst
  have A := A.alloc (.cells #[.bool g1, .string s1, .bool g2, .string s2] 24)
  have B := B.alloc (.cells #[.bool g1, .string s1, .bool g2, .string s2] 24)
  have k := k.alloc (by first | (simp; done) | (simp; omega) | omega) (.cells #[.bool g1, .string s1, .bool g2, .string s2] 24)
  go_enter Try.func4, Try.ntmps4
  go_wp2_with fail
  refine (long_no _ 2 _ _ (by omega) HST.out HF.out).mono ?_; rintro e wx ⟨rfl, rfl⟩
  have q1a := A.1
  have q1b := A.2.1
  have q2a := B.1
  have q2b := B.2.1
  go_wp2_with fail
  refine (H1.out _).mono ?_; rintro e w1 ⟨rfl, b1⟩
  clear q1a q1b q2a q2b
  have A := A.below b1 rfl
  have B := B.below b1 rfl
  have lA := A.2.2.2.2
  have lB := B.2.2.2.2
  have k := bnextW k b1 (by first | (simp; done) | (simp; omega) | omega)
  have z1 := k.size
  have A := A.alloc (.cells #[.bool false, .string ⟨#[]⟩] 24)
  have B := B.alloc (.cells #[.bool false, .string ⟨#[]⟩] 24)
  have S := Two.new w1 (.bool false) (.string ⟨#[]⟩) 24 (w1.heap.size) (by first | (simp; done) | (simp; omega) | omega)
  have k := k.alloc (by first | (simp; done) | (simp; omega) | omega) (.cells #[.bool false, .string ⟨#[]⟩] 24)
  have q3a := A.1
  have q3b := A.2.1
  have q4a := B.1
  have q4b := B.2.1
  go_wp2_with fail
  refine (R1.out _).mono ?_; rintro e w2 ⟨rfl, b2⟩
  clear q3a q3b q4a q4b
  have A := A.below b2 rfl
  have B := B.below b2 rfl
  have S := S.below b2 rfl
  have lA := A.2.2.2.2
  have lB := B.2.2.2.2
  have lS := S.2.2.2.2
  have k := bnextW k b2 (by first | (simp; done) | (simp; omega) | omega)
  have z2 := k.size
  have A := A.alloc (.cells #[.bool false, .string ⟨#[]⟩] 24)
  have B := B.alloc (.cells #[.bool false, .string ⟨#[]⟩] 24)
  have S := S.alloc (.cells #[.bool false, .string ⟨#[]⟩] 24)
  have X := Two.new w2 (.bool false) (.string ⟨#[]⟩) 24 (w2.heap.size) (by first | (simp; done) | (simp; omega) | omega)
  have k := k.alloc (by first | (simp; done) | (simp; omega) | omega) (.cells #[.bool false, .string ⟨#[]⟩] 24)
  have q5a := A.1
  have q5b := A.2.1
  have q6a := B.1
  have q6b := B.2.1
  go_wp2_with fail
  refine (H2.out _).mono ?_; rintro e w3 ⟨rfl, b3⟩
  clear q5a q5b q6a q6b
  have A := A.below b3 rfl
  have B := B.below b3 rfl
  have S := S.below b3 rfl
  have X := X.below b3 rfl
  have lA := A.2.2.2.2
  have lB := B.2.2.2.2
  have lS := S.2.2.2.2
  have lX := X.2.2.2.2
  have k := bnextW k b3 (by first | (simp; done) | (simp; omega) | omega)
  have z3 := k.size
  have A := A.alloc (.cells #[.bool G2, .string S2] 24)
  have B := B.alloc (.cells #[.bool G2, .string S2] 24)
  have S := S.alloc (.cells #[.bool G2, .string S2] 24)
  have X := X.alloc (.cells #[.bool G2, .string S2] 24)
  have D := Two.new w3 (.bool G2) (.string S2) 24 (w3.heap.size) (by first | (simp; done) | (simp; omega) | omega)
  have k := k.alloc (by first | (simp; done) | (simp; omega) | omega) (.cells #[.bool G2, .string S2] 24)
  have q7a := A.1
  have q7b := A.2.1
  have q8a := B.1
  have q8b := B.2.1
  go_wp2_with fail
  refine (R2.out _).mono ?_; rintro e w4 ⟨rfl, b4⟩
  clear q7a q7b q8a q8b
  have A := A.below b4 rfl
  have B := B.below b4 rfl
  have S := S.below b4 rfl
  have X := X.below b4 rfl
  have D := D.below b4 rfl
  have lA := A.2.2.2.2
  have lB := B.2.2.2.2
  have lS := S.2.2.2.2
  have lX := X.2.2.2.2
  have lD := D.2.2.2.2
  have k := bnextW k b4 (by first | (simp; done) | (simp; omega) | omega)
  have z4 := k.size
  have A := A.alloc (.cells #[.bool G2, .string S2] 24)
  have B := B.alloc (.cells #[.bool G2, .string S2] 24)
  have S := S.alloc (.cells #[.bool G2, .string S2] 24)
  have X := X.alloc (.cells #[.bool G2, .string S2] 24)
  have D := D.alloc (.cells #[.bool G2, .string S2] 24)
  have Y := Two.new w4 (.bool G2) (.string S2) 24 (w4.heap.size) (by first | (simp; done) | (simp; omega) | omega)
  have k := k.alloc (by first | (simp; done) | (simp; omega) | omega) (.cells #[.bool G2, .string S2] 24)
  have q9a := A.1
  have q9b := A.2.1
  have q10a := B.1
  have q10b := B.2.1
  go_wp2_with fail
  refine (H3.out _).mono ?_; rintro e w5 ⟨rfl, b5⟩
  clear q9a q9b q10a q10b
  have A := A.below b5 rfl
  have B := B.below b5 rfl
  have S := S.below b5 rfl
  have X := X.below b5 rfl
  have D := D.below b5 rfl
  have Y := Y.below b5 rfl
  have lA := A.2.2.2.2
  have lB := B.2.2.2.2
  have lS := S.2.2.2.2
  have lX := X.2.2.2.2
  have lD := D.2.2.2.2
  have lY := Y.2.2.2.2
  have k := bnextW k b5 (by first | (simp; done) | (simp; omega) | omega)
  have z5 := k.size
  have A := A.alloc (.cells #[.bool false, .string ⟨#[]⟩] 24)
  have B := B.alloc (.cells #[.bool false, .string ⟨#[]⟩] 24)
  have S := S.alloc (.cells #[.bool false, .string ⟨#[]⟩] 24)
  have X := X.alloc (.cells #[.bool false, .string ⟨#[]⟩] 24)
  have D := D.alloc (.cells #[.bool false, .string ⟨#[]⟩] 24)
  have Y := Y.alloc (.cells #[.bool false, .string ⟨#[]⟩] 24)
  have P := Two.new w5 (.bool false) (.string ⟨#[]⟩) 24 (w5.heap.size) (by first | (simp; done) | (simp; omega) | omega)
  have k := k.alloc (by first | (simp; done) | (simp; omega) | omega) (.cells #[.bool false, .string ⟨#[]⟩] 24)
  have q11a := A.1
  have q11b := A.2.1
  have q12a := B.1
  have q12b := B.2.1
  go_wp2_with fail
  refine (R3.out _).mono ?_; rintro e w6 ⟨rfl, b6⟩
  clear q11a q11b q12a q12b
  have A := A.below b6 rfl
  have B := B.below b6 rfl
  have S := S.below b6 rfl
  have X := X.below b6 rfl
  have D := D.below b6 rfl
  have Y := Y.below b6 rfl
  have P := P.below b6 rfl
  have lA := A.2.2.2.2
  have lB := B.2.2.2.2
  have lS := S.2.2.2.2
  have lX := X.2.2.2.2
  have lD := D.2.2.2.2
  have lY := Y.2.2.2.2
  have lP := P.2.2.2.2
  have k := bnextW k b6 (by first | (simp; done) | (simp; omega) | omega)
  have z6 := k.size
  have A := A.alloc (.cells #[.bool false, .string ⟨#[]⟩] 24)
  have B := B.alloc (.cells #[.bool false, .string ⟨#[]⟩] 24)
  have S := S.alloc (.cells #[.bool false, .string ⟨#[]⟩] 24)
  have X := X.alloc (.cells #[.bool false, .string ⟨#[]⟩] 24)
  have D := D.alloc (.cells #[.bool false, .string ⟨#[]⟩] 24)
  have Y := Y.alloc (.cells #[.bool false, .string ⟨#[]⟩] 24)
  have P := P.alloc (.cells #[.bool false, .string ⟨#[]⟩] 24)
  have Q := Two.new w6 (.bool false) (.string ⟨#[]⟩) 24 (w6.heap.size) (by first | (simp; done) | (simp; omega) | omega)
  have k := k.alloc (by first | (simp; done) | (simp; omega) | omega) (.cells #[.bool false, .string ⟨#[]⟩] 24)
  obtain ⟨q13a, q13b, q13c, q13d, q13e⟩ := id A
  obtain ⟨q14a, q14b, q14c, q14d, q14e⟩ := id B
  obtain ⟨q15a, q15b, q15c, q15d, q15e⟩ := id S
  obtain ⟨q16a, q16b, q16c, q16d, q16e⟩ := id X
  obtain ⟨q17a, q17b, q17c, q17d, q17e⟩ := id D
  obtain ⟨q18a, q18b, q18c, q18d, q18e⟩ := id Y
  obtain ⟨q19a, q19b, q19c, q19d, q19e⟩ := id P
  obtain ⟨q20a, q20b, q20c, q20d, q20e⟩ := id Q
  go_wp2_with fail
  refine (awake2 _).mono ?_; rintro e w7 ⟨rfl, b7⟩
  clear q13a q13b q13c q13d q13e q14a q14b q14c q14d q14e q15a q15b q15c q15d q15e q16a q16b q16c q16d q16e q17a q17b q17c q17d q17e q18a q18b q18c q18d q18e q19a q19b q19c q19d q19e q20a q20b q20c q20d q20e
  have A := A.below b7 rfl
  have B := B.below b7 rfl
  have S := S.below b7 rfl
  have X := X.below b7 rfl
  have D := D.below b7 rfl
  have Y := Y.below b7 rfl
  have P := P.below b7 rfl
  have Q := Q.below b7 rfl
  have lA := A.2.2.2.2
  have lB := B.2.2.2.2
  have lS := S.2.2.2.2
  have lX := X.2.2.2.2
  have lD := D.2.2.2.2
  have lY := Y.2.2.2.2
  have lP := P.2.2.2.2
  have lQ := Q.2.2.2.2
  have k := bnextW k b7 (by first | (simp; done) | (simp; omega) | omega)
  have z7 := k.size
  have q21a := S.1
  have q21b := S.2.1
  have q22a := X.1
  have q22b := X.2.1
  have q23a := D.1
  have q23b := D.2.1
  have q24a := Y.1
  have q24b := Y.2.1
  have q25a := P.1
  have q25b := P.2.1
  have q26a := Q.1
  have q26b := Q.2.1
  go_wp2
  go_ret
  exact ⟨rfl, k⟩

set_option maxHeartbeats 4000000 in
set_option maxRecDepth 20000 in
theorem adds_6 (g1 g2 G1 G2 G3 : Bool) (s1 s2 S1 S2 S3 : ByteArray) (w : World) (hf : ∀ j, j < 2 → (if j = 0 then s1 else s2).size ≤ 140) (v2 : Int) (n2 : ¬ v2 = 0) (a2 : 0 ≤ v2) (c2 : v2 ≤ 100) (v3 : Int) (n3 : ¬ v3 = 0) (a3 : 0 ≤ v3) (c3 : v3 ≤ 100)
    (h1 : ∀ w, Calls Try.prog 26 #[.agg #[.bool g1, .string s1], .agg #[.bool g2, .string s2]] w fun e w' => e = .returned (.tuple #[.agg #[.bool G1, .string S1], .int .i64 0]) ∧ Below w.heap.size w w')
    (r1 : ∀ w, Calls Try.prog 27 #[.agg #[.bool g1, .string s1], .agg #[.bool g2, .string s2]] w fun e w' => e = .returned (.tuple #[.agg #[.bool G1, .string S1], .int .i64 0]) ∧ Below w.heap.size w w')
    (h2 : ∀ w, Calls Try.prog 28 #[.agg #[.bool g1, .string s1], .agg #[.bool g2, .string s2]] w fun e w' => e = .returned (.tuple #[.agg #[.bool false, .string ⟨#[]⟩], .int .i64 v2]) ∧ Below w.heap.size w w')
    (r2 : ∀ w, Calls Try.prog 29 #[.agg #[.bool g1, .string s1], .agg #[.bool g2, .string s2]] w fun e w' => e = .returned (.tuple #[.agg #[.bool false, .string ⟨#[]⟩], .int .i64 v2]) ∧ Below w.heap.size w w')
    (h3 : ∀ w, Calls Try.prog 30 #[.agg #[.bool g1, .string s1], .agg #[.bool g2, .string s2]] w fun e w' => e = .returned (.tuple #[.agg #[.bool false, .string ⟨#[]⟩], .int .i64 v3]) ∧ Below w.heap.size w w')
    (r3 : ∀ w, Calls Try.prog 31 #[.agg #[.bool g1, .string s1], .agg #[.bool g2, .string s2]] w fun e w' => e = .returned (.tuple #[.agg #[.bool false, .string ⟨#[]⟩], .int .i64 v3]) ∧ Below w.heap.size w w') :
    Calls Try.prog 4 #[.agg #[.bool g1, .string s1], .agg #[.bool g2, .string s2]] w fun e w' => e = .returned (.bool true) ∧ Below w.heap.size w w' := by
  have HF := Lib.hid hf; clear hf
  have H1 := Lib.hid h1; clear h1
  have H2 := Lib.hid h2; clear h2
  have H3 := Lib.hid h3; clear h3
  have R1 := Lib.hid r1; clear r1
  have R2 := Lib.hid r2; clear r2
  have R3 := Lib.hid r3; clear r3
  have k := Below.refl w.heap.size w
  have A := Two.new w (.bool g1) (.string s1) 24 (w.heap.size) (by first | (simp; done) | (simp; omega) | omega)
  have k := k.alloc (by first | (simp; done) | (simp; omega) | omega) (.cells #[.bool g1, .string s1] 24)
  have A := A.alloc (.cells #[.bool g2, .string s2] 24)
  have B := Two.new (w.alloc (.cells #[.bool g1, .string s1] 24)) (.bool g2) (.string s2) 24 (w.heap.size + 1) (by first | (simp; done) | (simp; omega) | omega)
  have k := k.alloc (by first | (simp; done) | (simp; omega) | omega) (.cells #[.bool g2, .string s2] 24)
  have hst := ints2 ((w.alloc (.cells #[.bool g1, .string s1] 24)).alloc (.cells #[.bool g2, .string s2] 24)) g1 g2 s1 s2 24 (w.heap.size + 1 + 1) (by first | (simp; done) | (simp; omega) | omega)
  have HST := Lib.hid hst; clear hst
  have A := A.alloc (.cells #[.bool g1, .string s1, .bool g2, .string s2] 24)
  have B := B.alloc (.cells #[.bool g1, .string s1, .bool g2, .string s2] 24)
  have k := k.alloc (by first | (simp; done) | (simp; omega) | omega) (.cells #[.bool g1, .string s1, .bool g2, .string s2] 24)
  go_enter Try.func4, Try.ntmps4
  go_wp2_with fail
  refine (long_no _ 2 _ _ (by omega) HST.out HF.out).mono ?_; rintro e wx ⟨rfl, rfl⟩
  have q1a := A.1
  have q1b := A.2.1
  have q2a := B.1
  have q2b := B.2.1
  go_wp2_with fail
  refine (H1.out _).mono ?_; rintro e w1 ⟨rfl, b1⟩
  clear q1a q1b q2a q2b
  have A := A.below b1 rfl
  have B := B.below b1 rfl
  have lA := A.2.2.2.2
  have lB := B.2.2.2.2
  have k := bnextW k b1 (by first | (simp; done) | (simp; omega) | omega)
  have z1 := k.size
  have A := A.alloc (.cells #[.bool G1, .string S1] 24)
  have B := B.alloc (.cells #[.bool G1, .string S1] 24)
  have S := Two.new w1 (.bool G1) (.string S1) 24 (w1.heap.size) (by first | (simp; done) | (simp; omega) | omega)
  have k := k.alloc (by first | (simp; done) | (simp; omega) | omega) (.cells #[.bool G1, .string S1] 24)
  have q3a := A.1
  have q3b := A.2.1
  have q4a := B.1
  have q4b := B.2.1
  go_wp2_with fail
  refine (R1.out _).mono ?_; rintro e w2 ⟨rfl, b2⟩
  clear q3a q3b q4a q4b
  have A := A.below b2 rfl
  have B := B.below b2 rfl
  have S := S.below b2 rfl
  have lA := A.2.2.2.2
  have lB := B.2.2.2.2
  have lS := S.2.2.2.2
  have k := bnextW k b2 (by first | (simp; done) | (simp; omega) | omega)
  have z2 := k.size
  have A := A.alloc (.cells #[.bool G1, .string S1] 24)
  have B := B.alloc (.cells #[.bool G1, .string S1] 24)
  have S := S.alloc (.cells #[.bool G1, .string S1] 24)
  have X := Two.new w2 (.bool G1) (.string S1) 24 (w2.heap.size) (by first | (simp; done) | (simp; omega) | omega)
  have k := k.alloc (by first | (simp; done) | (simp; omega) | omega) (.cells #[.bool G1, .string S1] 24)
  have q5a := A.1
  have q5b := A.2.1
  have q6a := B.1
  have q6b := B.2.1
  go_wp2_with fail
  refine (H2.out _).mono ?_; rintro e w3 ⟨rfl, b3⟩
  clear q5a q5b q6a q6b
  have A := A.below b3 rfl
  have B := B.below b3 rfl
  have S := S.below b3 rfl
  have X := X.below b3 rfl
  have lA := A.2.2.2.2
  have lB := B.2.2.2.2
  have lS := S.2.2.2.2
  have lX := X.2.2.2.2
  have k := bnextW k b3 (by first | (simp; done) | (simp; omega) | omega)
  have z3 := k.size
  have A := A.alloc (.cells #[.bool false, .string ⟨#[]⟩] 24)
  have B := B.alloc (.cells #[.bool false, .string ⟨#[]⟩] 24)
  have S := S.alloc (.cells #[.bool false, .string ⟨#[]⟩] 24)
  have X := X.alloc (.cells #[.bool false, .string ⟨#[]⟩] 24)
  have D := Two.new w3 (.bool false) (.string ⟨#[]⟩) 24 (w3.heap.size) (by first | (simp; done) | (simp; omega) | omega)
  have k := k.alloc (by first | (simp; done) | (simp; omega) | omega) (.cells #[.bool false, .string ⟨#[]⟩] 24)
  have q7a := A.1
  have q7b := A.2.1
  have q8a := B.1
  have q8b := B.2.1
  go_wp2_with fail
  refine (R2.out _).mono ?_; rintro e w4 ⟨rfl, b4⟩
  clear q7a q7b q8a q8b
  have A := A.below b4 rfl
  have B := B.below b4 rfl
  have S := S.below b4 rfl
  have X := X.below b4 rfl
  have D := D.below b4 rfl
  have lA := A.2.2.2.2
  have lB := B.2.2.2.2
  have lS := S.2.2.2.2
  have lX := X.2.2.2.2
  have lD := D.2.2.2.2
  have k := bnextW k b4 (by first | (simp; done) | (simp; omega) | omega)
  have z4 := k.size
  have A := A.alloc (.cells #[.bool false, .string ⟨#[]⟩] 24)
  have B := B.alloc (.cells #[.bool false, .string ⟨#[]⟩] 24)
  have S := S.alloc (.cells #[.bool false, .string ⟨#[]⟩] 24)
  have X := X.alloc (.cells #[.bool false, .string ⟨#[]⟩] 24)
  have D := D.alloc (.cells #[.bool false, .string ⟨#[]⟩] 24)
  have Y := Two.new w4 (.bool false) (.string ⟨#[]⟩) 24 (w4.heap.size) (by first | (simp; done) | (simp; omega) | omega)
  have k := k.alloc (by first | (simp; done) | (simp; omega) | omega) (.cells #[.bool false, .string ⟨#[]⟩] 24)
  have q9a := A.1
  have q9b := A.2.1
  have q10a := B.1
  have q10b := B.2.1
  go_wp2_with fail
  refine (H3.out _).mono ?_; rintro e w5 ⟨rfl, b5⟩
  clear q9a q9b q10a q10b
  have A := A.below b5 rfl
  have B := B.below b5 rfl
  have S := S.below b5 rfl
  have X := X.below b5 rfl
  have D := D.below b5 rfl
  have Y := Y.below b5 rfl
  have lA := A.2.2.2.2
  have lB := B.2.2.2.2
  have lS := S.2.2.2.2
  have lX := X.2.2.2.2
  have lD := D.2.2.2.2
  have lY := Y.2.2.2.2
  have k := bnextW k b5 (by first | (simp; done) | (simp; omega) | omega)
  have z5 := k.size
  have A := A.alloc (.cells #[.bool false, .string ⟨#[]⟩] 24)
  have B := B.alloc (.cells #[.bool false, .string ⟨#[]⟩] 24)
  have S := S.alloc (.cells #[.bool false, .string ⟨#[]⟩] 24)
  have X := X.alloc (.cells #[.bool false, .string ⟨#[]⟩] 24)
  have D := D.alloc (.cells #[.bool false, .string ⟨#[]⟩] 24)
  have Y := Y.alloc (.cells #[.bool false, .string ⟨#[]⟩] 24)
  have P := Two.new w5 (.bool false) (.string ⟨#[]⟩) 24 (w5.heap.size) (by first | (simp; done) | (simp; omega) | omega)
  have k := k.alloc (by first | (simp; done) | (simp; omega) | omega) (.cells #[.bool false, .string ⟨#[]⟩] 24)
  have q11a := A.1
  have q11b := A.2.1
  have q12a := B.1
  have q12b := B.2.1
  go_wp2_with fail
  refine (R3.out _).mono ?_; rintro e w6 ⟨rfl, b6⟩
  clear q11a q11b q12a q12b
  have A := A.below b6 rfl
  have B := B.below b6 rfl
  have S := S.below b6 rfl
  have X := X.below b6 rfl
  have D := D.below b6 rfl
  have Y := Y.below b6 rfl
  have P := P.below b6 rfl
  have lA := A.2.2.2.2
  have lB := B.2.2.2.2
  have lS := S.2.2.2.2
  have lX := X.2.2.2.2
  have lD := D.2.2.2.2
  have lY := Y.2.2.2.2
  have lP := P.2.2.2.2
  have k := bnextW k b6 (by first | (simp; done) | (simp; omega) | omega)
  have z6 := k.size
  have A := A.alloc (.cells #[.bool false, .string ⟨#[]⟩] 24)
  have B := B.alloc (.cells #[.bool false, .string ⟨#[]⟩] 24)
  have S := S.alloc (.cells #[.bool false, .string ⟨#[]⟩] 24)
  have X := X.alloc (.cells #[.bool false, .string ⟨#[]⟩] 24)
  have D := D.alloc (.cells #[.bool false, .string ⟨#[]⟩] 24)
  have Y := Y.alloc (.cells #[.bool false, .string ⟨#[]⟩] 24)
  have P := P.alloc (.cells #[.bool false, .string ⟨#[]⟩] 24)
  have Q := Two.new w6 (.bool false) (.string ⟨#[]⟩) 24 (w6.heap.size) (by first | (simp; done) | (simp; omega) | omega)
  have k := k.alloc (by first | (simp; done) | (simp; omega) | omega) (.cells #[.bool false, .string ⟨#[]⟩] 24)
  obtain ⟨q13a, q13b, q13c, q13d, q13e⟩ := id A
  obtain ⟨q14a, q14b, q14c, q14d, q14e⟩ := id B
  obtain ⟨q15a, q15b, q15c, q15d, q15e⟩ := id S
  obtain ⟨q16a, q16b, q16c, q16d, q16e⟩ := id X
  obtain ⟨q17a, q17b, q17c, q17d, q17e⟩ := id D
  obtain ⟨q18a, q18b, q18c, q18d, q18e⟩ := id Y
  obtain ⟨q19a, q19b, q19c, q19d, q19e⟩ := id P
  obtain ⟨q20a, q20b, q20c, q20d, q20e⟩ := id Q
  go_wp2_with fail
  refine (awake2 _).mono ?_; rintro e w7 ⟨rfl, b7⟩
  clear q13a q13b q13c q13d q13e q14a q14b q14c q14d q14e q15a q15b q15c q15d q15e q16a q16b q16c q16d q16e q17a q17b q17c q17d q17e q18a q18b q18c q18d q18e q19a q19b q19c q19d q19e q20a q20b q20c q20d q20e
  have A := A.below b7 rfl
  have B := B.below b7 rfl
  have S := S.below b7 rfl
  have X := X.below b7 rfl
  have D := D.below b7 rfl
  have Y := Y.below b7 rfl
  have P := P.below b7 rfl
  have Q := Q.below b7 rfl
  have lA := A.2.2.2.2
  have lB := B.2.2.2.2
  have lS := S.2.2.2.2
  have lX := X.2.2.2.2
  have lD := D.2.2.2.2
  have lY := Y.2.2.2.2
  have lP := P.2.2.2.2
  have lQ := Q.2.2.2.2
  have k := bnextW k b7 (by first | (simp; done) | (simp; omega) | omega)
  have z7 := k.size
  have q21a := S.1
  have q21b := S.2.1
  have q22a := X.1
  have q22b := X.2.1
  have q23a := D.1
  have q23b := D.2.1
  have q24a := Y.1
  have q24b := Y.2.1
  have q25a := P.1
  have q25b := P.2.1
  have q26a := Q.1
  have q26b := Q.2.1
  go_wp2
  go_ret
  exact ⟨rfl, k⟩

set_option maxHeartbeats 4000000 in
set_option maxRecDepth 20000 in
theorem adds_7 (g1 g2 G1 G2 G3 : Bool) (s1 s2 S1 S2 S3 : ByteArray) (w : World) (hf : ∀ j, j < 2 → (if j = 0 then s1 else s2).size ≤ 140) (v1 : Int) (n1 : ¬ v1 = 0) (a1 : 0 ≤ v1) (c1 : v1 ≤ 100) (v2 : Int) (n2 : ¬ v2 = 0) (a2 : 0 ≤ v2) (c2 : v2 ≤ 100) (v3 : Int) (n3 : ¬ v3 = 0) (a3 : 0 ≤ v3) (c3 : v3 ≤ 100)
    (h1 : ∀ w, Calls Try.prog 26 #[.agg #[.bool g1, .string s1], .agg #[.bool g2, .string s2]] w fun e w' => e = .returned (.tuple #[.agg #[.bool false, .string ⟨#[]⟩], .int .i64 v1]) ∧ Below w.heap.size w w')
    (r1 : ∀ w, Calls Try.prog 27 #[.agg #[.bool g1, .string s1], .agg #[.bool g2, .string s2]] w fun e w' => e = .returned (.tuple #[.agg #[.bool false, .string ⟨#[]⟩], .int .i64 v1]) ∧ Below w.heap.size w w')
    (h2 : ∀ w, Calls Try.prog 28 #[.agg #[.bool g1, .string s1], .agg #[.bool g2, .string s2]] w fun e w' => e = .returned (.tuple #[.agg #[.bool false, .string ⟨#[]⟩], .int .i64 v2]) ∧ Below w.heap.size w w')
    (r2 : ∀ w, Calls Try.prog 29 #[.agg #[.bool g1, .string s1], .agg #[.bool g2, .string s2]] w fun e w' => e = .returned (.tuple #[.agg #[.bool false, .string ⟨#[]⟩], .int .i64 v2]) ∧ Below w.heap.size w w')
    (h3 : ∀ w, Calls Try.prog 30 #[.agg #[.bool g1, .string s1], .agg #[.bool g2, .string s2]] w fun e w' => e = .returned (.tuple #[.agg #[.bool false, .string ⟨#[]⟩], .int .i64 v3]) ∧ Below w.heap.size w w')
    (r3 : ∀ w, Calls Try.prog 31 #[.agg #[.bool g1, .string s1], .agg #[.bool g2, .string s2]] w fun e w' => e = .returned (.tuple #[.agg #[.bool false, .string ⟨#[]⟩], .int .i64 v3]) ∧ Below w.heap.size w w') :
    Calls Try.prog 4 #[.agg #[.bool g1, .string s1], .agg #[.bool g2, .string s2]] w fun e w' => e = .returned (.bool true) ∧ Below w.heap.size w w' := by
  have HF := Lib.hid hf; clear hf
  have H1 := Lib.hid h1; clear h1
  have H2 := Lib.hid h2; clear h2
  have H3 := Lib.hid h3; clear h3
  have R1 := Lib.hid r1; clear r1
  have R2 := Lib.hid r2; clear r2
  have R3 := Lib.hid r3; clear r3
  have k := Below.refl w.heap.size w
  have A := Two.new w (.bool g1) (.string s1) 24 (w.heap.size) (by first | (simp; done) | (simp; omega) | omega)
  have k := k.alloc (by first | (simp; done) | (simp; omega) | omega) (.cells #[.bool g1, .string s1] 24)
  have A := A.alloc (.cells #[.bool g2, .string s2] 24)
  have B := Two.new (w.alloc (.cells #[.bool g1, .string s1] 24)) (.bool g2) (.string s2) 24 (w.heap.size + 1) (by first | (simp; done) | (simp; omega) | omega)
  have k := k.alloc (by first | (simp; done) | (simp; omega) | omega) (.cells #[.bool g2, .string s2] 24)
  have hst := ints2 ((w.alloc (.cells #[.bool g1, .string s1] 24)).alloc (.cells #[.bool g2, .string s2] 24)) g1 g2 s1 s2 24 (w.heap.size + 1 + 1) (by first | (simp; done) | (simp; omega) | omega)
  have HST := Lib.hid hst; clear hst
  have A := A.alloc (.cells #[.bool g1, .string s1, .bool g2, .string s2] 24)
  have B := B.alloc (.cells #[.bool g1, .string s1, .bool g2, .string s2] 24)
  have k := k.alloc (by first | (simp; done) | (simp; omega) | omega) (.cells #[.bool g1, .string s1, .bool g2, .string s2] 24)
  go_enter Try.func4, Try.ntmps4
  go_wp2_with fail
  refine (long_no _ 2 _ _ (by omega) HST.out HF.out).mono ?_; rintro e wx ⟨rfl, rfl⟩
  have q1a := A.1
  have q1b := A.2.1
  have q2a := B.1
  have q2b := B.2.1
  go_wp2_with fail
  refine (H1.out _).mono ?_; rintro e w1 ⟨rfl, b1⟩
  clear q1a q1b q2a q2b
  have A := A.below b1 rfl
  have B := B.below b1 rfl
  have lA := A.2.2.2.2
  have lB := B.2.2.2.2
  have k := bnextW k b1 (by first | (simp; done) | (simp; omega) | omega)
  have z1 := k.size
  have A := A.alloc (.cells #[.bool false, .string ⟨#[]⟩] 24)
  have B := B.alloc (.cells #[.bool false, .string ⟨#[]⟩] 24)
  have S := Two.new w1 (.bool false) (.string ⟨#[]⟩) 24 (w1.heap.size) (by first | (simp; done) | (simp; omega) | omega)
  have k := k.alloc (by first | (simp; done) | (simp; omega) | omega) (.cells #[.bool false, .string ⟨#[]⟩] 24)
  have q3a := A.1
  have q3b := A.2.1
  have q4a := B.1
  have q4b := B.2.1
  go_wp2_with fail
  refine (R1.out _).mono ?_; rintro e w2 ⟨rfl, b2⟩
  clear q3a q3b q4a q4b
  have A := A.below b2 rfl
  have B := B.below b2 rfl
  have S := S.below b2 rfl
  have lA := A.2.2.2.2
  have lB := B.2.2.2.2
  have lS := S.2.2.2.2
  have k := bnextW k b2 (by first | (simp; done) | (simp; omega) | omega)
  have z2 := k.size
  have A := A.alloc (.cells #[.bool false, .string ⟨#[]⟩] 24)
  have B := B.alloc (.cells #[.bool false, .string ⟨#[]⟩] 24)
  have S := S.alloc (.cells #[.bool false, .string ⟨#[]⟩] 24)
  have X := Two.new w2 (.bool false) (.string ⟨#[]⟩) 24 (w2.heap.size) (by first | (simp; done) | (simp; omega) | omega)
  have k := k.alloc (by first | (simp; done) | (simp; omega) | omega) (.cells #[.bool false, .string ⟨#[]⟩] 24)
  have q5a := A.1
  have q5b := A.2.1
  have q6a := B.1
  have q6b := B.2.1
  go_wp2_with fail
  refine (H2.out _).mono ?_; rintro e w3 ⟨rfl, b3⟩
  clear q5a q5b q6a q6b
  have A := A.below b3 rfl
  have B := B.below b3 rfl
  have S := S.below b3 rfl
  have X := X.below b3 rfl
  have lA := A.2.2.2.2
  have lB := B.2.2.2.2
  have lS := S.2.2.2.2
  have lX := X.2.2.2.2
  have k := bnextW k b3 (by first | (simp; done) | (simp; omega) | omega)
  have z3 := k.size
  have A := A.alloc (.cells #[.bool false, .string ⟨#[]⟩] 24)
  have B := B.alloc (.cells #[.bool false, .string ⟨#[]⟩] 24)
  have S := S.alloc (.cells #[.bool false, .string ⟨#[]⟩] 24)
  have X := X.alloc (.cells #[.bool false, .string ⟨#[]⟩] 24)
  have D := Two.new w3 (.bool false) (.string ⟨#[]⟩) 24 (w3.heap.size) (by first | (simp; done) | (simp; omega) | omega)
  have k := k.alloc (by first | (simp; done) | (simp; omega) | omega) (.cells #[.bool false, .string ⟨#[]⟩] 24)
  have q7a := A.1
  have q7b := A.2.1
  have q8a := B.1
  have q8b := B.2.1
  go_wp2_with fail
  refine (R2.out _).mono ?_; rintro e w4 ⟨rfl, b4⟩
  clear q7a q7b q8a q8b
  have A := A.below b4 rfl
  have B := B.below b4 rfl
  have S := S.below b4 rfl
  have X := X.below b4 rfl
  have D := D.below b4 rfl
  have lA := A.2.2.2.2
  have lB := B.2.2.2.2
  have lS := S.2.2.2.2
  have lX := X.2.2.2.2
  have lD := D.2.2.2.2
  have k := bnextW k b4 (by first | (simp; done) | (simp; omega) | omega)
  have z4 := k.size
  have A := A.alloc (.cells #[.bool false, .string ⟨#[]⟩] 24)
  have B := B.alloc (.cells #[.bool false, .string ⟨#[]⟩] 24)
  have S := S.alloc (.cells #[.bool false, .string ⟨#[]⟩] 24)
  have X := X.alloc (.cells #[.bool false, .string ⟨#[]⟩] 24)
  have D := D.alloc (.cells #[.bool false, .string ⟨#[]⟩] 24)
  have Y := Two.new w4 (.bool false) (.string ⟨#[]⟩) 24 (w4.heap.size) (by first | (simp; done) | (simp; omega) | omega)
  have k := k.alloc (by first | (simp; done) | (simp; omega) | omega) (.cells #[.bool false, .string ⟨#[]⟩] 24)
  have q9a := A.1
  have q9b := A.2.1
  have q10a := B.1
  have q10b := B.2.1
  go_wp2_with fail
  refine (H3.out _).mono ?_; rintro e w5 ⟨rfl, b5⟩
  clear q9a q9b q10a q10b
  have A := A.below b5 rfl
  have B := B.below b5 rfl
  have S := S.below b5 rfl
  have X := X.below b5 rfl
  have D := D.below b5 rfl
  have Y := Y.below b5 rfl
  have lA := A.2.2.2.2
  have lB := B.2.2.2.2
  have lS := S.2.2.2.2
  have lX := X.2.2.2.2
  have lD := D.2.2.2.2
  have lY := Y.2.2.2.2
  have k := bnextW k b5 (by first | (simp; done) | (simp; omega) | omega)
  have z5 := k.size
  have A := A.alloc (.cells #[.bool false, .string ⟨#[]⟩] 24)
  have B := B.alloc (.cells #[.bool false, .string ⟨#[]⟩] 24)
  have S := S.alloc (.cells #[.bool false, .string ⟨#[]⟩] 24)
  have X := X.alloc (.cells #[.bool false, .string ⟨#[]⟩] 24)
  have D := D.alloc (.cells #[.bool false, .string ⟨#[]⟩] 24)
  have Y := Y.alloc (.cells #[.bool false, .string ⟨#[]⟩] 24)
  have P := Two.new w5 (.bool false) (.string ⟨#[]⟩) 24 (w5.heap.size) (by first | (simp; done) | (simp; omega) | omega)
  have k := k.alloc (by first | (simp; done) | (simp; omega) | omega) (.cells #[.bool false, .string ⟨#[]⟩] 24)
  have q11a := A.1
  have q11b := A.2.1
  have q12a := B.1
  have q12b := B.2.1
  go_wp2_with fail
  refine (R3.out _).mono ?_; rintro e w6 ⟨rfl, b6⟩
  clear q11a q11b q12a q12b
  have A := A.below b6 rfl
  have B := B.below b6 rfl
  have S := S.below b6 rfl
  have X := X.below b6 rfl
  have D := D.below b6 rfl
  have Y := Y.below b6 rfl
  have P := P.below b6 rfl
  have lA := A.2.2.2.2
  have lB := B.2.2.2.2
  have lS := S.2.2.2.2
  have lX := X.2.2.2.2
  have lD := D.2.2.2.2
  have lY := Y.2.2.2.2
  have lP := P.2.2.2.2
  have k := bnextW k b6 (by first | (simp; done) | (simp; omega) | omega)
  have z6 := k.size
  have A := A.alloc (.cells #[.bool false, .string ⟨#[]⟩] 24)
  have B := B.alloc (.cells #[.bool false, .string ⟨#[]⟩] 24)
  have S := S.alloc (.cells #[.bool false, .string ⟨#[]⟩] 24)
  have X := X.alloc (.cells #[.bool false, .string ⟨#[]⟩] 24)
  have D := D.alloc (.cells #[.bool false, .string ⟨#[]⟩] 24)
  have Y := Y.alloc (.cells #[.bool false, .string ⟨#[]⟩] 24)
  have P := P.alloc (.cells #[.bool false, .string ⟨#[]⟩] 24)
  have Q := Two.new w6 (.bool false) (.string ⟨#[]⟩) 24 (w6.heap.size) (by first | (simp; done) | (simp; omega) | omega)
  have k := k.alloc (by first | (simp; done) | (simp; omega) | omega) (.cells #[.bool false, .string ⟨#[]⟩] 24)
  obtain ⟨q13a, q13b, q13c, q13d, q13e⟩ := id A
  obtain ⟨q14a, q14b, q14c, q14d, q14e⟩ := id B
  obtain ⟨q15a, q15b, q15c, q15d, q15e⟩ := id S
  obtain ⟨q16a, q16b, q16c, q16d, q16e⟩ := id X
  obtain ⟨q17a, q17b, q17c, q17d, q17e⟩ := id D
  obtain ⟨q18a, q18b, q18c, q18d, q18e⟩ := id Y
  obtain ⟨q19a, q19b, q19c, q19d, q19e⟩ := id P
  obtain ⟨q20a, q20b, q20c, q20d, q20e⟩ := id Q
  go_wp2_with fail
  refine (awake2 _).mono ?_; rintro e w7 ⟨rfl, b7⟩
  clear q13a q13b q13c q13d q13e q14a q14b q14c q14d q14e q15a q15b q15c q15d q15e q16a q16b q16c q16d q16e q17a q17b q17c q17d q17e q18a q18b q18c q18d q18e q19a q19b q19c q19d q19e q20a q20b q20c q20d q20e
  have A := A.below b7 rfl
  have B := B.below b7 rfl
  have S := S.below b7 rfl
  have X := X.below b7 rfl
  have D := D.below b7 rfl
  have Y := Y.below b7 rfl
  have P := P.below b7 rfl
  have Q := Q.below b7 rfl
  have lA := A.2.2.2.2
  have lB := B.2.2.2.2
  have lS := S.2.2.2.2
  have lX := X.2.2.2.2
  have lD := D.2.2.2.2
  have lY := Y.2.2.2.2
  have lP := P.2.2.2.2
  have lQ := Q.2.2.2.2
  have k := bnextW k b7 (by first | (simp; done) | (simp; omega) | omega)
  have z7 := k.size
  have q21a := S.1
  have q21b := S.2.1
  have q22a := X.1
  have q22b := X.2.1
  have q23a := D.1
  have q23b := D.2.1
  have q24a := Y.1
  have q24b := Y.2.1
  have q25a := P.1
  have q25b := P.2.1
  have q26a := Q.1
  have q26b := Q.2.1
  go_wp2
  go_ret
  exact ⟨rfl, k⟩

set_option maxHeartbeats 4000000 in
set_option maxRecDepth 20000 in
theorem adds_skip (g1 g2 : Bool) (s1 s2 : ByteArray) (w : World) (hm1 : s1.size ≤ 9223372036854775807) (hm2 : s2.size ≤ 9223372036854775807) (hf : ¬ ∀ j, j < 2 → (if j = 0 then s1 else s2).size ≤ 140) :
    Calls Try.prog 4 #[.agg #[.bool g1, .string s1], .agg #[.bool g2, .string s2]] w fun e w' => e = .returned (.bool true) ∧ Below w.heap.size w w' := by
  have HF := Lib.hid hf; clear hf
  have hm : ∀ j, j < 2 → (if j = 0 then s1 else s2).size ≤ 9223372036854775807 := fun j _ => by split <;> omega
  have HM := Lib.hid hm; clear hm
  have k := Below.refl w.heap.size w
  have A := Two.new w (.bool g1) (.string s1) 24 (w.heap.size) (by first | (simp; done) | (simp; omega) | omega)
  have k := k.alloc (by first | (simp; done) | (simp; omega) | omega) (.cells #[.bool g1, .string s1] 24)
  have A := A.alloc (.cells #[.bool g2, .string s2] 24)
  have B := Two.new (w.alloc (.cells #[.bool g1, .string s1] 24)) (.bool g2) (.string s2) 24 (w.heap.size + 1) (by first | (simp; done) | (simp; omega) | omega)
  have k := k.alloc (by first | (simp; done) | (simp; omega) | omega) (.cells #[.bool g2, .string s2] 24)
  have hst := ints2 ((w.alloc (.cells #[.bool g1, .string s1] 24)).alloc (.cells #[.bool g2, .string s2] 24)) g1 g2 s1 s2 24 (w.heap.size + 1 + 1) (by first | (simp; done) | (simp; omega) | omega)
  have HST := Lib.hid hst; clear hst
  have A := A.alloc (.cells #[.bool g1, .string s1, .bool g2, .string s2] 24)
  have B := B.alloc (.cells #[.bool g1, .string s1, .bool g2, .string s2] 24)
  have k := k.alloc (by first | (simp; done) | (simp; omega) | omega) (.cells #[.bool g1, .string s1, .bool g2, .string s2] 24)
  go_enter Try.func4, Try.ntmps4
  go_wp2_with fail
  refine (long_yes _ 2 _ _ (by omega) HST.out HM.out HF.out).mono ?_; rintro e wx ⟨rfl, rfl⟩
  go_wp2_with fail
  refine (awake2 _).mono ?_; rintro e w1 ⟨rfl, b1⟩
  have A := A.below b1 rfl
  have B := B.below b1 rfl
  have lA := A.2.2.2.2
  have lB := B.2.2.2.2
  have k := bnextW k b1 (by first | (simp; done) | (simp; omega) | omega)
  have z1 := k.size
  go_wp2
  go_ret
  exact ⟨rfl, k⟩

theorem law_IntegerAdds (g1 : Bool) (s1 : ByteArray) (g2 : Bool) (s2 : ByteArray) (l1 : s1.size ≤ maxLen) (l2 : s2.size ≤ maxLen) (w : World) :
    Calls Try.prog 4 #[.agg #[.bool g1, .string s1], .agg #[.bool g2, .string s2]] w fun e w' => e = .returned (.bool true) ∧ Below w.heap.size w w' := by
  unfold maxLen at l1 l2
  by_cases hf : ∀ j, j < 2 → (if j = 0 then s1 else s2).size ≤ 140
  · obtain ⟨G1, S1, v1, c1, o1, h1, r1⟩ := iadd_agree g1 g2 s1 s2
    obtain ⟨G2, S2, v2, c2, o2, h2, r2⟩ := isub_agree g1 g2 s1 s2
    obtain ⟨G3, S3, v3, c3, o3, h3, r3⟩ := imul_agree g1 g2 s1 s2
    rcases o1 with rfl | ⟨n1, rfl, rfl⟩ <;> rcases o2 with rfl | ⟨n2, rfl, rfl⟩ <;> rcases o3 with rfl | ⟨n3, rfl, rfl⟩
    · exact adds_0 g1 g2 _ _ _ s1 s2 _ _ _ w hf h1 r1 h2 r2 h3 r3
    · exact adds_4 g1 g2 _ _ false s1 s2 _ _ s1 w hf v3 n3 (by omega) (by omega) h1 r1 h2 r2 h3 r3
    · exact adds_2 g1 g2 _ false _ s1 s2 _ s1 _ w hf v2 n2 (by omega) (by omega) h1 r1 h2 r2 h3 r3
    · exact adds_6 g1 g2 _ false false s1 s2 _ s1 s1 w hf v2 n2 (by omega) (by omega) v3 n3 (by omega) (by omega) h1 r1 h2 r2 h3 r3
    · exact adds_1 g1 g2 false _ _ s1 s2 s1 _ _ w hf v1 n1 (by omega) (by omega) h1 r1 h2 r2 h3 r3
    · exact adds_5 g1 g2 false _ false s1 s2 s1 _ s1 w hf v1 n1 (by omega) (by omega) v3 n3 (by omega) (by omega) h1 r1 h2 r2 h3 r3
    · exact adds_3 g1 g2 false false _ s1 s2 s1 s1 _ w hf v1 n1 (by omega) (by omega) v2 n2 (by omega) (by omega) h1 r1 h2 r2 h3 r3
    · exact adds_7 g1 g2 false false false s1 s2 s1 s1 s1 w hf v1 n1 (by omega) (by omega) v2 n2 (by omega) (by omega) v3 n3 (by omega) (by omega) h1 r1 h2 r2 h3 r3
  · exact adds_skip g1 g2 s1 s2 w (by omega) (by omega) hf
end Go.Proofs.Ytamgklgjhjociaa
