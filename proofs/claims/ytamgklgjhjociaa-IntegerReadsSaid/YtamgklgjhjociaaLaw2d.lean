/-
  The walk of IntegerReads.
-/
import Derived.Test.YtamgklgjhjociaaLaw2a
namespace Go.Proofs.Ytamgklgjhjociaa
open Go.RowKit
set_option linter.unusedVariables false

theorem keep2S {w w1 w2 : World} {a b : Nat} {a0 a1 b0 b1 : Value} (k9 : Below w1.heap.size w1 w2)
    (h : w1.cell? ⟨a, 0, none⟩ = some a0 ∧ w1.cell? ⟨a, 1, none⟩ = some a1 ∧ w1.cell? ⟨b, 0, none⟩ = some b0 ∧ w1.cell? ⟨b, 1, none⟩ = some b1 ∧ Below w.heap.size w w1) :
    w2.cell? ⟨a, 0, none⟩ = some a0 ∧ w2.cell? ⟨a, 1, none⟩ = some a1 ∧ w2.cell? ⟨b, 0, none⟩ = some b0 ∧ w2.cell? ⟨b, 1, none⟩ = some b1 ∧ Below w.heap.size w w2 := by
  obtain ⟨h0, h1, h2, h3, k⟩ := h
  exact ⟨keepc k9 h0, keepc k9 h1, keepc k9 h2, keepc k9 h3, keepb k k9⟩
theorem keep2L {w w1 : World} {a b : Nat} {a0 a1 b0 b1 : Value}
    (h : w1.cell? ⟨a, 0, none⟩ = some a0 ∧ w1.cell? ⟨a, 1, none⟩ = some a1 ∧ w1.cell? ⟨b, 0, none⟩ = some b0 ∧ w1.cell? ⟨b, 1, none⟩ = some b1 ∧ Below w.heap.size w w1) : Below w.heap.size w w1 := h.2.2.2.2
theorem ivalid_agree (g : Bool) (s : ByteArray) : ∃ b : Bool,
    (∀ w, Calls Try.prog 17 #[.agg #[.bool g, .string s]] w fun e w' => e = .returned (.bool b) ∧ Below w.heap.size w w') ∧
    (∀ w, Calls Try.prog 18 #[.agg #[.bool g, .string s]] w fun e w' => e = .returned (.bool b) ∧ Below w.heap.size w w') := by
  by_cases h : IVal g s
  · exact ⟨true, fun w => ivalid_t g s w h, fun w => rivalid_t g s w h⟩
  · exact ⟨false, fun w => ivalid_f g s w h, fun w => rivalid_f g s w h⟩
theorem ismall_agree (g : Bool) (s : ByteArray) : ∃ (n : Int) (b : Bool),
    (∀ w, Calls Try.prog 14 #[.agg #[.bool g, .string s]] w fun e w' => e = .returned (.tuple #[.int .i64 n, .bool b]) ∧ Below w.heap.size w w') ∧
    (∀ w, Calls Try.prog 15 #[.agg #[.bool g, .string s]] w fun e w' => e = .returned (.tuple #[.int .i64 n, .bool b]) ∧ Below w.heap.size w w') := by
  by_cases h : IVal g s ∧ -9223372036854775808 ≤ IZ g s ∧ IZ g s ≤ 9223372036854775807
  · exact ⟨_, true, fun w => ismall_yes g s w h.1 h.2.1 h.2.2, fun w => rismall_yes g s w h.1 h.2.1 h.2.2⟩
  · exact ⟨0, false, fun w => ismall_no g s w h, fun w => rismall_no g s w h⟩
theorem iof_agree (n : Int) (h1 : -9223372036854775808 ≤ n) (h2 : n ≤ 9223372036854775807) : ∃ (G : Bool) (S : ByteArray),
    (∀ w, Calls Try.prog 16 #[.int .i64 n] w fun e w' => e = .returned (.agg #[.bool G, .string S]) ∧ Below w.heap.size w w') ∧
    (∀ w, Calls Try.prog 19 #[.int .i64 n] w fun e w' => e = .returned (.agg #[.bool G, .string S]) ∧ Below w.heap.size w w') ∧
    (∀ w, Calls Try.prog 14 #[.agg #[.bool G, .string S]] w fun e w' => e = .returned (.tuple #[.int .i64 n, .bool true]) ∧ Below w.heap.size w w') := by
  refine ⟨ZG n, ZS n, fun w => iof_any n w h1 h2, fun w => riof_any n w h1 h2, fun w => ?_⟩
  have hl : n.natAbs < Lim := by
    have := small_lim (n := n.natAbs) (by omega)
    exact this
  have := ismall_yes (ZG n) (ZS n) w (ival_Z n hl) (by rw [IZ_Z]; exact h1) (by rw [IZ_Z]; exact h2)
  rwa [IZ_Z] at this
theorem ifrom_agree (s : ByteArray) : ∃ (G : Bool) (S : ByteArray),
    (∀ w, Calls Try.prog 20 #[.string s] w fun e w' => e = .returned (.agg #[.bool G, .string S]) ∧ Below w.heap.size w w') ∧
    (∀ w, Calls Try.prog 21 #[.string s] w fun e w' => e = .returned (.agg #[.bool G, .string S]) ∧ Below w.heap.size w w') := by
  by_cases h : Can s
  · exact ⟨_, _, fun w => from_z s w h, fun w => rfrom_yes s w h⟩
  · exact ⟨_, _, fun w => from_0 s w h, fun w => rfrom_no s w h⟩
theorem ineg_agree (g : Bool) (s : ByteArray) : ∃ (G : Bool) (S : ByteArray),
    (∀ w, Calls Try.prog 22 #[.agg #[.bool g, .string s]] w fun e w' => e = .returned (.agg #[.bool G, .string S]) ∧ Below w.heap.size w w') ∧
    (∀ w, Calls Try.prog 23 #[.agg #[.bool g, .string s]] w fun e w' => e = .returned (.agg #[.bool G, .string S]) ∧ Below w.heap.size w w') := by
  by_cases h : IVal g s
  · exact ⟨_, _, fun w => ineg_yes g s w h, fun w => rineg_yes g s w h⟩
  · exact ⟨_, _, fun w => ineg_no g s w h, fun w => rineg_no g s w h⟩
theorem icmp_agree (g1 g2 : Bool) (s1 s2 : ByteArray) : ∃ c : Int,
    (∀ w, Calls Try.prog 24 #[.agg #[.bool g1, .string s1], .agg #[.bool g2, .string s2]] w fun e w' => e = .returned (.int .i64 c) ∧ Below w.heap.size w w') ∧
    (∀ w, Calls Try.prog 25 #[.agg #[.bool g1, .string s1], .agg #[.bool g2, .string s2]] w fun e w' => e = .returned (.int .i64 c) ∧ Below w.heap.size w w') := by
  by_cases h : IVal g1 s1 ∧ IVal g2 s2
  · exact ⟨_, fun w => icmp_yes g1 g2 s1 s2 w h.1 h.2, fun w => ricmp_yes g1 g2 s1 s2 w h.1 h.2⟩
  · exact ⟨0, fun w => icmp_no g1 g2 s1 s2 w h, fun w => ricmp_no g1 g2 s1 s2 w h⟩

set_option maxHeartbeats 8000000 in
set_option maxRecDepth 20000 in
theorem ireads_yes (g1 g2 G4 G5 G6 b1 b2 : Bool) (s1 s2 S4 S5 S6 : ByteArray) (n n2 c7 : Int) (w : World) (hf : ∀ j, j < 2 → (if j = 0 then s1 else s2).size ≤ 140)
    (v1 : ∀ w, Calls Try.prog 17 #[.agg #[.bool g1, .string s1]] w fun e w' => e = .returned (.bool b1) ∧ Below w.heap.size w w')
    (v2 : ∀ w, Calls Try.prog 18 #[.agg #[.bool g1, .string s1]] w fun e w' => e = .returned (.bool b1) ∧ Below w.heap.size w w')
    (m1 : ∀ w, Calls Try.prog 14 #[.agg #[.bool g1, .string s1]] w fun e w' => e = .returned (.tuple #[.int .i64 n2, .bool b2]) ∧ Below w.heap.size w w')
    (m2 : ∀ w, Calls Try.prog 15 #[.agg #[.bool g1, .string s1]] w fun e w' => e = .returned (.tuple #[.int .i64 n2, .bool b2]) ∧ Below w.heap.size w w')
    (o1 : ∀ w, Calls Try.prog 16 #[.int .i64 n] w fun e w' => e = .returned (.agg #[.bool G4, .string S4]) ∧ Below w.heap.size w w')
    (o2 : ∀ w, Calls Try.prog 19 #[.int .i64 n] w fun e w' => e = .returned (.agg #[.bool G4, .string S4]) ∧ Below w.heap.size w w')
    (m3 : ∀ w, Calls Try.prog 14 #[.agg #[.bool G4, .string S4]] w fun e w' => e = .returned (.tuple #[.int .i64 n, .bool true]) ∧ Below w.heap.size w w')
    (f1 : ∀ w, Calls Try.prog 20 #[.string s1] w fun e w' => e = .returned (.agg #[.bool G5, .string S5]) ∧ Below w.heap.size w w')
    (f2 : ∀ w, Calls Try.prog 21 #[.string s1] w fun e w' => e = .returned (.agg #[.bool G5, .string S5]) ∧ Below w.heap.size w w')
    (n1 : ∀ w, Calls Try.prog 22 #[.agg #[.bool g1, .string s1]] w fun e w' => e = .returned (.agg #[.bool G6, .string S6]) ∧ Below w.heap.size w w')
    (n2 : ∀ w, Calls Try.prog 23 #[.agg #[.bool g1, .string s1]] w fun e w' => e = .returned (.agg #[.bool G6, .string S6]) ∧ Below w.heap.size w w')
    (c1 : ∀ w, Calls Try.prog 24 #[.agg #[.bool g1, .string s1], .agg #[.bool g2, .string s2]] w fun e w' => e = .returned (.int .i64 c7) ∧ Below w.heap.size w w')
    (c2 : ∀ w, Calls Try.prog 25 #[.agg #[.bool g1, .string s1], .agg #[.bool g2, .string s2]] w fun e w' => e = .returned (.int .i64 c7) ∧ Below w.heap.size w w') :
    Calls Try.prog 3 #[.agg #[.bool g1, .string s1], .agg #[.bool g2, .string s2], .int .i64 n] w fun e w' => e = .returned (.bool true) ∧ Below w.heap.size w w' := by
  have HF := Lib.hid hf; clear hf
  have V1 := Lib.hid v1; clear v1
  have V2 := Lib.hid v2; clear v2
  have M1 := Lib.hid m1; clear m1
  have M2 := Lib.hid m2; clear m2
  have O1 := Lib.hid o1; clear o1
  have O2 := Lib.hid o2; clear o2
  have M3 := Lib.hid m3; clear m3
  have F1 := Lib.hid f1; clear f1
  have F2 := Lib.hid f2; clear f2
  have N1 := Lib.hid n1; clear n1
  have N2 := Lib.hid n2; clear n2
  have C1 := Lib.hid c1; clear c1
  have C2 := Lib.hid c2; clear c2
  have k := Below.refl w.heap.size w
  have A := Two.new w (.bool g1) (.string s1) 24 (w.heap.size) (by first | (simp; done) | (simp; omega) | omega)
  have k := k.alloc (by first | (simp; done) | (simp; omega) | omega) (.cells #[.bool g1, .string s1] 24)
  have A := A.alloc (.cells #[.bool g2, .string s2] 24)
  have B := Two.new (w.alloc (.cells #[.bool g1, .string s1] 24)) (.bool g2) (.string s2) 24 (w.heap.size + 1) (by first | (simp; done) | (simp; omega) | omega)
  have k := k.alloc (by first | (simp; done) | (simp; omega) | omega) (.cells #[.bool g2, .string s2] 24)
  have hst := ints2 ((w.alloc (.cells #[.bool g1, .string s1] 24)).alloc (.cells #[.bool g2, .string s2] 24)) g1 g2 s1 s2 24 (w.heap.size + 1 + 1) (by first | (simp; done) | (simp; omega) | omega)
  have HST := Lib.hid hst; clear hst
  have A := A.alloc (.cells #[.bool g1, .string s1, .bool g2, .string s2] 24)
  have B := B.alloc (.cells #[.bool g1, .string s1, .bool g2, .string s2] 24)
  have k := k.alloc (by first | (simp; done) | (simp; omega) | omega) (.cells #[.bool g1, .string s1, .bool g2, .string s2] 24)
  go_enter Try.func3, Try.ntmps3
  go_wp2_with fail
  refine (long_no _ 2 _ _ (by omega) HST.out HF.out).mono ?_; rintro e wx ⟨rfl, rfl⟩
  have q1a := A.1
  have q1b := A.2.1
  go_wp2_with fail
  refine (M1.out _).mono ?_; rintro e w1 ⟨rfl, b1⟩
  clear q1a q1b
  have A := A.below b1 rfl
  have B := B.below b1 rfl
  have lA := A.2.2.2.2
  have lB := B.2.2.2.2
  have k := bnextW k b1 (by first | (simp; done) | (simp; omega) | omega)
  have z1 := k.size
  have q2a := A.1
  have q2b := A.2.1
  go_wp2_with fail
  refine (M2.out _).mono ?_; rintro e w2 ⟨rfl, b2⟩
  clear q2a q2b
  have A := A.below b2 rfl
  have B := B.below b2 rfl
  have lA := A.2.2.2.2
  have lB := B.2.2.2.2
  have k := bnextW k b2 (by first | (simp; done) | (simp; omega) | omega)
  have z2 := k.size
  go_wp2_with fail
  refine (O1.out _).mono ?_; rintro e w3 ⟨rfl, b3⟩
  have A := A.below b3 rfl
  have B := B.below b3 rfl
  have lA := A.2.2.2.2
  have lB := B.2.2.2.2
  have k := bnextW k b3 (by first | (simp; done) | (simp; omega) | omega)
  have z3 := k.size
  go_wp2_with fail
  refine (M3.out _).mono ?_; rintro e w4 ⟨rfl, b4⟩
  have A := A.below b4 rfl
  have B := B.below b4 rfl
  have lA := A.2.2.2.2
  have lB := B.2.2.2.2
  have k := bnextW k b4 (by first | (simp; done) | (simp; omega) | omega)
  have z4 := k.size
  have q3a := A.1
  have q3b := A.2.1
  have q4a := B.1
  have q4b := B.2.1
  go_wp2
  go_region_held3 (fun w' => w'.cell? ⟨w.heap.size, 0, none⟩ = some (.bool g1) ∧ w'.cell? ⟨w.heap.size, 1, none⟩ = some (.string s1) ∧ w'.cell? ⟨w.heap.size + 1, 0, none⟩ = some (.bool g2) ∧ w'.cell? ⟨w.heap.size + 1, 1, none⟩ = some (.string s2) ∧ Below w.heap.size w w') (first | exact ⟨A.1, A.2.1, B.1, B.2.1, k.drew⟩ | exact keep2S b99 (by assumption))
    (first
    | (go_at_call 13; ((with_reducible refine (awake2 _).mono ?_); rintro e w99 ⟨rfl, b99⟩))
    | (go_at_call 17; ((with_reducible refine (V1.out _).mono ?_); rintro e w99 ⟨rfl, b99⟩))
    | (go_at_call 18; ((with_reducible refine (V2.out _).mono ?_); rintro e w99 ⟨rfl, b99⟩))
    | (go_at_call 16; ((with_reducible refine (O1.out _).mono ?_); rintro e w99 ⟨rfl, b99⟩))
    | (go_at_call 19; ((with_reducible refine (O2.out _).mono ?_); rintro e w99 ⟨rfl, b99⟩))
    | (go_at_call 20; ((with_reducible refine (F1.out _).mono ?_); rintro e w99 ⟨rfl, b99⟩))
    | (go_at_call 21; ((with_reducible refine (F2.out _).mono ?_); rintro e w99 ⟨rfl, b99⟩))
    | (go_at_call 22; ((with_reducible refine (N1.out _).mono ?_); rintro e w99 ⟨rfl, b99⟩))
    | (go_at_call 23; ((with_reducible refine (N2.out _).mono ?_); rintro e w99 ⟨rfl, b99⟩))
    | (go_at_call 24; ((with_reducible refine (C1.out _).mono ?_); rintro e w99 ⟨rfl, b99⟩))
    | (go_at_call 25; ((with_reducible refine (C2.out _).mono ?_); rintro e w99 ⟨rfl, b99⟩)))
  all_goals go_wp2
  all_goals go_ret
  all_goals exact ⟨rfl, keep2L (by assumption)⟩

set_option maxHeartbeats 4000000 in
set_option maxRecDepth 20000 in
theorem ireads_skip (g1 g2 : Bool) (s1 s2 : ByteArray) (n : Int) (w : World) (hm1 : s1.size ≤ 9223372036854775807) (hm2 : s2.size ≤ 9223372036854775807) (hf : ¬ ∀ j, j < 2 → (if j = 0 then s1 else s2).size ≤ 140) :
    Calls Try.prog 3 #[.agg #[.bool g1, .string s1], .agg #[.bool g2, .string s2], .int .i64 n] w fun e w' => e = .returned (.bool true) ∧ Below w.heap.size w w' := by
  have HF := Lib.hid hf; clear hf
  have hx : ∀ j, j < 2 → (if j = 0 then s1 else s2).size ≤ 9223372036854775807 := fun j _ => by split <;> omega
  have HM := Lib.hid hx; clear hx
  have k := Below.refl w.heap.size w
  have A := Two.new w (.bool g1) (.string s1) 24 (w.heap.size) (by first | (simp; done) | (simp; omega) | omega)
  have k := k.alloc (by first | (simp; done) | (simp; omega) | omega) (.cells #[.bool g1, .string s1] 24)
  have A := A.alloc (.cells #[.bool g2, .string s2] 24)
  have B := Two.new (w.alloc (.cells #[.bool g1, .string s1] 24)) (.bool g2) (.string s2) 24 (w.heap.size + 1) (by first | (simp; done) | (simp; omega) | omega)
  have k := k.alloc (by first | (simp; done) | (simp; omega) | omega) (.cells #[.bool g2, .string s2] 24)
  have hst := ints2 ((w.alloc (.cells #[.bool g1, .string s1] 24)).alloc (.cells #[.bool g2, .string s2] 24)) g1 g2 s1 s2 24 (w.heap.size + 1 + 1) (by first | (simp; done) | (simp; omega) | omega)
  have HST := Lib.hid hst; clear hst
  have A := A.alloc (.cells #[.bool g1, .string s1, .bool g2, .string s2] 24)
  have B := B.alloc (.cells #[.bool g1, .string s1, .bool g2, .string s2] 24)
  have k := k.alloc (by first | (simp; done) | (simp; omega) | omega) (.cells #[.bool g1, .string s1, .bool g2, .string s2] 24)
  go_enter Try.func3, Try.ntmps3
  go_wp2_with fail
  refine (long_yes _ 2 _ _ (by omega) HST.out HM.out HF.out).mono ?_; rintro e wx ⟨rfl, rfl⟩
  go_wp2_with fail
  refine (awake2 _).mono ?_; rintro e w1 ⟨rfl, b1⟩
  have A := A.below b1 rfl
  have B := B.below b1 rfl
  have lA := A.2.2.2.2
  have lB := B.2.2.2.2
  have k := bnextW k b1 (by first | (simp; done) | (simp; omega) | omega)
  have z1 := k.size
  go_wp2
  go_ret
  exact ⟨rfl, k⟩

theorem law_IntegerReads (g1 : Bool) (s1 : ByteArray) (g2 : Bool) (s2 : ByteArray) (n : Int) (l1 : s1.size ≤ maxLen) (l2 : s2.size ≤ maxLen) (l3 : (Lit.int .i64 n).wf = true) (w : World) :
    Calls Try.prog 3 #[.agg #[.bool g1, .string s1], .agg #[.bool g2, .string s2], .int .i64 n] w fun e w' => e = .returned (.bool true) ∧ Below w.heap.size w w' := by
  unfold maxLen at l1 l2
  have hb := bounds_i64 l3
  by_cases hf : ∀ j, j < 2 → (if j = 0 then s1 else s2).size ≤ 140
  · obtain ⟨b1, v1, v2⟩ := ivalid_agree g1 s1
    obtain ⟨n2, b2, m1, m2⟩ := ismall_agree g1 s1
    obtain ⟨G4, S4, o1, o2, m3⟩ := iof_agree n (by omega) (by omega)
    obtain ⟨G5, S5, f1, f2⟩ := ifrom_agree s1
    obtain ⟨G6, S6, n1, n2'⟩ := ineg_agree g1 s1
    obtain ⟨c7, c1, c2⟩ := icmp_agree g1 g2 s1 s2
    exact ireads_yes g1 g2 G4 G5 G6 b1 b2 s1 s2 S4 S5 S6 n n2 c7 w hf v1 v2 m1 m2 o1 o2 m3 f1 f2 n1 n2' c1 c2
  · exact ireads_skip g1 g2 s1 s2 n w (by omega) (by omega) hf
end Go.Proofs.Ytamgklgjhjociaa
