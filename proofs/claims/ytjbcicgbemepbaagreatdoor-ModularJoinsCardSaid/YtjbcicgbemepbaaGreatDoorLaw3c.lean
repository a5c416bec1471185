/-
  Layer 3's statements: the struct Numbers; Adds.
-/
import Derived.Test.YtjbcicgbemepbaaGreatDoorMD
import Derived.Test.YtjbcicgbemepbaaGreatDoorRA
import Derived.OpenShut
namespace Go.Proofs.YtjbcicgbemepbaaGreatDoor
open Go.RowKit
set_option linter.unusedVariables false

/-- The five cells of a variable of the struct Numbers. -/
def Num5 (w : World) (p : Nat) (a b : ByteArray) (g : Bool) (e m : ByteArray) : Prop :=
  w.cell? ⟨p, 0, none⟩ = some (.string a) ∧ w.cell? ⟨p, 1, none⟩ = some (.string b) ∧ w.cell? ⟨p, 2, none⟩ = some (.bool g) ∧ w.cell? ⟨p, 3, none⟩ = some (.string e) ∧ w.cell? ⟨p, 4, none⟩ = some (.string m) ∧ p < w.heap.size
theorem Num5.new (w : World) (a b : ByteArray) (g : Bool) (e m : ByteArray) (t : TypeId) : Num5 (w.alloc (.cells #[.string a, .string b, .bool g, .string e, .string m] t)) w.heap.size a b g e m := by
  have hr : (w.alloc (.cells #[.string a, .string b, .bool g, .string e, .string m] t)).rowIs w.heap.size t 5 (fun i => (#[.string a, .string b, .bool g, .string e, .string m] : Array Value)[i]?.getD (.bool false)) :=
    World.rowIs_alloc w _ _ _ (fun i hi => by simp at hi ⊢; simp [hi])
  exact ⟨hr.cell (by omega), hr.cell (by omega), hr.cell (by omega), hr.cell (by omega), hr.cell (by omega), by simp⟩
theorem Num5.below {w w' : World} {p : Nat} {a b e m : ByteArray} {g : Bool} (h : Num5 w p a b g e m) (hb : Below w.heap.size w w') : Num5 w' p a b g e m := by
  obtain ⟨h0, h1, h2, h3, h4, h5⟩ := h
  exact ⟨(hb.cell (p := ⟨p, 0, none⟩) h5).trans h0, (hb.cell (p := ⟨p, 1, none⟩) h5).trans h1, (hb.cell (p := ⟨p, 2, none⟩) h5).trans h2, (hb.cell (p := ⟨p, 3, none⟩) h5).trans h3, (hb.cell (p := ⟨p, 4, none⟩) h5).trans h4, Nat.lt_of_lt_of_le h5 hb.size⟩

set_option maxHeartbeats 400000 in
theorem few3_0 (a b : ByteArray) (g : Bool) (e m : ByteArray) (w : World) (xa : a.size ≤ 9223372036854775807) (xb : b.size ≤ 9223372036854775807) (xe : e.size ≤ 9223372036854775807) (xm : m.size ≤ 9223372036854775807) (ha : ¬ (a.size : Int) ≤ 24) :
    Calls Tryz.prog 10 #[.agg #[.string a, .string b, .bool g, .string e, .string m]] w fun r w' => r = .returned (.bool false) ∧ Below w.heap.size w w' := by
  obtain ⟨q0, q1, q2, q3, q4, q5⟩ := Num5.new w a b g e m 26
  go_enter Tryz.func10, Tryz.ntmps10
  go_wp2
  go_ret
  exact ⟨rfl, (Below.refl _ _).alloc (Nat.le_refl _) _⟩

set_option maxHeartbeats 400000 in
theorem few3_1 (a b : ByteArray) (g : Bool) (e m : ByteArray) (w : World) (xa : a.size ≤ 9223372036854775807) (xb : b.size ≤ 9223372036854775807) (xe : e.size ≤ 9223372036854775807) (xm : m.size ≤ 9223372036854775807) (ha : (a.size : Int) ≤ 24) (hb : ¬ (b.size : Int) ≤ 24) :
    Calls Tryz.prog 10 #[.agg #[.string a, .string b, .bool g, .string e, .string m]] w fun r w' => r = .returned (.bool false) ∧ Below w.heap.size w w' := by
  obtain ⟨q0, q1, q2, q3, q4, q5⟩ := Num5.new w a b g e m 26
  go_enter Tryz.func10, Tryz.ntmps10
  go_wp2
  go_ret
  exact ⟨rfl, (Below.refl _ _).alloc (Nat.le_refl _) _⟩

set_option maxHeartbeats 400000 in
theorem few3_2 (a b : ByteArray) (g : Bool) (e m : ByteArray) (w : World) (xa : a.size ≤ 9223372036854775807) (xb : b.size ≤ 9223372036854775807) (xe : e.size ≤ 9223372036854775807) (xm : m.size ≤ 9223372036854775807) (ha : (a.size : Int) ≤ 24) (hb : (b.size : Int) ≤ 24) (he : ¬ (e.size : Int) ≤ 16) :
    Calls Tryz.prog 10 #[.agg #[.string a, .string b, .bool g, .string e, .string m]] w fun r w' => r = .returned (.bool false) ∧ Below w.heap.size w w' := by
  obtain ⟨q0, q1, q2, q3, q4, q5⟩ := Num5.new w a b g e m 26
  go_enter Tryz.func10, Tryz.ntmps10
  go_wp2
  go_ret
  exact ⟨rfl, (Below.refl _ _).alloc (Nat.le_refl _) _⟩

set_option maxHeartbeats 400000 in
theorem few3_3 (a b : ByteArray) (g : Bool) (e m : ByteArray) (w : World) (xa : a.size ≤ 9223372036854775807) (xb : b.size ≤ 9223372036854775807) (xe : e.size ≤ 9223372036854775807) (xm : m.size ≤ 9223372036854775807) (ha : (a.size : Int) ≤ 24) (hb : (b.size : Int) ≤ 24) (he : (e.size : Int) ≤ 16) (hm : ¬ (m.size : Int) ≤ 8) :
    Calls Tryz.prog 10 #[.agg #[.string a, .string b, .bool g, .string e, .string m]] w fun r w' => r = .returned (.bool false) ∧ Below w.heap.size w w' := by
  obtain ⟨q0, q1, q2, q3, q4, q5⟩ := Num5.new w a b g e m 26
  go_enter Tryz.func10, Tryz.ntmps10
  go_wp2
  go_ret
  exact ⟨rfl, (Below.refl _ _).alloc (Nat.le_refl _) _⟩

set_option maxHeartbeats 400000 in
theorem few3_4 (a b : ByteArray) (g : Bool) (e m : ByteArray) (w : World) (xa : a.size ≤ 9223372036854775807) (xb : b.size ≤ 9223372036854775807) (xe : e.size ≤ 9223372036854775807) (xm : m.size ≤ 9223372036854775807) (ha : (a.size : Int) ≤ 24) (hb : (b.size : Int) ≤ 24) (he : (e.size : Int) ≤ 16) (hm : (m.size : Int) ≤ 8) :
    Calls Tryz.prog 10 #[.agg #[.string a, .string b, .bool g, .string e, .string m]] w fun r w' => r = .returned (.bool true) ∧ Below w.heap.size w w' := by
  obtain ⟨q0, q1, q2, q3, q4, q5⟩ := Num5.new w a b g e m 26
  go_enter Tryz.func10, Tryz.ntmps10
  go_wp2
  go_ret
  exact ⟨rfl, (Below.refl _ _).alloc (Nat.le_refl _) _⟩

/-- Whether the numbers are short. -/
def Few3 (a b e m : ByteArray) : Prop := a.size ≤ 24 ∧ b.size ≤ 24 ∧ e.size ≤ 16 ∧ m.size ≤ 8
theorem few3_yes (a b : ByteArray) (g : Bool) (e m : ByteArray) (w : World) (h : Few3 a b e m) :
    Calls Tryz.prog 10 #[.agg #[.string a, .string b, .bool g, .string e, .string m]] w fun r w' => r = .returned (.bool true) ∧ Below w.heap.size w w' := by
  obtain ⟨h1, h2, h3, h4⟩ := h
  exact few3_4 a b g e m w (by omega) (by omega) (by omega) (by omega) (by omega) (by omega) (by omega) (by omega)
theorem few3_no (a b : ByteArray) (g : Bool) (e m : ByteArray) (w : World) (xa : a.size ≤ 9223372036854775807) (xb : b.size ≤ 9223372036854775807) (xe : e.size ≤ 9223372036854775807) (xm : m.size ≤ 9223372036854775807) (h : ¬ Few3 a b e m) :
    Calls Tryz.prog 10 #[.agg #[.string a, .string b, .bool g, .string e, .string m]] w fun r w' => r = .returned (.bool false) ∧ Below w.heap.size w w' := by
  by_cases h1 : (a.size : Int) ≤ 24
  · by_cases h2 : (b.size : Int) ≤ 24
    · by_cases h3 : (e.size : Int) ≤ 16
      · by_cases h4 : (m.size : Int) ≤ 8
        · exact absurd ⟨by omega, by omega, by omega, by omega⟩ h
        · exact few3_3 a b g e m w xa xb xe xm h1 h2 h3 h4
      · exact few3_2 a b g e m w xa xb xe xm h1 h2 h3
    · exact few3_1 a b g e m w xa xb xe xm h1 h2
  · exact few3_0 a b g e m w xa xb xe xm h1
/-- What both sides answer: an error, or a number. -/
theorem adds_agree (a b m : ByteArray) (h : m.size ≤ 64) : ∃ (S1 S2 S3 : ByteArray) (v : Int),
    (∀ w, Calls Tryz.prog 12 #[.string a, .string b, .string m] w fun e w' => e = .returned (.tuple #[.string S1, .int .i64 v]) ∧ Below w.heap.size w w') ∧
    (∀ w, Calls Tryz.prog 13 #[.string a, .string b, .string m] w fun e w' => e = .returned (.tuple #[.string S1, .int .i64 v]) ∧ Below w.heap.size w w') ∧
    (∀ w, Calls Tryz.prog 14 #[.string a, .string b, .string m] w fun e w' => e = .returned (.tuple #[.string S2, .int .i64 v]) ∧ Below w.heap.size w w') ∧
    (∀ w, Calls Tryz.prog 15 #[.string a, .string b, .string m] w fun e w' => e = .returned (.tuple #[.string S2, .int .i64 v]) ∧ Below w.heap.size w w') ∧
    (∀ w, Calls Tryz.prog 16 #[.string a, .string b, .string m] w fun e w' => e = .returned (.tuple #[.string S3, .int .i64 v]) ∧ Below w.heap.size w w') ∧
    (∀ w, Calls Tryz.prog 17 #[.string a, .string b, .string m] w fun e w' => e = .returned (.tuple #[.string S3, .int .i64 v]) ∧ Below w.heap.size w w') := by
  by_cases hc : Can m ∧ ∀ s, s ∈ [a, b] → Can s
  · have ha : Can a := hc.2 a (by simp)
    have hb : Can b := hc.2 b (by simp)
    by_cases h0 : m.size = 0
    · have hz : ∀ c, ChkP m [a, b] c → c = 11 := fun c h => h.zero hc h0
      exact ⟨_, _, _, 11, fun w => madd_err a b m 11 w hz (by decide), fun w => radd_err a b m 11 w hz (by decide), fun w => msub_err a b m 11 w hz (by decide), fun w => rsub_err a b m 11 w hz (by decide), fun w => mmul_err a b m 11 w hz (by decide), fun w => rmul_err a b m 11 w hz (by decide)⟩
    · have h0 : 0 < m.size := by omega
      exact ⟨_, _, _, 0, fun w => madd_ok a b m w ha hb hc.1 h0, fun w => radd_m a b m w ha hb hc.1 h0 h, fun w => msub_ok a b m w ha hb hc.1 h0, fun w => rsub_m a b m w ha hb hc.1 h0 h, fun w => mmul_ok a b m w ha hb hc.1 h0, fun w => rmul_m a b m w ha hb hc.1 h0 h⟩
  · have hz : ∀ c, ChkP m [a, b] c → c = 3 := fun c h => h.form hc
    exact ⟨_, _, _, 3, fun w => madd_err a b m 3 w hz (by decide), fun w => radd_err a b m 3 w hz (by decide), fun w => msub_err a b m 3 w hz (by decide), fun w => rsub_err a b m 3 w hz (by decide), fun w => mmul_err a b m 3 w hz (by decide), fun w => rmul_err a b m 3 w hz (by decide)⟩

set_option maxHeartbeats 1000000 in
set_option maxRecDepth 20000 in
theorem modularadds_skip (a b : ByteArray) (g : Bool) (e m : ByteArray) (w : World) (xa : a.size ≤ 9223372036854775807) (xb : b.size ≤ 9223372036854775807) (xe : e.size ≤ 9223372036854775807) (xm : m.size ≤ 9223372036854775807) (h : ¬ Few3 a b e m) :
    Calls Tryz.prog 3 #[.agg #[.string a, .string b, .bool g, .string e, .string m]] w fun r w' => r = .returned (.bool true) ∧ Below w.heap.size w w' := by
  have HF := Lib.hid h; clear h
  have k0 : Below w.heap.size w (w.alloc (.cells #[.string a, .string b, .bool g, .string e, .string m] 26)) := (Below.refl _ _).alloc (Nat.le_refl _) _
  obtain ⟨q0, q1, q2, q3, q4, q5⟩ := Num5.new w a b g e m 26
  go_enter Tryz.func3, Tryz.ntmps3
  go_wp2_with fail
  refine (few3_no a b g e m _ xa xb xe xm HF.out).mono ?_; rintro r w1 ⟨rfl, b1⟩
  have B1 := Lib.hid (bnext k0 b1); clear b1
  go_wp2_with fail
  refine (awake3 _).mono ?_; rintro r w2 ⟨rfl, b2⟩
  have B2 := Lib.hid (bnext B1.out b2); clear b2
  go_wp2
  go_ret
  exact ⟨rfl, B2.out⟩

set_option maxHeartbeats 2000000 in
set_option maxRecDepth 20000 in
theorem modularadds_yes (a b : ByteArray) (g : Bool) (e m : ByteArray) (S1 S2 S3 : ByteArray) (v : Int) (w : World) (h : Few3 a b e m)
    (c1 : ∀ w, Calls Tryz.prog 12 #[.string a, .string b, .string m] w fun e w' => e = .returned (.tuple #[.string S1, .int .i64 v]) ∧ Below w.heap.size w w')
    (r1 : ∀ w, Calls Tryz.prog 13 #[.string a, .string b, .string m] w fun e w' => e = .returned (.tuple #[.string S1, .int .i64 v]) ∧ Below w.heap.size w w')
    (c2 : ∀ w, Calls Tryz.prog 14 #[.string a, .string b, .string m] w fun e w' => e = .returned (.tuple #[.string S2, .int .i64 v]) ∧ Below w.heap.size w w')
    (r2 : ∀ w, Calls Tryz.prog 15 #[.string a, .string b, .string m] w fun e w' => e = .returned (.tuple #[.string S2, .int .i64 v]) ∧ Below w.heap.size w w')
    (c3 : ∀ w, Calls Tryz.prog 16 #[.string a, .string b, .string m] w fun e w' => e = .returned (.tuple #[.string S3, .int .i64 v]) ∧ Below w.heap.size w w')
    (r3 : ∀ w, Calls Tryz.prog 17 #[.string a, .string b, .string m] w fun e w' => e = .returned (.tuple #[.string S3, .int .i64 v]) ∧ Below w.heap.size w w') :
    Calls Tryz.prog 3 #[.agg #[.string a, .string b, .bool g, .string e, .string m]] w fun r w' => r = .returned (.bool true) ∧ Below w.heap.size w w' := by
  have HF := Lib.hid h; clear h
  have H_c1 := Lib.hid c1; clear c1
  have H_r1 := Lib.hid r1; clear r1
  have H_c2 := Lib.hid c2; clear c2
  have H_r2 := Lib.hid r2; clear r2
  have H_c3 := Lib.hid c3; clear c3
  have H_r3 := Lib.hid r3; clear r3
  have k0 : Below w.heap.size w (w.alloc (.cells #[.string a, .string b, .bool g, .string e, .string m] 26)) := (Below.refl _ _).alloc (Nat.le_refl _) _
  have T0 := Num5.new w a b g e m 26
  have T0h := Lib.hid T0
  obtain ⟨q0, q1, q2, q3, q4, q5⟩ := T0
  go_enter Tryz.func3, Tryz.ntmps3
  go_wp2_with fail
  refine (few3_yes a b g e m _ HF.out).mono ?_; rintro r w1 ⟨rfl, b1⟩
  have T1 := Lib.hid (T0h.out.below b1); clear T0h q0 q1 q2 q3 q4 q5
  have B1 := Lib.hid (bnext k0 b1); clear b1
  obtain ⟨q0, q1, q2, q3, q4, q5⟩ := T1.out
  go_wp2_with fail
  refine (H_c1.out _).mono ?_; rintro r w2 ⟨rfl, b2⟩
  have T2 := Lib.hid (T1.out.below b2); clear T1 q0 q1 q2 q3 q4 q5
  have B2 := Lib.hid (bnext B1.out b2); clear b2 B1
  obtain ⟨q0, q1, q2, q3, q4, q5⟩ := T2.out
  go_wp2_with fail
  refine (H_r1.out _).mono ?_; rintro r w3 ⟨rfl, b3⟩
  have T3 := Lib.hid (T2.out.below b3); clear T2 q0 q1 q2 q3 q4 q5
  have B3 := Lib.hid (bnext B2.out b3); clear b3 B2
  obtain ⟨q0, q1, q2, q3, q4, q5⟩ := T3.out
  go_wp2_with fail
  refine (H_c2.out _).mono ?_; rintro r w4 ⟨rfl, b4⟩
  have T4 := Lib.hid (T3.out.below b4); clear T3 q0 q1 q2 q3 q4 q5
  have B4 := Lib.hid (bnext B3.out b4); clear b4 B3
  obtain ⟨q0, q1, q2, q3, q4, q5⟩ := T4.out
  go_wp2_with fail
  refine (H_r2.out _).mono ?_; rintro r w5 ⟨rfl, b5⟩
  have T5 := Lib.hid (T4.out.below b5); clear T4 q0 q1 q2 q3 q4 q5
  have B5 := Lib.hid (bnext B4.out b5); clear b5 B4
  obtain ⟨q0, q1, q2, q3, q4, q5⟩ := T5.out
  go_wp2_with fail
  refine (H_c3.out _).mono ?_; rintro r w6 ⟨rfl, b6⟩
  have T6 := Lib.hid (T5.out.below b6); clear T5 q0 q1 q2 q3 q4 q5
  have B6 := Lib.hid (bnext B5.out b6); clear b6 B5
  obtain ⟨q0, q1, q2, q3, q4, q5⟩ := T6.out
  go_wp2_with fail
  refine (H_r3.out _).mono ?_; rintro r w7 ⟨rfl, b7⟩
  have T7 := Lib.hid (T6.out.below b7); clear T6 q0 q1 q2 q3 q4 q5
  have B7 := Lib.hid (bnext B6.out b7); clear b7 B6
  go_wp2_with fail
  refine (awake3 _).mono ?_; rintro r w8 ⟨rfl, b8⟩
  have B8 := Lib.hid (bnext B7.out b8); clear b8 B7
  go_wp2
  go_ret
  exact ⟨rfl, B8.out⟩

theorem law_ModularAdds (a b : ByteArray) (g : Bool) (e m : ByteArray) (l1 : a.size ≤ maxLen) (l2 : b.size ≤ maxLen) (l3 : e.size ≤ maxLen) (l4 : m.size ≤ maxLen) (w : World) :
    Calls Tryz.prog 3 #[.agg #[.string a, .string b, .bool g, .string e, .string m]] w fun r w' => r = .returned (.bool true) ∧ Below w.heap.size w w' := by
  unfold maxLen at l1 l2 l3 l4
  by_cases h : Few3 a b e m
  · obtain ⟨S1, S2, S3, v, h1, h2, h3, h4, h5, h6⟩ := adds_agree a b m (by have := h.2.2.2; omega)
    exact modularadds_yes a b g e m S1 S2 S3 v w h h1 h2 h3 h4 h5 h6
  · exact modularadds_skip a b g e m w (by omega) (by omega) (by omega) (by omega) h
end Go.Proofs.YtjbcicgbemepbaaGreatDoor
