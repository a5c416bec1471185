/-
  Layer 3's statements: Ring.
-/
import Derived.Test.YtjbcicgbemepbaaGreatDoorLaw3c
namespace Go.Proofs.YtjbcicgbemepbaaGreatDoor
open Go.RowKit
set_option linter.unusedVariables false

set_option maxHeartbeats 2000000 in
set_option maxRecDepth 20000 in
theorem ring_skip0 (a b xa xb : ByteArray) (g : Bool) (e m : ByteArray) (w : World) (la : a.size ≤ 9223372036854775807) (lb : b.size ≤ 9223372036854775807) (lxa : xa.size ≤ 9223372036854775807) (lxb : xb.size ≤ 9223372036854775807) (le : e.size ≤ 9223372036854775807) (lm : m.size ≤ 9223372036854775807) (h : ¬ Few3 xa xb e m) :
    Calls Tryz.prog 8 #[.string a, .string b, .agg #[.string xa, .string xb, .bool g, .string e, .string m]] w fun r w' => r = .returned (.bool true) ∧ Below w.heap.size w w' := by
  have H_h := Lib.hid h; clear h
  have k0 : Below w.heap.size w (w.alloc (.cells #[.string xa, .string xb, .bool g, .string e, .string m] 26)) := (Below.refl _ _).alloc (Nat.le_refl _) _
  have T0 := Num5.new w xa xb g e m 26
  have T0h := Lib.hid T0
  obtain ⟨q0, q1, q2, q3, q4, q5⟩ := T0
  go_enter Tryz.func8, Tryz.ntmps8
  go_wp2_with fail
  refine (few3_no xa xb g e m _ lxa lxb le lm H_h.out).mono ?_; rintro r w1 ⟨rfl, b1⟩
  have T1 := Lib.hid (T0h.out.below b1); clear T0h q0 q1 q2 q3 q4 q5
  have B1 := Lib.hid (bnext k0 b1); clear b1
  obtain ⟨q0, q1, q2, q3, q4, q5⟩ := T1.out
  go_wp2_with fail
  refine (awake3 _).mono ?_; rintro r w2 ⟨rfl, b2⟩
  have T2 := Lib.hid (T1.out.below b2); clear T1 q0 q1 q2 q3 q4 q5
  have B2 := Lib.hid (bnext B1.out b2); clear b2 B1
  obtain ⟨q0, q1, q2, q3, q4, q5⟩ := T2.out
  go_wp2
  go_ret
  exact ⟨rfl, B2.out⟩

set_option maxHeartbeats 2000000 in
set_option maxRecDepth 20000 in
theorem ring_skip1 (a b xa xb : ByteArray) (g : Bool) (e m : ByteArray) (w : World) (la : a.size ≤ 9223372036854775807) (lb : b.size ≤ 9223372036854775807) (lxa : xa.size ≤ 9223372036854775807) (lxb : xb.size ≤ 9223372036854775807) (le : e.size ≤ 9223372036854775807) (lm : m.size ≤ 9223372036854775807) (h : Few3 xa xb e m) (ha : (24 : Int) < a.size) :
    Calls Tryz.prog 8 #[.string a, .string b, .agg #[.string xa, .string xb, .bool g, .string e, .string m]] w fun r w' => r = .returned (.bool true) ∧ Below w.heap.size w w' := by
  have H_h := Lib.hid h; clear h
  have k0 : Below w.heap.size w (w.alloc (.cells #[.string xa, .string xb, .bool g, .string e, .string m] 26)) := (Below.refl _ _).alloc (Nat.le_refl _) _
  have T0 := Num5.new w xa xb g e m 26
  have T0h := Lib.hid T0
  obtain ⟨q0, q1, q2, q3, q4, q5⟩ := T0
  go_enter Tryz.func8, Tryz.ntmps8
  go_wp2_with fail
  refine (few3_yes xa xb g e m _ H_h.out).mono ?_; rintro r w1 ⟨rfl, b1⟩
  have T1 := Lib.hid (T0h.out.below b1); clear T0h q0 q1 q2 q3 q4 q5
  have B1 := Lib.hid (bnext k0 b1); clear b1
  obtain ⟨q0, q1, q2, q3, q4, q5⟩ := T1.out
  go_wp2_with fail
  refine (awake3 _).mono ?_; rintro r w2 ⟨rfl, b2⟩
  have T2 := Lib.hid (T1.out.below b2); clear T1 q0 q1 q2 q3 q4 q5
  have B2 := Lib.hid (bnext B1.out b2); clear b2 B1
  obtain ⟨q0, q1, q2, q3, q4, q5⟩ := T2.out
  go_wp2
  go_ret
  exact ⟨rfl, B2.out⟩

set_option maxHeartbeats 2000000 in
set_option maxRecDepth 20000 in
theorem ring_skip2 (a b xa xb : ByteArray) (g : Bool) (e m : ByteArray) (w : World) (la : a.size ≤ 9223372036854775807) (lb : b.size ≤ 9223372036854775807) (lxa : xa.size ≤ 9223372036854775807) (lxb : xb.size ≤ 9223372036854775807) (le : e.size ≤ 9223372036854775807) (lm : m.size ≤ 9223372036854775807) (h : Few3 xa xb e m) (ha : ¬ (24 : Int) < a.size) (hb : (24 : Int) < b.size) :
    Calls Tryz.prog 8 #[.string a, .string b, .agg #[.string xa, .string xb, .bool g, .string e, .string m]] w fun r w' => r = .returned (.bool true) ∧ Below w.heap.size w w' := by
  have H_h := Lib.hid h; clear h
  have k0 : Below w.heap.size w (w.alloc (.cells #[.string xa, .string xb, .bool g, .string e, .string m] 26)) := (Below.refl _ _).alloc (Nat.le_refl _) _
  have T0 := Num5.new w xa xb g e m 26
  have T0h := Lib.hid T0
  obtain ⟨q0, q1, q2, q3, q4, q5⟩ := T0
  go_enter Tryz.func8, Tryz.ntmps8
  go_wp2_with fail
  refine (few3_yes xa xb g e m _ H_h.out).mono ?_; rintro r w1 ⟨rfl, b1⟩
  have T1 := Lib.hid (T0h.out.below b1); clear T0h q0 q1 q2 q3 q4 q5
  have B1 := Lib.hid (bnext k0 b1); clear b1
  obtain ⟨q0, q1, q2, q3, q4, q5⟩ := T1.out
  go_wp2_with fail
  refine (awake3 _).mono ?_; rintro r w2 ⟨rfl, b2⟩
  have T2 := Lib.hid (T1.out.below b2); clear T1 q0 q1 q2 q3 q4 q5
  have B2 := Lib.hid (bnext B1.out b2); clear b2 B1
  obtain ⟨q0, q1, q2, q3, q4, q5⟩ := T2.out
  go_wp2
  go_ret
  exact ⟨rfl, B2.out⟩

set_option maxHeartbeats 2000000 in
set_option maxRecDepth 20000 in
theorem ring_bad0 (a b xa xb : ByteArray) (g : Bool) (e m : ByteArray) (w : World) (la : a.size ≤ 9223372036854775807) (lb : b.size ≤ 9223372036854775807) (lxa : xa.size ≤ 9223372036854775807) (lxb : xb.size ≤ 9223372036854775807) (le : e.size ≤ 9223372036854775807) (lm : m.size ≤ 9223372036854775807) (h : Few3 xa xb e m) (ha : ¬ (24 : Int) < a.size) (hb : ¬ (24 : Int) < b.size) (ca : ¬ Can a) :
    Calls Tryz.prog 8 #[.string a, .string b, .agg #[.string xa, .string xb, .bool g, .string e, .string m]] w fun r w' => r = .returned (.bool true) ∧ Below w.heap.size w w' := by
  have H_h := Lib.hid h; clear h
  have H_ca := Lib.hid ca; clear ca
  have k0 : Below w.heap.size w (w.alloc (.cells #[.string xa, .string xb, .bool g, .string e, .string m] 26)) := (Below.refl _ _).alloc (Nat.le_refl _) _
  have T0 := Num5.new w xa xb g e m 26
  have T0h := Lib.hid T0
  obtain ⟨q0, q1, q2, q3, q4, q5⟩ := T0
  go_enter Tryz.func8, Tryz.ntmps8
  go_wp2_with fail
  refine (few3_yes xa xb g e m _ H_h.out).mono ?_; rintro r w1 ⟨rfl, b1⟩
  have T1 := Lib.hid (T0h.out.below b1); clear T0h q0 q1 q2 q3 q4 q5
  have B1 := Lib.hid (bnext k0 b1); clear b1
  obtain ⟨q0, q1, q2, q3, q4, q5⟩ := T1.out
  go_wp2_with fail
  refine (rvalid_no a _ H_ca.out).mono ?_; rintro r wx ⟨rfl, rfl⟩
  go_wp2_with fail
  refine (awake3 _).mono ?_; rintro r w2 ⟨rfl, b2⟩
  have T2 := Lib.hid (T1.out.below b2); clear T1 q0 q1 q2 q3 q4 q5
  have B2 := Lib.hid (bnext B1.out b2); clear b2 B1
  obtain ⟨q0, q1, q2, q3, q4, q5⟩ := T2.out
  go_wp2
  go_ret
  exact ⟨rfl, B2.out⟩

set_option maxHeartbeats 2000000 in
set_option maxRecDepth 20000 in
theorem ring_bad1 (a b xa xb : ByteArray) (g : Bool) (e m : ByteArray) (w : World) (la : a.size ≤ 9223372036854775807) (lb : b.size ≤ 9223372036854775807) (lxa : xa.size ≤ 9223372036854775807) (lxb : xb.size ≤ 9223372036854775807) (le : e.size ≤ 9223372036854775807) (lm : m.size ≤ 9223372036854775807) (h : Few3 xa xb e m) (ha : ¬ (24 : Int) < a.size) (hb : ¬ (24 : Int) < b.size) (ca : Can a) (cb : ¬ Can b) :
    Calls Tryz.prog 8 #[.string a, .string b, .agg #[.string xa, .string xb, .bool g, .string e, .string m]] w fun r w' => r = .returned (.bool true) ∧ Below w.heap.size w w' := by
  have H_h := Lib.hid h; clear h
  have H_ca := Lib.hid ca; clear ca
  have H_cb := Lib.hid cb; clear cb
  have k0 : Below w.heap.size w (w.alloc (.cells #[.string xa, .string xb, .bool g, .string e, .string m] 26)) := (Below.refl _ _).alloc (Nat.le_refl _) _
  have T0 := Num5.new w xa xb g e m 26
  have T0h := Lib.hid T0
  obtain ⟨q0, q1, q2, q3, q4, q5⟩ := T0
  go_enter Tryz.func8, Tryz.ntmps8
  go_wp2_with fail
  refine (few3_yes xa xb g e m _ H_h.out).mono ?_; rintro r w1 ⟨rfl, b1⟩
  have T1 := Lib.hid (T0h.out.below b1); clear T0h q0 q1 q2 q3 q4 q5
  have B1 := Lib.hid (bnext k0 b1); clear b1
  obtain ⟨q0, q1, q2, q3, q4, q5⟩ := T1.out
  go_wp2_with fail
  refine (rvalid_yes a _ H_ca.out).mono ?_; rintro r wx ⟨rfl, rfl⟩
  go_wp2_with fail
  refine (rvalid_no b _ H_cb.out).mono ?_; rintro r wx ⟨rfl, rfl⟩
  go_wp2_with fail
  refine (awake3 _).mono ?_; rintro r w2 ⟨rfl, b2⟩
  have T2 := Lib.hid (T1.out.below b2); clear T1 q0 q1 q2 q3 q4 q5
  have B2 := Lib.hid (bnext B1.out b2); clear b2 B1
  obtain ⟨q0, q1, q2, q3, q4, q5⟩ := T2.out
  go_wp2
  go_ret
  exact ⟨rfl, B2.out⟩

set_option maxHeartbeats 2000000 in
set_option maxRecDepth 20000 in
theorem ring_bad2 (a b xa xb : ByteArray) (g : Bool) (e m : ByteArray) (w : World) (la : a.size ≤ 9223372036854775807) (lb : b.size ≤ 9223372036854775807) (lxa : xa.size ≤ 9223372036854775807) (lxb : xb.size ≤ 9223372036854775807) (le : e.size ≤ 9223372036854775807) (lm : m.size ≤ 9223372036854775807) (h : Few3 xa xb e m) (ha : ¬ (24 : Int) < a.size) (hb : ¬ (24 : Int) < b.size) (ca : Can a) (cb : Can b) (cx : ¬ Can xa) :
    Calls Tryz.prog 8 #[.string a, .string b, .agg #[.string xa, .string xb, .bool g, .string e, .string m]] w fun r w' => r = .returned (.bool true) ∧ Below w.heap.size w w' := by
  have H_h := Lib.hid h; clear h
  have H_ca := Lib.hid ca; clear ca
  have H_cb := Lib.hid cb; clear cb
  have H_cx := Lib.hid cx; clear cx
  have k0 : Below w.heap.size w (w.alloc (.cells #[.string xa, .string xb, .bool g, .string e, .string m] 26)) := (Below.refl _ _).alloc (Nat.le_refl _) _
  have T0 := Num5.new w xa xb g e m 26
  have T0h := Lib.hid T0
  obtain ⟨q0, q1, q2, q3, q4, q5⟩ := T0
  go_enter Tryz.func8, Tryz.ntmps8
  go_wp2_with fail
  refine (few3_yes xa xb g e m _ H_h.out).mono ?_; rintro r w1 ⟨rfl, b1⟩
  have T1 := Lib.hid (T0h.out.below b1); clear T0h q0 q1 q2 q3 q4 q5
  have B1 := Lib.hid (bnext k0 b1); clear b1
  obtain ⟨q0, q1, q2, q3, q4, q5⟩ := T1.out
  go_wp2_with fail
  refine (rvalid_yes a _ H_ca.out).mono ?_; rintro r wx ⟨rfl, rfl⟩
  go_wp2_with fail
  refine (rvalid_yes b _ H_cb.out).mono ?_; rintro r wx ⟨rfl, rfl⟩
  go_wp2_with fail
  refine (rvalid_no xa _ H_cx.out).mono ?_; rintro r wx ⟨rfl, rfl⟩
  go_wp2_with fail
  refine (awake3 _).mono ?_; rintro r w2 ⟨rfl, b2⟩
  have T2 := Lib.hid (T1.out.below b2); clear T1 q0 q1 q2 q3 q4 q5
  have B2 := Lib.hid (bnext B1.out b2); clear b2 B1
  obtain ⟨q0, q1, q2, q3, q4, q5⟩ := T2.out
  go_wp2
  go_ret
  exact ⟨rfl, B2.out⟩

set_option maxHeartbeats 2000000 in
set_option maxRecDepth 20000 in
theorem ring_bad3 (a b xa xb : ByteArray) (g : Bool) (e m : ByteArray) (w : World) (la : a.size ≤ 9223372036854775807) (lb : b.size ≤ 9223372036854775807) (lxa : xa.size ≤ 9223372036854775807) (lxb : xb.size ≤ 9223372036854775807) (le : e.size ≤ 9223372036854775807) (lm : m.size ≤ 9223372036854775807) (h : Few3 xa xb e m) (ha : ¬ (24 : Int) < a.size) (hb : ¬ (24 : Int) < b.size) (ca : Can a) (cb : Can b) (cx : Can xa) (cm : ¬ Can m) :
    Calls Tryz.prog 8 #[.string a, .string b, .agg #[.string xa, .string xb, .bool g, .string e, .string m]] w fun r w' => r = .returned (.bool true) ∧ Below w.heap.size w w' := by
  have H_h := Lib.hid h; clear h
  have H_ca := Lib.hid ca; clear ca
  have H_cb := Lib.hid cb; clear cb
  have H_cx := Lib.hid cx; clear cx
  have H_cm := Lib.hid cm; clear cm
  have k0 : Below w.heap.size w (w.alloc (.cells #[.string xa, .string xb, .bool g, .string e, .string m] 26)) := (Below.refl _ _).alloc (Nat.le_refl _) _
  have T0 := Num5.new w xa xb g e m 26
  have T0h := Lib.hid T0
  obtain ⟨q0, q1, q2, q3, q4, q5⟩ := T0
  go_enter Tryz.func8, Tryz.ntmps8
  go_wp2_with fail
  refine (few3_yes xa xb g e m _ H_h.out).mono ?_; rintro r w1 ⟨rfl, b1⟩
  have T1 := Lib.hid (T0h.out.below b1); clear T0h q0 q1 q2 q3 q4 q5
  have B1 := Lib.hid (bnext k0 b1); clear b1
  obtain ⟨q0, q1, q2, q3, q4, q5⟩ := T1.out
  go_wp2_with fail
  refine (rvalid_yes a _ H_ca.out).mono ?_; rintro r wx ⟨rfl, rfl⟩
  go_wp2_with fail
  refine (rvalid_yes b _ H_cb.out).mono ?_; rintro r wx ⟨rfl, rfl⟩
  go_wp2_with fail
  refine (rvalid_yes xa _ H_cx.out).mono ?_; rintro r wx ⟨rfl, rfl⟩
  go_wp2_with fail
  refine (rvalid_no m _ H_cm.out).mono ?_; rintro r wx ⟨rfl, rfl⟩
  go_wp2_with fail
  refine (awake3 _).mono ?_; rintro r w2 ⟨rfl, b2⟩
  have T2 := Lib.hid (T1.out.below b2); clear T1 q0 q1 q2 q3 q4 q5
  have B2 := Lib.hid (bnext B1.out b2); clear b2 B1
  obtain ⟨q0, q1, q2, q3, q4, q5⟩ := T2.out
  go_wp2
  go_ret
  exact ⟨rfl, B2.out⟩

set_option maxHeartbeats 2000000 in
set_option maxRecDepth 20000 in
theorem ring_zero (a b xa xb : ByteArray) (g : Bool) (e m : ByteArray) (w : World) (la : a.size ≤ 9223372036854775807) (lb : b.size ≤ 9223372036854775807) (lxa : xa.size ≤ 9223372036854775807) (lxb : xb.size ≤ 9223372036854775807) (le : e.size ≤ 9223372036854775807) (lm : m.size ≤ 9223372036854775807) (h : Few3 xa xb e m) (ha : ¬ (24 : Int) < a.size) (hb : ¬ (24 : Int) < b.size) (ca : Can a) (cb : Can b) (cx : Can xa) (cm : Can m) (hE : m.toList.isEmpty = true) :
    Calls Tryz.prog 8 #[.string a, .string b, .agg #[.string xa, .string xb, .bool g, .string e, .string m]] w fun r w' => r = .returned (.bool true) ∧ Below w.heap.size w w' := by
  have H_h := Lib.hid h; clear h
  have H_ca := Lib.hid ca; clear ca
  have H_cb := Lib.hid cb; clear cb
  have H_cx := Lib.hid cx; clear cx
  have H_cm := Lib.hid cm; clear cm
  have k0 : Below w.heap.size w (w.alloc (.cells #[.string xa, .string xb, .bool g, .string e, .string m] 26)) := (Below.refl _ _).alloc (Nat.le_refl _) _
  have T0 := Num5.new w xa xb g e m 26
  have T0h := Lib.hid T0
  obtain ⟨q0, q1, q2, q3, q4, q5⟩ := T0
  go_enter Tryz.func8, Tryz.ntmps8
  go_wp2_with fail
  refine (few3_yes xa xb g e m _ H_h.out).mono ?_; rintro r w1 ⟨rfl, b1⟩
  have T1 := Lib.hid (T0h.out.below b1); clear T0h q0 q1 q2 q3 q4 q5
  have B1 := Lib.hid (bnext k0 b1); clear b1
  obtain ⟨q0, q1, q2, q3, q4, q5⟩ := T1.out
  go_wp2_with fail
  refine (rvalid_yes a _ H_ca.out).mono ?_; rintro r wx ⟨rfl, rfl⟩
  go_wp2_with fail
  refine (rvalid_yes b _ H_cb.out).mono ?_; rintro r wx ⟨rfl, rfl⟩
  go_wp2_with fail
  refine (rvalid_yes xa _ H_cx.out).mono ?_; rintro r wx ⟨rfl, rfl⟩
  go_wp2_with fail
  refine (rvalid_yes m _ H_cm.out).mono ?_; rintro r wx ⟨rfl, rfl⟩
  go_wp2_with fail
  refine (awake3 _).mono ?_; rintro r w2 ⟨rfl, b2⟩
  have T2 := Lib.hid (T1.out.below b2); clear T1 q0 q1 q2 q3 q4 q5
  have B2 := Lib.hid (bnext B1.out b2); clear b2 B1
  obtain ⟨q0, q1, q2, q3, q4, q5⟩ := T2.out
  go_wp2
  go_ret
  exact ⟨rfl, B2.out⟩

set_option maxHeartbeats 2000000 in
set_option maxRecDepth 20000 in
theorem ring_yes (a b xa xb : ByteArray) (g : Bool) (e m : ByteArray) (S K P L U R O : ByteArray) (w : World) (la : a.size ≤ 9223372036854775807) (lb : b.size ≤ 9223372036854775807) (lxa : xa.size ≤ 9223372036854775807) (lxb : xb.size ≤ 9223372036854775807) (le : e.size ≤ 9223372036854775807) (lm : m.size ≤ 9223372036854775807) (h : Few3 xa xb e m) (ha : ¬ (24 : Int) < a.size) (hb : ¬ (24 : Int) < b.size) (ca : Can a) (cb : Can b) (cx : Can xa) (cm : Can m) (hE : m.toList.isEmpty = false)
    (f0 : ∀ w, Calls Tryz.prog 12 #[.string a, .string b, .string m] w fun r w' => r = .returned (.tuple #[.string S, .int .i64 0]) ∧ Below w.heap.size w w')
    (f1 : ∀ w, Calls Tryz.prog 12 #[.string b, .string a, .string m] w fun r w' => r = .returned (.tuple #[.string S, .int .i64 0]) ∧ Below w.heap.size w w')
    (f2 : ∀ w, Calls Tryz.prog 14 #[.string S, .string b, .string m] w fun r w' => r = .returned (.tuple #[.string K, .int .i64 0]) ∧ Below w.heap.size w w')
    (f3 : ∀ w, Calls Tryz.prog 16 #[.string a, .string b, .string m] w fun r w' => r = .returned (.tuple #[.string P, .int .i64 0]) ∧ Below w.heap.size w w')
    (f4 : ∀ w, Calls Tryz.prog 16 #[.string b, .string a, .string m] w fun r w' => r = .returned (.tuple #[.string P, .int .i64 0]) ∧ Below w.heap.size w w')
    (f5 : ∀ w, Calls Tryz.prog 16 #[.string xa, .string S, .string m] w fun r w' => r = .returned (.tuple #[.string L, .int .i64 0]) ∧ Below w.heap.size w w')
    (f6 : ∀ w, Calls Tryz.prog 16 #[.string xa, .string a, .string m] w fun r w' => r = .returned (.tuple #[.string U, .int .i64 0]) ∧ Below w.heap.size w w')
    (f7 : ∀ w, Calls Tryz.prog 16 #[.string xa, .string b, .string m] w fun r w' => r = .returned (.tuple #[.string R, .int .i64 0]) ∧ Below w.heap.size w w')
    (f8 : ∀ w, Calls Tryz.prog 12 #[.string U, .string R, .string m] w fun r w' => r = .returned (.tuple #[.string L, .int .i64 0]) ∧ Below w.heap.size w w')
    (f9 : ∀ w, Calls Tryz.prog 16 #[.string xa, .string P, .string m] w fun r w' => r = .returned (.tuple #[.string O, .int .i64 0]) ∧ Below w.heap.size w w')
    (f10 : ∀ w, Calls Tryz.prog 16 #[.string U, .string b, .string m] w fun r w' => r = .returned (.tuple #[.string O, .int .i64 0]) ∧ Below w.heap.size w w')
    (f11 : ∀ w, Calls Tryz.prog 24 #[.string a, .string m] w fun r w' => r = .returned (.string K) ∧ Below w.heap.size w w') :
    Calls Tryz.prog 8 #[.string a, .string b, .agg #[.string xa, .string xb, .bool g, .string e, .string m]] w fun r w' => r = .returned (.bool true) ∧ Below w.heap.size w w' := by
  have H_h := Lib.hid h; clear h
  have H_ca := Lib.hid ca; clear ca
  have H_cb := Lib.hid cb; clear cb
  have H_cx := Lib.hid cx; clear cx
  have H_cm := Lib.hid cm; clear cm
  have H_f0 := Lib.hid f0; clear f0
  have H_f1 := Lib.hid f1; clear f1
  have H_f2 := Lib.hid f2; clear f2
  have H_f3 := Lib.hid f3; clear f3
  have H_f4 := Lib.hid f4; clear f4
  have H_f5 := Lib.hid f5; clear f5
  have H_f6 := Lib.hid f6; clear f6
  have H_f7 := Lib.hid f7; clear f7
  have H_f8 := Lib.hid f8; clear f8
  have H_f9 := Lib.hid f9; clear f9
  have H_f10 := Lib.hid f10; clear f10
  have H_f11 := Lib.hid f11; clear f11
  have k0 : Below w.heap.size w (w.alloc (.cells #[.string xa, .string xb, .bool g, .string e, .string m] 26)) := (Below.refl _ _).alloc (Nat.le_refl _) _
  have T0 := Num5.new w xa xb g e m 26
  have T0h := Lib.hid T0
  obtain ⟨q0, q1, q2, q3, q4, q5⟩ := T0
  go_enter Tryz.func8, Tryz.ntmps8
  go_wp2_with fail
  refine (few3_yes xa xb g e m _ H_h.out).mono ?_; rintro r w1 ⟨rfl, b1⟩
  have T1 := Lib.hid (T0h.out.below b1); clear T0h q0 q1 q2 q3 q4 q5
  have B1 := Lib.hid (bnext k0 b1); clear b1
  obtain ⟨q0, q1, q2, q3, q4, q5⟩ := T1.out
  go_wp2_with fail
  refine (rvalid_yes a _ H_ca.out).mono ?_; rintro r wx ⟨rfl, rfl⟩
  go_wp2_with fail
  refine (rvalid_yes b _ H_cb.out).mono ?_; rintro r wx ⟨rfl, rfl⟩
  go_wp2_with fail
  refine (rvalid_yes xa _ H_cx.out).mono ?_; rintro r wx ⟨rfl, rfl⟩
  go_wp2_with fail
  refine (rvalid_yes m _ H_cm.out).mono ?_; rintro r wx ⟨rfl, rfl⟩
  go_wp2_with fail
  refine (H_f0.out _).mono ?_; rintro r w2 ⟨rfl, b2⟩
  have T2 := Lib.hid (T1.out.below b2); clear T1 q0 q1 q2 q3 q4 q5
  have B2 := Lib.hid (bnext B1.out b2); clear b2 B1
  obtain ⟨q0, q1, q2, q3, q4, q5⟩ := T2.out
  go_wp2_with fail
  refine (H_f1.out _).mono ?_; rintro r w3 ⟨rfl, b3⟩
  have T3 := Lib.hid (T2.out.below b3); clear T2 q0 q1 q2 q3 q4 q5
  have B3 := Lib.hid (bnext B2.out b3); clear b3 B2
  obtain ⟨q0, q1, q2, q3, q4, q5⟩ := T3.out
  go_wp2_with fail
  refine (H_f2.out _).mono ?_; rintro r w4 ⟨rfl, b4⟩
  have T4 := Lib.hid (T3.out.below b4); clear T3 q0 q1 q2 q3 q4 q5
  have B4 := Lib.hid (bnext B3.out b4); clear b4 B3
  obtain ⟨q0, q1, q2, q3, q4, q5⟩ := T4.out
  go_wp2_with fail
  refine (H_f3.out _).mono ?_; rintro r w5 ⟨rfl, b5⟩
  have T5 := Lib.hid (T4.out.below b5); clear T4 q0 q1 q2 q3 q4 q5
  have B5 := Lib.hid (bnext B4.out b5); clear b5 B4
  obtain ⟨q0, q1, q2, q3, q4, q5⟩ := T5.out
  go_wp2_with fail
  refine (H_f4.out _).mono ?_; rintro r w6 ⟨rfl, b6⟩
  have T6 := Lib.hid (T5.out.below b6); clear T5 q0 q1 q2 q3 q4 q5
  have B6 := Lib.hid (bnext B5.out b6); clear b6 B5
  obtain ⟨q0, q1, q2, q3, q4, q5⟩ := T6.out
  go_wp2_with fail
  refine (H_f5.out _).mono ?_; rintro r w7 ⟨rfl, b7⟩
  have T7 := Lib.hid (T6.out.below b7); clear T6 q0 q1 q2 q3 q4 q5
  have B7 := Lib.hid (bnext B6.out b7); clear b7 B6
  obtain ⟨q0, q1, q2, q3, q4, q5⟩ := T7.out
  go_wp2_with fail
  refine (H_f6.out _).mono ?_; rintro r w8 ⟨rfl, b8⟩
  have T8 := Lib.hid (T7.out.below b8); clear T7 q0 q1 q2 q3 q4 q5
  have B8 := Lib.hid (bnext B7.out b8); clear b8 B7
  obtain ⟨q0, q1, q2, q3, q4, q5⟩ := T8.out
  go_wp2_with fail
  refine (H_f7.out _).mono ?_; rintro r w9 ⟨rfl, b9⟩
  have T9 := Lib.hid (T8.out.below b9); clear T8 q0 q1 q2 q3 q4 q5
  have B9 := Lib.hid (bnext B8.out b9); clear b9 B8
  obtain ⟨q0, q1, q2, q3, q4, q5⟩ := T9.out
  go_wp2_with fail
  refine (H_f8.out _).mono ?_; rintro r w10 ⟨rfl, b10⟩
  have T10 := Lib.hid (T9.out.below b10); clear T9 q0 q1 q2 q3 q4 q5
  have B10 := Lib.hid (bnext B9.out b10); clear b10 B9
  obtain ⟨q0, q1, q2, q3, q4, q5⟩ := T10.out
  go_wp2_with fail
  refine (H_f9.out _).mono ?_; rintro r w11 ⟨rfl, b11⟩
  have T11 := Lib.hid (T10.out.below b11); clear T10 q0 q1 q2 q3 q4 q5
  have B11 := Lib.hid (bnext B10.out b11); clear b11 B10
  obtain ⟨q0, q1, q2, q3, q4, q5⟩ := T11.out
  go_wp2_with fail
  refine (H_f10.out _).mono ?_; rintro r w12 ⟨rfl, b12⟩
  have T12 := Lib.hid (T11.out.below b12); clear T11 q0 q1 q2 q3 q4 q5
  have B12 := Lib.hid (bnext B11.out b12); clear b12 B11
  obtain ⟨q0, q1, q2, q3, q4, q5⟩ := T12.out
  go_wp2_with fail
  refine (awake3 _).mono ?_; rintro r w13 ⟨rfl, b13⟩
  have T13 := Lib.hid (T12.out.below b13); clear T12 q0 q1 q2 q3 q4 q5
  have B13 := Lib.hid (bnext B12.out b13); clear b13 B12
  obtain ⟨q0, q1, q2, q3, q4, q5⟩ := T13.out
  go_wp2_with fail
  refine (H_f11.out _).mono ?_; rintro r w14 ⟨rfl, b14⟩
  have T14 := Lib.hid (T13.out.below b14); clear T13 q0 q1 q2 q3 q4 q5
  have B14 := Lib.hid (bnext B13.out b14); clear b14 B13
  obtain ⟨q0, q1, q2, q3, q4, q5⟩ := T14.out
  go_wp2
  go_ret
  exact ⟨rfl, B14.out⟩

theorem ring_num1 (a b m : Nat) (hm : 0 < m) : subM ((a + b) % m) b m = a % m := by
  unfold subM
  have h := Nat.mod_lt b hm
  have e : a + b + (m - b % m) = a + m * (1 + b / m) := by
    have := Nat.div_add_mod b m
    rw [Nat.mul_add, Nat.mul_one]; omega
  rw [Nat.mod_add_mod, e, Nat.add_mul_mod_self_left]
theorem ring_num2 (x a b m : Nat) : (x * a % m + x * b % m) % m = x * ((a + b) % m) % m := by
  rw [← Nat.add_mod, ← Nat.mul_add, Nat.mul_mod_mod]
theorem ring_num3 (x a b m : Nat) : x * a % m * b % m = x * (a * b % m) % m := by
  rw [Nat.mod_mul_mod, Nat.mul_mod_mod, Nat.mul_assoc]
theorem law_ModularRing (a b xa xb : ByteArray) (g : Bool) (e m : ByteArray) (l1 : a.size ≤ maxLen) (l2 : b.size ≤ maxLen) (l3 : xa.size ≤ maxLen) (l4 : xb.size ≤ maxLen) (l5 : e.size ≤ maxLen) (l6 : m.size ≤ maxLen) (w : World) :
    Calls Tryz.prog 8 #[.string a, .string b, .agg #[.string xa, .string xb, .bool g, .string e, .string m]] w fun r w' => r = .returned (.bool true) ∧ Below w.heap.size w w' := by
  unfold maxLen at l1 l2 l3 l4 l5 l6
  have l1 : a.size ≤ 9223372036854775807 := by omega
  have l2 : b.size ≤ 9223372036854775807 := by omega
  have l3 : xa.size ≤ 9223372036854775807 := by omega
  have l4 : xb.size ≤ 9223372036854775807 := by omega
  have l5 : e.size ≤ 9223372036854775807 := by omega
  have l6 : m.size ≤ 9223372036854775807 := by omega
  by_cases h : Few3 xa xb e m
  · by_cases ha : (24 : Int) < a.size
    · exact ring_skip1 a b xa xb g e m w l1 l2 l3 l4 l5 l6 h ha
    · by_cases hb : (24 : Int) < b.size
      · exact ring_skip2 a b xa xb g e m w l1 l2 l3 l4 l5 l6 h ha hb
      · by_cases ca : Can a
        · by_cases cb : Can b
          · by_cases cx : Can xa
            · by_cases cm : Can m
              · by_cases h0 : m.size = 0
                · exact ring_zero a b xa xb g e m w l1 l2 l3 l4 l5 l6 h ha hb ca cb cx cm (empty_of h0)
                · have h0 : 0 < m.size := by omega
                  have hmp := can_pos cm h0
                  have hlt : ∀ x, Can (E (x % V m)) := fun x => can_E' (Nat.lt_trans (Nat.mod_lt _ hmp) (V_lim cm))
                  have f0 := fun w => madd_ok a b m w ca cb cm h0
                  have f1 := fun w => madd_ok b a m w cb ca cm h0
                  rw [Nat.add_comm (V b)] at f1
                  have f2 := fun w => msub_ok (E ((V a + V b) % V m)) b m w (hlt _) cb cm h0
                  rw [V_E, ring_num1 _ _ _ hmp] at f2
                  have f3 := fun w => mmul_ok a b m w ca cb cm h0
                  have f4 := fun w => mmul_ok b a m w cb ca cm h0
                  rw [Nat.mul_comm (V b)] at f4
                  have f5 := fun w => mmul_ok xa (E ((V a + V b) % V m)) m w cx (hlt _) cm h0
                  rw [V_E] at f5
                  have f6 := fun w => mmul_ok xa a m w cx ca cm h0
                  have f7 := fun w => mmul_ok xa b m w cx cb cm h0
                  have f8 := fun w => madd_ok (E (V xa * V a % V m)) (E (V xa * V b % V m)) m w (hlt _) (hlt _) cm h0
                  rw [V_E, V_E, ring_num2] at f8
                  have f9 := fun w => mmul_ok xa (E (V a * V b % V m)) m w cx (hlt _) cm h0
                  rw [V_E] at f9
                  have f10 := fun w => mmul_ok (E (V xa * V a % V m)) b m w (hlt _) cb cm h0
                  rw [V_E, ring_num3] at f10
                  exact ring_yes a b xa xb g e m _ _ _ _ _ _ _ w l1 l2 l3 l4 l5 l6 h ha hb ca cb cx cm (not_empty_of (by omega)) f0 f1 f2 f3 f4 f5 f6 f7 f8 f9 f10 (fun w => rmod_any a m w ca cm hmp)
              · exact ring_bad3 a b xa xb g e m w l1 l2 l3 l4 l5 l6 h ha hb ca cb cx cm
            · exact ring_bad2 a b xa xb g e m w l1 l2 l3 l4 l5 l6 h ha hb ca cb cx
          · exact ring_bad1 a b xa xb g e m w l1 l2 l3 l4 l5 l6 h ha hb ca cb
        · exact ring_bad0 a b xa xb g e m w l1 l2 l3 l4 l5 l6 h ha hb ca
  · exact ring_skip0 a b xa xb g e m w l1 l2 l3 l4 l5 l6 h
end Go.Proofs.YtjbcicgbemepbaaGreatDoor
