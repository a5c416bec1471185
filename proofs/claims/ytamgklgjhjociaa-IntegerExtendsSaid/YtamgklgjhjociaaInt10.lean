/-
  Contracts of package integer and of its reference: Mod, Divide.
-/
import Derived.Test.YtamgklgjhjociaaInt9
namespace Go.Proofs.Ytamgklgjhjociaa
open Go.RowKit
set_option linter.unusedVariables false

theorem Two.out {w : World} {g : Nat} {c0 c1 : Value} (h : Two w g c0 c1) : w.cell? ⟨g, 0, none⟩ = some c0 ∧ w.cell? ⟨g, 1, none⟩ = some c1 := ⟨h.1, h.2.1⟩

set_option maxHeartbeats 800000 in
set_option maxRecDepth 20000 in
theorem idivide_err (g1 g2 G : Bool) (s1 s2 S t : ByteArray) (v : Int) (w : World) (hv : ¬ v = 0) (hl1 : 0 ≤ v) (hl2 : v ≤ 100)
    (hD : ∀ w, Calls Try.prog 32 #[.agg #[.bool g1, .string s1], .agg #[.bool g2, .string s2]] w fun e w' => e = .returned (.tuple #[.agg #[.bool G, .string S], .string t, .int .i64 v]) ∧ Below w.heap.size w w') :
    Calls Try.prog 36 #[.agg #[.bool g1, .string s1], .agg #[.bool g2, .string s2]] w fun e w' => e = .returned (.tuple #[.agg #[.bool false, .string ⟨#[]⟩], .int .i64 v]) ∧ Below w.heap.size w w' := by
  skip
  have HD := Lib.hid hD; clear hD
  go_enter Try.func36, Try.ntmps36
  go_wp2_with fail
  refine (HD.out _).mono ?_; rintro e w1 ⟨rfl, b1⟩
  obtain ⟨T1, T2, T3, k1⟩ := after3 b1
  have T5 := (T3.set (.bool false) (.string ⟨#[]⟩)).alloc (.cells #[.bool G, .string S] 24)
  obtain ⟨r1, r2⟩ := T5.out
  obtain ⟨q1, q2, q3, q4, q5⟩ := T3
  go_wp2
  refine bodyPost_ret (v := .tuple #[.agg #[.bool false, .string ⟨#[]⟩], .int .i64 v]) (by simp [results, Try.results36, go_sem, r1, r2]) rfl ⟨rfl, ?_⟩
  exact (bset k1 (by omega)).alloc (by simp; exact k1.size) _

set_option maxHeartbeats 800000 in
set_option maxRecDepth 20000 in
theorem idivide_rest (g1 g2 G : Bool) (s1 s2 S t : ByteArray) (v : Int) (w : World) (hv : v = 0) (ht : t.toList.isEmpty = false)
    (hD : ∀ w, Calls Try.prog 32 #[.agg #[.bool g1, .string s1], .agg #[.bool g2, .string s2]] w fun e w' => e = .returned (.tuple #[.agg #[.bool G, .string S], .string t, .int .i64 v]) ∧ Below w.heap.size w w') :
    Calls Try.prog 36 #[.agg #[.bool g1, .string s1], .agg #[.bool g2, .string s2]] w fun e w' => e = .returned (.tuple #[.agg #[.bool false, .string ⟨#[]⟩], .int .i64 1]) ∧ Below w.heap.size w w' := by
  subst hv
  have HD := Lib.hid hD; clear hD
  go_enter Try.func36, Try.ntmps36
  go_wp2_with fail
  refine (HD.out _).mono ?_; rintro e w1 ⟨rfl, b1⟩
  obtain ⟨T1, T2, T3, k1⟩ := after3 b1
  have T5 := (T3.set (.bool false) (.string ⟨#[]⟩)).alloc (.cells #[.bool G, .string S] 24)
  obtain ⟨r1, r2⟩ := T5.out
  obtain ⟨q1, q2, q3, q4, q5⟩ := T3
  go_wp2
  refine bodyPost_ret (v := .tuple #[.agg #[.bool false, .string ⟨#[]⟩], .int .i64 1]) (by simp [results, Try.results36, go_sem, r1, r2]) rfl ⟨rfl, ?_⟩
  exact (bset k1 (by omega)).alloc (by simp; exact k1.size) _

set_option maxHeartbeats 800000 in
set_option maxRecDepth 20000 in
theorem idivide_ok (g1 g2 G : Bool) (s1 s2 S t : ByteArray) (v : Int) (w : World) (hv : v = 0) (ht : t.toList.isEmpty = true)
    (hD : ∀ w, Calls Try.prog 32 #[.agg #[.bool g1, .string s1], .agg #[.bool g2, .string s2]] w fun e w' => e = .returned (.tuple #[.agg #[.bool G, .string S], .string t, .int .i64 v]) ∧ Below w.heap.size w w') :
    Calls Try.prog 36 #[.agg #[.bool g1, .string s1], .agg #[.bool g2, .string s2]] w fun e w' => e = .returned (.tuple #[.agg #[.bool G, .string S], .int .i64 0]) ∧ Below w.heap.size w w' := by
  subst hv
  have HD := Lib.hid hD; clear hD
  go_enter Try.func36, Try.ntmps36
  go_wp2_with fail
  refine (HD.out _).mono ?_; rintro e w1 ⟨rfl, b1⟩
  obtain ⟨T1, T2, T3, k1⟩ := after3 b1
  have T5 := (T3.set (.bool G) (.string S)).alloc (.cells #[.bool G, .string S] 24)
  obtain ⟨r1, r2⟩ := T5.out
  obtain ⟨q1, q2, q3, q4, q5⟩ := T3
  go_wp2
  refine bodyPost_ret (v := .tuple #[.agg #[.bool G, .string S], .int .i64 0]) (by simp [results, Try.results36, go_sem, r1, r2]) rfl ⟨rfl, ?_⟩
  exact (bset k1 (by omega)).alloc (by simp; exact k1.size) _

set_option maxHeartbeats 800000 in
set_option maxRecDepth 20000 in
theorem ridivide_err (g1 g2 G : Bool) (s1 s2 S t : ByteArray) (v : Int) (w : World) (hv : ¬ v = 0) (hl1 : 0 ≤ v) (hl2 : v ≤ 100)
    (hD : ∀ w, Calls Try.prog 33 #[.agg #[.bool g1, .string s1], .agg #[.bool g2, .string s2]] w fun e w' => e = .returned (.tuple #[.agg #[.bool G, .string S], .string t, .int .i64 v]) ∧ Below w.heap.size w w') :
    Calls Try.prog 37 #[.agg #[.bool g1, .string s1], .agg #[.bool g2, .string s2]] w fun e w' => e = .returned (.tuple #[.agg #[.bool false, .string ⟨#[]⟩], .int .i64 v]) ∧ Below w.heap.size w w' := by
  skip
  have HD := Lib.hid hD; clear hD
  go_enter Try.func37, Try.ntmps37
  go_wp2_with fail
  refine (HD.out _).mono ?_; rintro e w1 ⟨rfl, b1⟩
  obtain ⟨T1, T2, T3, k1⟩ := after3 b1
  have T5 := (T3.set (.bool false) (.string ⟨#[]⟩)).alloc (.cells #[.bool G, .string S] 24)
  obtain ⟨r1, r2⟩ := T5.out
  obtain ⟨q1, q2, q3, q4, q5⟩ := T3
  go_wp2
  refine bodyPost_ret (v := .tuple #[.agg #[.bool false, .string ⟨#[]⟩], .int .i64 v]) (by simp [results, Try.results37, go_sem, r1, r2]) rfl ⟨rfl, ?_⟩
  exact (bset k1 (by omega)).alloc (by simp; exact k1.size) _

set_option maxHeartbeats 800000 in
set_option maxRecDepth 20000 in
theorem ridivide_rest (g1 g2 G : Bool) (s1 s2 S t : ByteArray) (v : Int) (w : World) (hv : v = 0) (ht : t.toList.isEmpty = false)
    (hD : ∀ w, Calls Try.prog 33 #[.agg #[.bool g1, .string s1], .agg #[.bool g2, .string s2]] w fun e w' => e = .returned (.tuple #[.agg #[.bool G, .string S], .string t, .int .i64 v]) ∧ Below w.heap.size w w') :
    Calls Try.prog 37 #[.agg #[.bool g1, .string s1], .agg #[.bool g2, .string s2]] w fun e w' => e = .returned (.tuple #[.agg #[.bool false, .string ⟨#[]⟩], .int .i64 1]) ∧ Below w.heap.size w w' := by
  subst hv
  have HD := Lib.hid hD; clear hD
  go_enter Try.func37, Try.ntmps37
  go_wp2_with fail
  refine (HD.out _).mono ?_; rintro e w1 ⟨rfl, b1⟩
  obtain ⟨T1, T2, T3, k1⟩ := after3 b1
  have T5 := (T3.set (.bool false) (.string ⟨#[]⟩)).alloc (.cells #[.bool G, .string S] 24)
  obtain ⟨r1, r2⟩ := T5.out
  obtain ⟨q1, q2, q3, q4, q5⟩ := T3
  go_wp2
  refine bodyPost_ret (v := .tuple #[.agg #[.bool false, .string ⟨#[]⟩], .int .i64 1]) (by simp [results, Try.results37, go_sem, r1, r2]) rfl ⟨rfl, ?_⟩
  exact (bset k1 (by omega)).alloc (by simp; exact k1.size) _

set_option maxHeartbeats 800000 in
set_option maxRecDepth 20000 in
theorem ridivide_ok (g1 g2 G : Bool) (s1 s2 S t : ByteArray) (v : Int) (w : World) (hv : v = 0) (ht : t.toList.isEmpty = true)
    (hD : ∀ w, Calls Try.prog 33 #[.agg #[.bool g1, .string s1], .agg #[.bool g2, .string s2]] w fun e w' => e = .returned (.tuple #[.agg #[.bool G, .string S], .string t, .int .i64 v]) ∧ Below w.heap.size w w') :
    Calls Try.prog 37 #[.agg #[.bool g1, .string s1], .agg #[.bool g2, .string s2]] w fun e w' => e = .returned (.tuple #[.agg #[.bool G, .string S], .int .i64 0]) ∧ Below w.heap.size w w' := by
  subst hv
  have HD := Lib.hid hD; clear hD
  go_enter Try.func37, Try.ntmps37
  go_wp2_with fail
  refine (HD.out _).mono ?_; rintro e w1 ⟨rfl, b1⟩
  obtain ⟨T1, T2, T3, k1⟩ := after3 b1
  have T5 := (T3.set (.bool G) (.string S)).alloc (.cells #[.bool G, .string S] 24)
  obtain ⟨r1, r2⟩ := T5.out
  obtain ⟨q1, q2, q3, q4, q5⟩ := T3
  go_wp2
  refine bodyPost_ret (v := .tuple #[.agg #[.bool G, .string S], .int .i64 0]) (by simp [results, Try.results37, go_sem, r1, r2]) rfl ⟨rfl, ?_⟩
  exact (bset k1 (by omega)).alloc (by simp; exact k1.size) _
end Go.Proofs.Ytamgklgjhjociaa
