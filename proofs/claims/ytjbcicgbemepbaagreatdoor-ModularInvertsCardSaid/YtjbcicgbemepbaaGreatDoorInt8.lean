/-
  Contracts of package integer and of its reference: DivMod.
-/
import Derived.Test.YtjbcicgbemepbaaGreatDoorInt7
namespace Go.Proofs.YtjbcicgbemepbaaGreatDoor
open Go.RowKit
set_option linter.unusedVariables false

/-- A quotient and a remainder, or ErrZero. -/
def zdivN (a b : Int) : Value := if b = 0 then .tuple #[Z 0, .string (E 0), .int .i64 11] else .tuple #[Z (a / b), .string (E (a % b).toNat), .int .i64 0]
theorem zdivN_zero (a : Int) : zdivN a 0 = .tuple #[Z 0, .string (E 0), .int .i64 11] := by unfold zdivN; rw [if_pos rfl]
theorem zdivN_code (a b : Int) : ∃ (g : Bool) (s t : ByteArray) (v : Int), zdivN a b = .tuple #[.agg #[.bool g, .string s], .string t, .int .i64 v] := by
  unfold zdivN; split
  · exact ⟨_, _, _, _, rfl⟩
  · exact ⟨_, _, _, _, rfl⟩
theorem euclid {a b q r : Int} (hb : b ≠ 0) (h : a = q * b + r) (h0 : 0 ≤ r) (h1 : r < b.natAbs) : a / b = q ∧ a % b = r := by
  rcases Int.lt_or_lt_of_ne hb with hn | hp
  · have := (Int.ediv_emod_unique (a := a) (b := -b) (r := r) (q := -q) (by omega)).2 ⟨by rw [Int.neg_mul_neg, h, Int.mul_comm]; omega, h0, by omega⟩
    rw [Int.ediv_neg, Int.emod_neg] at this
    omega
  · exact (Int.ediv_emod_unique hp).2 ⟨by rw [h, Int.mul_comm]; omega, h0, by omega⟩
theorem sg_ne (g : Bool) {n : Nat} (h : n ≠ 0) : sg g n ≠ 0 := by cases g <;> simp [sg] <;> omega
theorem sg_div (g1 g2 : Bool) (m n : Nat) (hn : n ≠ 0) (hc : g1 = false ∨ m % n = 0) : sg g1 m / sg g2 n = sg (g1 != g2) (m / n) ∧ sg g1 m % sg g2 n = (m % n : Nat) := by
  have e : (m : Int) = n * (m / n : Nat) + (m % n : Nat) := by exact_mod_cast (Nat.div_add_mod m n).symm
  have l : m % n < n := Nat.mod_lt _ (by omega)
  refine euclid (sg_ne g2 hn) ?_ (by omega) (by rw [sg_natAbs]; omega)
  have hc' : g1 = false ∨ ((m % n : Nat) : Int) = 0 := by rcases hc with q | q; exact .inl q; exact .inr (by rw [q]; rfl)
  generalize ((m % n : Nat) : Int) = r at *
  generalize (m / n : Nat) = q at *
  have e' : (m : Int) = q * n + r := by rw [Int.mul_comm]; exact e
  clear e hc
  cases g1 <;> cases g2
  · exact e'
  · show (m : Int) = -(q : Int) * -(n : Int) + r
    rw [Int.neg_mul_neg]; exact e'
  · rcases hc' with h | h
    · cases h
    · show -(m : Int) = -(q : Int) * (n : Int) + r
      rw [Int.neg_mul]; omega
  · rcases hc' with h | h
    · cases h
    · show -(m : Int) = (q : Int) * -(n : Int) + r
      rw [Int.mul_neg]; omega
theorem sg_div' (g2 : Bool) (m n : Nat) (hn : n ≠ 0) (hc : m % n ≠ 0) : sg true m / sg g2 n = sg (true != g2) (m / n + 1) ∧ sg true m % sg g2 n = (n - m % n : Nat) := by
  have e : (m : Int) = n * (m / n : Nat) + (m % n : Nat) := by exact_mod_cast (Nat.div_add_mod m n).symm
  have l : m % n < n := Nat.mod_lt _ (by omega)
  have e2 : ((n - m % n : Nat) : Int) = n - (m % n : Nat) := by omega
  refine euclid (sg_ne g2 hn) ?_ (by omega) (by rw [sg_natAbs]; omega)
  rw [e2]
  generalize (m % n : Nat) = r at *
  generalize (m / n : Nat) = q at *
  have e3 : (n : Int) * (q + 1 : Nat) = n * q + n := by rw [Int.natCast_add, Int.mul_add]; simp
  have e4 : ((q + 1 : Nat) : Int) * n = n * q + n := by rw [Int.mul_comm]; exact e3
  cases g2
  · show -(m : Int) = -((q + 1 : Nat) : Int) * (n : Int) + _
    rw [Int.neg_mul, e4]; omega
  · show -(m : Int) = ((q + 1 : Nat) : Int) * -(n : Int) + _
    rw [Int.mul_neg, e4]; omega
/-- The two numbers that DivMod's results are made of. -/
theorem quot_lim {m n : Nat} (h : m < Lim) (hn : n ≠ 0) (hc : m % n ≠ 0) : m / n + 1 < Lim := by
  have h2 : 2 ≤ n := by
    rcases Nat.lt_or_ge n 2 with q | q
    · have : n = 1 := by omega
      subst this; exact absurd (Nat.mod_one m) hc
    · exact q
  have h1 : m / n ≤ m / 2 := Nat.div_le_div_left h2 (by omega)
  have h3 : m ≠ 0 := by intro q; subst q; exact hc (Nat.zero_mod n)
  omega

set_option maxHeartbeats 400000 in
theorem ridiv_no1 (g1 g2 : Bool) (s1 s2 : ByteArray) (w : World) (h : ¬ IVal g1 s1) :
    Calls Tryz.prog 82 #[.agg #[.bool g1, .string s1], .agg #[.bool g2, .string s2]] w fun e w' => e = .returned (.tuple #[Z 0, .string ⟨#[]⟩, .int .i64 3]) ∧ Below w.heap.size w w' := by
  have H1 := Lib.hid h; clear h
  rw [Z_zero]
  go_enter Tryz.func82, Tryz.ntmps82
  go_wp2_with fail
  refine (rivalid_f g1 s1 _ H1.out).mono ?_; rintro e w1 ⟨rfl, b1⟩
  obtain ⟨T1, T2, T3, k1⟩ := after3 b1
  obtain ⟨q1, q2, q3, q4, q5⟩ := T3
  go_wp2
  refine bodyPost_ret (v := .tuple #[.agg #[.bool false, .string ⟨#[]⟩], .string ⟨#[]⟩, .int .i64 3]) (by simp [results, Tryz.results82, go_sem, q1, q2]) rfl ⟨rfl, ?_⟩
  exact bset k1 (by omega)
set_option maxHeartbeats 400000 in
theorem ridiv_no2 (g1 g2 : Bool) (s1 s2 : ByteArray) (w : World) (h : IVal g1 s1) (h2 : ¬ IVal g2 s2) :
    Calls Tryz.prog 82 #[.agg #[.bool g1, .string s1], .agg #[.bool g2, .string s2]] w fun e w' => e = .returned (.tuple #[Z 0, .string ⟨#[]⟩, .int .i64 3]) ∧ Below w.heap.size w w' := by
  have H1 := Lib.hid h; clear h
  have H2 := Lib.hid h2; clear h2
  rw [Z_zero]
  go_enter Tryz.func82, Tryz.ntmps82
  go_wp2_with fail
  refine (rivalid_t g1 s1 _ H1.out).mono ?_; rintro e w1 ⟨rfl, b1⟩
  obtain ⟨T1, T2, T3, k1⟩ := after3 b1
  have q1 := T2.1
  have q2 := T2.2.1
  go_wp2_with fail
  refine (rivalid_f g2 s2 _ H2.out).mono ?_; rintro e w2 ⟨rfl, b2⟩
  have k2 := bnextW k1 b2 k1.size
  have T3 := T3.below b2 rfl
  clear q1 q2
  obtain ⟨q1, q2, q3, q4, q5⟩ := T3
  go_wp2
  refine bodyPost_ret (v := .tuple #[.agg #[.bool false, .string ⟨#[]⟩], .string ⟨#[]⟩, .int .i64 3]) (by simp [results, Tryz.results82, go_sem, q1, q2]) rfl ⟨rfl, ?_⟩
  exact bset k2 (by omega)
theorem ridiv_no (g1 g2 : Bool) (s1 s2 : ByteArray) (w : World) (h : ¬ (IVal g1 s1 ∧ IVal g2 s2)) :
    Calls Tryz.prog 82 #[.agg #[.bool g1, .string s1], .agg #[.bool g2, .string s2]] w fun e w' => e = .returned (.tuple #[Z 0, .string ⟨#[]⟩, .int .i64 3]) ∧ Below w.heap.size w w' := by
  by_cases h1 : IVal g1 s1
  · exact ridiv_no2 g1 g2 s1 s2 w h1 (fun q => h ⟨h1, q⟩)
  · exact ridiv_no1 g1 g2 s1 s2 w h1

set_option maxHeartbeats 800000 in
theorem ridiv_zero (g1 g2 : Bool) (s1 s2 : ByteArray) (w : World) (h1 : IVal g1 s1) (h2 : IVal g2 s2) (h0 : s2.size = 0) :
    Calls Tryz.prog 82 #[.agg #[.bool g1, .string s1], .agg #[.bool g2, .string s2]] w fun e w' => e = .returned (.tuple #[Z 0, .string ⟨#[]⟩, .int .i64 11]) ∧ Below w.heap.size w w' := by
  have H1 := Lib.hid h1; clear h1
  have H2 := Lib.hid h2; clear h2
  have hE := empty_of h0
  clear h0
  rw [Z_zero]
  go_enter Tryz.func82, Tryz.ntmps82
  go_wp2_with fail
  refine (rivalid_t g1 s1 _ H1.out).mono ?_; rintro e w1 ⟨rfl, b1⟩
  obtain ⟨T1, T2, T3, k1⟩ := after3 b1
  have q1 := T2.1
  have q2 := T2.2.1
  go_wp2_with fail
  refine (rivalid_t g2 s2 _ H2.out).mono ?_; rintro e w2 ⟨rfl, b2⟩
  have k2 := bnextW k1 b2 k1.size
  have T2 := T2.below b2 rfl
  have T3 := T3.below b2 rfl
  clear q1 q2
  have r1 := T2.1
  have r2 := T2.2.1
  obtain ⟨q1, q2, q3, q4, q5⟩ := T3
  go_wp2
  refine bodyPost_ret (v := .tuple #[.agg #[.bool false, .string ⟨#[]⟩], .string ⟨#[]⟩, .int .i64 11]) (by simp [results, Tryz.results82, go_sem, q1, q2]) rfl ⟨rfl, ?_⟩
  exact bset k2 (by omega)

set_option maxHeartbeats 800000 in
set_option maxRecDepth 20000 in
theorem ridiv_pos (g2 G : Bool) (s1 s2 x y x' y' S : ByteArray) (v v1 v2 : Int) (w : World) (h1 : IVal false s1) (h2 : IVal g2 s2) (h0 : s2.size ≠ 0)
    (hD : ∀ w, Calls Tryz.prog 53 #[.string s1, .string s2] w fun e w' => e = .returned (.tuple #[.string x, .string y, .int .i64 v]) ∧ Below w.heap.size w w')
    (hS : ∀ w, Calls Tryz.prog 62 #[.bool g2, .string x] w fun e w' => e = .returned (.agg #[.bool G, .string S]) ∧ Below w.heap.size w w') :
    Calls Tryz.prog 82 #[.agg #[.bool false, .string s1], .agg #[.bool g2, .string s2]] w fun e w' => e = .returned (.tuple #[.agg #[.bool G, .string S], .string y, .int .i64 0]) ∧ Below w.heap.size w w' := by
  have H1 := Lib.hid h1; clear h1
  have H2 := Lib.hid h2; clear h2
  have HD := Lib.hid hD; clear hD
  have HS := Lib.hid hS; clear hS
  skip
  skip
  have hE := not_empty_of h0
  clear h0
  go_enter Tryz.func82, Tryz.ntmps82
  go_wp2_with fail
  refine (rivalid_t false s1 _ H1.out).mono ?_; rintro e w1 ⟨rfl, b1⟩
  obtain ⟨T1, T2, T3, k1⟩ := after3 b1
  have q1 := T2.1
  have q2 := T2.2.1
  go_wp2_with fail
  refine (rivalid_t g2 s2 _ H2.out).mono ?_; rintro e w2 ⟨rfl, b2⟩
  have k2 := bnextW k1 b2 k1.size
  have T1 := T1.below b2 rfl
  have T2 := T2.below b2 rfl
  have T3 := T3.below b2 rfl
  clear q1 q2
  have q1 := T1.1
  have q2 := T1.2.1
  have q3 := T2.1
  have q4 := T2.2.1
  go_wp2_with fail
  refine (HD.out _).mono ?_; rintro e w3 ⟨rfl, b3⟩
  have k3 := bnextW k2 b3 k2.size
  have T1 := T1.below b3 rfl
  have T2 := T2.below b3 rfl
  have T3 := T3.below b3 rfl
  clear q1 q2 q3 q4
  have q1 := T1.1
  have q2 := T1.2.1
  have q3 := T2.1
  have q4 := T2.2.1
  go_wp2_with fail
  refine (HS.out _).mono ?_; rintro e w5 ⟨rfl, b5⟩
  have k5 := bnextW k3 b5 k3.size
  have T3 := T3.below b5 rfl
  clear q1 q2 q3 q4
  obtain ⟨q1, q2, q3, q4, q5⟩ := T3
  go_wp2
  refine bodyPost_ret (v := .tuple #[.agg #[.bool G, .string S], .string y, .int .i64 0]) (by simp [results, Tryz.results82, go_sem, q1, q2]) rfl ⟨rfl, ?_⟩
  exact bset k5 (by omega)

set_option maxHeartbeats 800000 in
set_option maxRecDepth 20000 in
theorem ridiv_negz (g2 G : Bool) (s1 s2 x y x' y' S : ByteArray) (v v1 v2 : Int) (w : World) (h1 : IVal true s1) (h2 : IVal g2 s2) (h0 : s2.size ≠ 0) (hy : y.toList.isEmpty = true)
    (hD : ∀ w, Calls Tryz.prog 53 #[.string s1, .string s2] w fun e w' => e = .returned (.tuple #[.string x, .string y, .int .i64 v]) ∧ Below w.heap.size w w')
    (hS : ∀ w, Calls Tryz.prog 62 #[.bool (!g2), .string x] w fun e w' => e = .returned (.agg #[.bool G, .string S]) ∧ Below w.heap.size w w') :
    Calls Tryz.prog 82 #[.agg #[.bool true, .string s1], .agg #[.bool g2, .string s2]] w fun e w' => e = .returned (.tuple #[.agg #[.bool G, .string S], .string y, .int .i64 0]) ∧ Below w.heap.size w w' := by
  have H1 := Lib.hid h1; clear h1
  have H2 := Lib.hid h2; clear h2
  have HD := Lib.hid hD; clear hD
  have HS := Lib.hid hS; clear hS
  skip
  skip
  have hE := not_empty_of h0
  clear h0
  go_enter Tryz.func82, Tryz.ntmps82
  go_wp2_with fail
  refine (rivalid_t true s1 _ H1.out).mono ?_; rintro e w1 ⟨rfl, b1⟩
  obtain ⟨T1, T2, T3, k1⟩ := after3 b1
  have q1 := T2.1
  have q2 := T2.2.1
  go_wp2_with fail
  refine (rivalid_t g2 s2 _ H2.out).mono ?_; rintro e w2 ⟨rfl, b2⟩
  have k2 := bnextW k1 b2 k1.size
  have T1 := T1.below b2 rfl
  have T2 := T2.below b2 rfl
  have T3 := T3.below b2 rfl
  clear q1 q2
  have q1 := T1.1
  have q2 := T1.2.1
  have q3 := T2.1
  have q4 := T2.2.1
  go_wp2_with fail
  refine (HD.out _).mono ?_; rintro e w3 ⟨rfl, b3⟩
  have k3 := bnextW k2 b3 k2.size
  have T1 := T1.below b3 rfl
  have T2 := T2.below b3 rfl
  have T3 := T3.below b3 rfl
  clear q1 q2 q3 q4
  have q1 := T1.1
  have q2 := T1.2.1
  have q3 := T2.1
  have q4 := T2.2.1
  go_wp2_with fail
  refine (HS.out _).mono ?_; rintro e w5 ⟨rfl, b5⟩
  have k5 := bnextW k3 b5 k3.size
  have T3 := T3.below b5 rfl
  clear q1 q2 q3 q4
  obtain ⟨q1, q2, q3, q4, q5⟩ := T3
  go_wp2
  refine bodyPost_ret (v := .tuple #[.agg #[.bool G, .string S], .string y, .int .i64 0]) (by simp [results, Tryz.results82, go_sem, q1, q2]) rfl ⟨rfl, ?_⟩
  exact bset k5 (by omega)

set_option maxHeartbeats 800000 in
set_option maxRecDepth 20000 in
theorem ridiv_neg (g2 G : Bool) (s1 s2 x y x' y' S : ByteArray) (v v1 v2 : Int) (w : World) (h1 : IVal true s1) (h2 : IVal g2 s2) (h0 : s2.size ≠ 0) (hy : y.toList.isEmpty = false)
    (hD : ∀ w, Calls Tryz.prog 53 #[.string s1, .string s2] w fun e w' => e = .returned (.tuple #[.string x, .string y, .int .i64 v]) ∧ Below w.heap.size w w')
    (hA : ∀ w, Calls Tryz.prog 38 #[.string x, .string (E 1)] w fun e w' => e = .returned (.tuple #[.string x', .int .i64 v1]) ∧ Below w.heap.size w w')
    (hB : ∀ w, Calls Tryz.prog 39 #[.string s2, .string y] w fun e w' => e = .returned (.tuple #[.string y', .int .i64 v2]) ∧ Below w.heap.size w w')
    (hS : ∀ w, Calls Tryz.prog 62 #[.bool (!g2), .string x'] w fun e w' => e = .returned (.agg #[.bool G, .string S]) ∧ Below w.heap.size w w') :
    Calls Tryz.prog 82 #[.agg #[.bool true, .string s1], .agg #[.bool g2, .string s2]] w fun e w' => e = .returned (.tuple #[.agg #[.bool G, .string S], .string y', .int .i64 0]) ∧ Below w.heap.size w w' := by
  have H1 := Lib.hid h1; clear h1
  have H2 := Lib.hid h2; clear h2
  have HD := Lib.hid hD; clear hD
  have HS := Lib.hid hS; clear hS
  have HA := Lib.hid hA; clear hA
  have HB := Lib.hid hB; clear hB
  have hE := not_empty_of h0
  clear h0
  go_enter Tryz.func82, Tryz.ntmps82
  go_wp2_with fail
  refine (rivalid_t true s1 _ H1.out).mono ?_; rintro e w1 ⟨rfl, b1⟩
  obtain ⟨T1, T2, T3, k1⟩ := after3 b1
  have q1 := T2.1
  have q2 := T2.2.1
  go_wp2_with fail
  refine (rivalid_t g2 s2 _ H2.out).mono ?_; rintro e w2 ⟨rfl, b2⟩
  have k2 := bnextW k1 b2 k1.size
  have T1 := T1.below b2 rfl
  have T2 := T2.below b2 rfl
  have T3 := T3.below b2 rfl
  clear q1 q2
  have q1 := T1.1
  have q2 := T1.2.1
  have q3 := T2.1
  have q4 := T2.2.1
  go_wp2_with fail
  refine (HD.out _).mono ?_; rintro e w3 ⟨rfl, b3⟩
  have k3 := bnextW k2 b3 k2.size
  have T1 := T1.below b3 rfl
  have T2 := T2.below b3 rfl
  have T3 := T3.below b3 rfl
  clear q1 q2 q3 q4
  have q1 := T1.1
  have q2 := T1.2.1
  have q3 := T2.1
  have q4 := T2.2.1
  go_wp2_with fail
  refine (rof_any 1 _ (by omega)).mono ?_; rintro e w6 ⟨rfl, b6⟩
  have k3 := bnextW k3 b6 k3.size
  have T1 := T1.below b6 rfl
  have T2 := T2.below b6 rfl
  have T3 := T3.below b6 rfl
  clear q1 q2 q3 q4
  have q1 := T1.1
  have q2 := T1.2.1
  have q3 := T2.1
  have q4 := T2.2.1
  go_wp2_with fail
  refine (HA.out _).mono ?_; rintro e w7 ⟨rfl, b7⟩
  have k3 := bnextW k3 b7 k3.size
  have T1 := T1.below b7 rfl
  have T2 := T2.below b7 rfl
  have T3 := T3.below b7 rfl
  clear q1 q2 q3 q4
  have q1 := T1.1
  have q2 := T1.2.1
  have q3 := T2.1
  have q4 := T2.2.1
  go_wp2_with fail
  refine (HB.out _).mono ?_; rintro e w8 ⟨rfl, b8⟩
  have k3 := bnextW k3 b8 k3.size
  have T1 := T1.below b8 rfl
  have T2 := T2.below b8 rfl
  have T3 := T3.below b8 rfl
  clear q1 q2 q3 q4
  have q1 := T1.1
  have q2 := T1.2.1
  have q3 := T2.1
  have q4 := T2.2.1
  go_wp2_with fail
  refine (HS.out _).mono ?_; rintro e w5 ⟨rfl, b5⟩
  have k5 := bnextW k3 b5 k3.size
  have T3 := T3.below b5 rfl
  clear q1 q2 q3 q4
  obtain ⟨q1, q2, q3, q4, q5⟩ := T3
  go_wp2
  refine bodyPost_ret (v := .tuple #[.agg #[.bool G, .string S], .string y', .int .i64 0]) (by simp [results, Tryz.results82, go_sem, q1, q2]) rfl ⟨rfl, ?_⟩
  exact bset k5 (by omega)

theorem ridiv_yes (g1 g2 : Bool) (s1 s2 : ByteArray) (w : World) (h1 : IVal g1 s1) (h2 : IVal g2 s2) :
    Calls Tryz.prog 82 #[.agg #[.bool g1, .string s1], .agg #[.bool g2, .string s2]] w fun e w' => e = .returned (zdivN (IZ g1 s1) (IZ g2 s2)) ∧ Below w.heap.size w w' := by
  by_cases h0 : s2.size = 0
  · have hv := (size_zero h2.1).1 h0
    have hz : IZ g2 s2 = 0 := by unfold IZ; rw [hv]; cases g2 <;> rfl
    rw [hz, zdivN_zero, show E 0 = ⟨#[]⟩ from rfl]
    exact ridiv_zero g1 g2 s1 s2 w h1 h2 h0
  · have hv : V s2 ≠ 0 := fun q => h0 ((size_zero h2.1).2 q)
    have hm : IZ g2 s2 ≠ 0 := sg_ne g2 hv
    have hD := fun w => rdivMod_yes s1 s2 w h1.1 h2.1
    rw [divN_pos (by omega)] at hD
    have l1 := V_lim h1.1
    have l2 := V_lim h2.1
    have lr : V s1 % V s2 < V s2 := Nat.mod_lt _ (by omega)
    have lq : V s1 / V s2 ≤ V s1 := Nat.div_le_self _ _
    unfold zdivN
    rw [if_neg hm]
    by_cases hc : g1 = false ∨ V s1 % V s2 = 0
    · have hd := sg_div g1 g2 (V s1) (V s2) hv hc
      unfold IZ
      rw [hd.1, hd.2, Int.toNat_natCast]
      have hS := fun w => make_n (g1 != g2) (V s1 / V s2) w
      rcases hc with rfl | hc
      · rw [show (false != g2) = g2 by cases g2 <;> rfl] at hS ⊢
        exact ridiv_pos g2 _ s1 s2 _ _ s1 s1 _ 0 0 0 w h1 h2 h0 hD hS
      · cases g1
        · rw [show (false != g2) = g2 by cases g2 <;> rfl] at hS ⊢
          exact ridiv_pos g2 _ s1 s2 _ _ s1 s1 _ 0 0 0 w h1 h2 h0 hD hS
        · rw [show (true != g2) = !g2 by cases g2 <;> rfl] at hS ⊢
          exact ridiv_negz g2 _ s1 s2 _ _ s1 s1 _ 0 0 0 w h1 h2 h0 (by rw [E_empty, hc]; rfl) hD hS
    · have hg : g1 = true := by cases g1 <;> simp_all
      have hr : V s1 % V s2 ≠ 0 := fun q => hc (.inr q)
      subst hg
      have hd := sg_div' g2 (V s1) (V s2) hv hr
      unfold IZ
      rw [hd.1, hd.2, Int.toNat_natCast]
      have hS := fun w => make_n (true != g2) (V s1 / V s2 + 1) w
      have hql := quot_lim l1 hv hr
      have hA := fun w => radd_yes (E (V s1 / V s2)) (E 1) w (can_E' (by omega)) (can_E' (by omega))
      rw [V_E, V_E, okN_yes hql] at hA
      have hB := fun w => rsub_yes s2 (E (V s1 % V s2)) w h2.1 (can_E' (by omega))
      rw [V_E, subN_yes (by omega)] at hB
      have hy : (E (V s1 % V s2)).toList.isEmpty = false := by rw [E_empty]; simp [hr]
      rw [show (true != g2) = !g2 by cases g2 <;> rfl] at hS ⊢
      exact ridiv_neg g2 _ s1 s2 _ _ _ _ _ 0 0 0 w h1 h2 h0 hy hD hA hB hS
end Go.Proofs.YtjbcicgbemepbaaGreatDoor
