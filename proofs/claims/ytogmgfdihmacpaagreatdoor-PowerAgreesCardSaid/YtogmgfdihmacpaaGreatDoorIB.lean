/-
  Several parts in one text (IB).
-/
import Derived.Test.YtogmgfdihmacpaaGreatDoorInt6
import Derived.Deep.RegionWith
import Derived.Test.YtogmgfdihmacpaaGreatDoorIA
/-
  Contracts of package integer and of its reference: Sub.
-/
namespace Go.Proofs.YtogmgfdihmacpaaGreatDoor
open Go.RowKit
set_option linter.unusedVariables false

theorem Z_neg_code {g : Bool} {s : ByteArray} (h : IVal g s) : ∃ (G : Bool) (S : ByteArray), Z (-(IZ g s)) = .agg #[.bool G, .string S] ∧ IVal G S ∧ IZ G S = -(IZ g s) :=
  ⟨_, _, rfl, ival_Z _ (by rw [Int.natAbs_neg]; exact IZ_lim h), IZ_Z _⟩

set_option maxHeartbeats 2000000 in
theorem isub_core (g1 g2 G G' : Bool) (s1 s2 S S' : ByteArray) (v : Int) (w : World) (h2 : IVal g2 s2)
    (hN : ∀ w, Calls Tryz.prog 33 #[.agg #[.bool g2, .string s2]] w fun e w' => e = .returned (.agg #[.bool G, .string S]) ∧ Below w.heap.size w w')
    (hA : ∀ w, Calls Tryz.prog 32 #[.agg #[.bool g1, .string s1], .agg #[.bool G, .string S]] w fun e w' => e = .returned (.tuple #[.agg #[.bool G', .string S'], .int .i64 v]) ∧ Below w.heap.size w w') :
    Calls Tryz.prog 147 #[.agg #[.bool g1, .string s1], .agg #[.bool g2, .string s2]] w fun e w' => e = .returned (.tuple #[.agg #[.bool G', .string S'], .int .i64 v]) ∧ Below w.heap.size w w' := by
  have H2 := Lib.hid h2; clear h2
  skip
  have HN := Lib.hid hN; clear hN
  have HA := Lib.hid hA; clear hA
  go_enter Tryz.func147, Tryz.ntmps147
  go_wp2_with fail
  refine (ivalid_t g2 s2 _ H2.out).mono ?_; rintro e w1 ⟨rfl, b1⟩
  obtain ⟨T1, T2, T3, k1⟩ := after3 b1
  have q1 := T1.1
  have q2 := T1.2.1
  have q3 := T2.1
  have q4 := T2.2.1
  go_wp2
  go_region_with (first
    | (go_at_call 33; refine (HN.out _).mono ?_; rintro e w2 ⟨rfl, b2⟩; have T1 : Two w2 w.heap.size (.bool g1) (.string s1) := Two.below (by exact T1) b2 rfl; have T3 : Two w2 (w.heap.size + 1 + 1) (.bool false) (.string ⟨#[]⟩) := Two.below (by exact T3) b2 rfl; have k2 : Below w.heap.size w w2 := bnextW (by exact k1.drew) b2 k1.size; clear q1 q2 q3 q4; have q1 := T1.1; have q2 := T1.2.1)
    | (go_at_call 32; refine (HA.out _).mono ?_; rintro e w3 ⟨rfl, b3⟩; have T3 : Two w3 (w.heap.size + 1 + 1) (.bool false) (.string ⟨#[]⟩) := Two.below T3 b3 rfl; have k3 : Below w.heap.size w w3 := bnextW k2 b3 k2.size; clear q1 q2; obtain ⟨q1, q2, q3, q4, q5⟩ := T3))
  all_goals go_wp2
  all_goals refine bodyPost_ret (v := .tuple #[.agg #[.bool G', .string S'], .int .i64 v]) (by simp [results, Tryz.results147, go_sem, q1, q2]) rfl ⟨rfl, ?_⟩
  all_goals exact bset k3 (by omega)
theorem isub_yes (g1 g2 : Bool) (s1 s2 : ByteArray) (w : World) (h1 : IVal g1 s1) (h2 : IVal g2 s2) :
    Calls Tryz.prog 147 #[.agg #[.bool g1, .string s1], .agg #[.bool g2, .string s2]] w fun e w' => e = .returned (zokN (IZ g1 s1 - IZ g2 s2)) ∧ Below w.heap.size w w' := by
  obtain ⟨G, S, hc, hv, hz⟩ := Z_neg_code h2
  have ha := fun w => iadd_yes g1 G s1 S w h1 hv
  rw [hz, ← Int.sub_eq_add_neg] at ha
  have hn := fun w => ineg_yes g2 s2 w h2
  rw [hc] at hn
  obtain ⟨G', S', v, hr, _⟩ := zokN_code (IZ g1 s1 - IZ g2 s2)
  rw [hr] at ha ⊢
  exact isub_core g1 g2 G G' s1 s2 S S' v w h2 hn ha

set_option maxHeartbeats 400000 in
theorem isub_no1 (g1 g2 : Bool) (s1 s2 : ByteArray) (w : World) (h : ¬ IVal g2 s2) :
    Calls Tryz.prog 147 #[.agg #[.bool g1, .string s1], .agg #[.bool g2, .string s2]] w fun e w' => e = .returned (.tuple #[Z 0, .int .i64 3]) ∧ Below w.heap.size w w' := by
  have H1 := Lib.hid h; clear h
  rw [Z_zero]
  go_enter Tryz.func147, Tryz.ntmps147
  go_wp2_with fail
  refine (ivalid_f g2 s2 _ H1.out).mono ?_; rintro e w1 ⟨rfl, b1⟩
  obtain ⟨T1, T2, T3, k1⟩ := after3 b1
  obtain ⟨q1, q2, q3, q4, q5⟩ := T3
  go_wp2
  refine bodyPost_ret (v := .tuple #[.agg #[.bool false, .string ⟨#[]⟩], .int .i64 3]) (by simp [results, Tryz.results147, go_sem, q1, q2]) rfl ⟨rfl, ?_⟩
  exact bset k1 (by omega)
theorem isub_no (g1 g2 : Bool) (s1 s2 : ByteArray) (w : World) (h : ¬ (IVal g1 s1 ∧ IVal g2 s2)) :
    Calls Tryz.prog 147 #[.agg #[.bool g1, .string s1], .agg #[.bool g2, .string s2]] w fun e w' => e = .returned (.tuple #[Z 0, .int .i64 3]) ∧ Below w.heap.size w w' := by
  by_cases h2 : IVal g2 s2
  · obtain ⟨G, S, hc, hv, hz⟩ := Z_neg_code h2
    have ha := fun w => iadd_no g1 G s1 S w (fun q => h ⟨q.1, h2⟩)
    have hn := fun w => ineg_yes g2 s2 w h2
    rw [hc] at hn
    rw [Z_zero] at ha ⊢
    exact isub_core g1 g2 G _ s1 s2 S _ 3 w h2 hn ha
  · exact isub_no1 g1 g2 s1 s2 w h2

set_option maxHeartbeats 2000000 in
theorem risub_core (g1 g2 G G' : Bool) (s1 s2 S S' : ByteArray) (v : Int) (w : World) (h2 : IVal g2 s2) (h1 : IVal g1 s1)
    (hN : ∀ w, Calls Tryz.prog 168 #[.agg #[.bool g2, .string s2]] w fun e w' => e = .returned (.agg #[.bool G, .string S]) ∧ Below w.heap.size w w')
    (hA : ∀ w, Calls Tryz.prog 153 #[.agg #[.bool g1, .string s1], .agg #[.bool G, .string S]] w fun e w' => e = .returned (.tuple #[.agg #[.bool G', .string S'], .int .i64 v]) ∧ Below w.heap.size w w') :
    Calls Tryz.prog 160 #[.agg #[.bool g1, .string s1], .agg #[.bool g2, .string s2]] w fun e w' => e = .returned (.tuple #[.agg #[.bool G', .string S'], .int .i64 v]) ∧ Below w.heap.size w w' := by
  have H2 := Lib.hid h2; clear h2
  have H1 := Lib.hid h1; clear h1
  have HN := Lib.hid hN; clear hN
  have HA := Lib.hid hA; clear hA
  go_enter Tryz.func160, Tryz.ntmps160
  go_wp2_with fail
  refine (rivalid_t g1 s1 _ H1.out).mono ?_; rintro e w0 ⟨rfl, b0⟩
  obtain ⟨T1, T2, T3, k0⟩ := after3 b0
  have q1 := T2.1
  have q2 := T2.2.1
  go_wp2_with fail
  refine (rivalid_t g2 s2 _ H2.out).mono ?_; rintro e w1 ⟨rfl, b1⟩
  have k1 := bnextW k0 b1 k0.size
  have T1 := T1.below b1 rfl
  have T2 := T2.below b1 rfl
  have T3 := T3.below b1 rfl
  clear q1 q2
  have q1 := T1.1
  have q2 := T1.2.1
  have q3 := T2.1
  have q4 := T2.2.1
  go_wp2
  go_region_with (first
    | (go_at_call 168; refine (HN.out _).mono ?_; rintro e w2 ⟨rfl, b2⟩; have T1 : Two w2 w.heap.size (.bool g1) (.string s1) := Two.below (by exact T1) b2 rfl; have T3 : Two w2 (w.heap.size + 1 + 1) (.bool false) (.string ⟨#[]⟩) := Two.below (by exact T3) b2 rfl; have k2 : Below w.heap.size w w2 := bnextW (by exact k1.drew) b2 k1.size; clear q1 q2 q3 q4; have q1 := T1.1; have q2 := T1.2.1)
    | (go_at_call 153; refine (HA.out _).mono ?_; rintro e w3 ⟨rfl, b3⟩; have T3 : Two w3 (w.heap.size + 1 + 1) (.bool false) (.string ⟨#[]⟩) := Two.below T3 b3 rfl; have k3 : Below w.heap.size w w3 := bnextW k2 b3 k2.size; clear q1 q2; obtain ⟨q1, q2, q3, q4, q5⟩ := T3))
  all_goals go_wp2
  all_goals refine bodyPost_ret (v := .tuple #[.agg #[.bool G', .string S'], .int .i64 v]) (by simp [results, Tryz.results160, go_sem, q1, q2]) rfl ⟨rfl, ?_⟩
  all_goals exact bset k3 (by omega)
theorem risub_yes (g1 g2 : Bool) (s1 s2 : ByteArray) (w : World) (h1 : IVal g1 s1) (h2 : IVal g2 s2) :
    Calls Tryz.prog 160 #[.agg #[.bool g1, .string s1], .agg #[.bool g2, .string s2]] w fun e w' => e = .returned (zokN (IZ g1 s1 - IZ g2 s2)) ∧ Below w.heap.size w w' := by
  obtain ⟨G, S, hc, hv, hz⟩ := Z_neg_code h2
  have ha := fun w => riadd_yes g1 G s1 S w h1 hv
  rw [hz, ← Int.sub_eq_add_neg] at ha
  have hn := fun w => rineg_yes g2 s2 w h2
  rw [hc] at hn
  obtain ⟨G', S', v, hr, _⟩ := zokN_code (IZ g1 s1 - IZ g2 s2)
  rw [hr] at ha ⊢
  exact risub_core g1 g2 G G' s1 s2 S S' v w h2 h1 hn ha

set_option maxHeartbeats 400000 in
theorem risub_no1 (g1 g2 : Bool) (s1 s2 : ByteArray) (w : World) (h : ¬ IVal g1 s1) :
    Calls Tryz.prog 160 #[.agg #[.bool g1, .string s1], .agg #[.bool g2, .string s2]] w fun e w' => e = .returned (.tuple #[Z 0, .int .i64 3]) ∧ Below w.heap.size w w' := by
  have H1 := Lib.hid h; clear h
  rw [Z_zero]
  go_enter Tryz.func160, Tryz.ntmps160
  go_wp2_with fail
  refine (rivalid_f g1 s1 _ H1.out).mono ?_; rintro e w1 ⟨rfl, b1⟩
  obtain ⟨T1, T2, T3, k1⟩ := after3 b1
  obtain ⟨q1, q2, q3, q4, q5⟩ := T3
  go_wp2
  refine bodyPost_ret (v := .tuple #[.agg #[.bool false, .string ⟨#[]⟩], .int .i64 3]) (by simp [results, Tryz.results160, go_sem, q1, q2]) rfl ⟨rfl, ?_⟩
  exact bset k1 (by omega)
set_option maxHeartbeats 400000 in
theorem risub_no2 (g1 g2 : Bool) (s1 s2 : ByteArray) (w : World) (h : IVal g1 s1) (h2 : ¬ IVal g2 s2) :
    Calls Tryz.prog 160 #[.agg #[.bool g1, .string s1], .agg #[.bool g2, .string s2]] w fun e w' => e = .returned (.tuple #[Z 0, .int .i64 3]) ∧ Below w.heap.size w w' := by
  have H1 := Lib.hid h; clear h
  have H2 := Lib.hid h2; clear h2
  rw [Z_zero]
  go_enter Tryz.func160, Tryz.ntmps160
  go_wp2_with fail
  refine (rivalid_t g1 s1 _ H1.out).mono ?_; rintro e w1 ⟨rfl, b1⟩
  obtain ⟨T1, T2, T3, k1⟩ := after3 b1
  have q1 := T2.1
  have q2 := T2.2.1
  go_wp2_with fail
  refine (rivalid_f g2 s2 _ H2.out).mono ?_; rintro e w2 ⟨rfl, b2⟩
  have k2 := bnextW k1 b2 k1.size
  have T3 := T3.below b2 rfl
  clear q1 q2
  obtain ⟨q1, q2, q3, q4, q5⟩ := T3
  go_wp2
  refine bodyPost_ret (v := .tuple #[.agg #[.bool false, .string ⟨#[]⟩], .int .i64 3]) (by simp [results, Tryz.results160, go_sem, q1, q2]) rfl ⟨rfl, ?_⟩
  exact bset k2 (by omega)
theorem risub_no (g1 g2 : Bool) (s1 s2 : ByteArray) (w : World) (h : ¬ (IVal g1 s1 ∧ IVal g2 s2)) :
    Calls Tryz.prog 160 #[.agg #[.bool g1, .string s1], .agg #[.bool g2, .string s2]] w fun e w' => e = .returned (.tuple #[Z 0, .int .i64 3]) ∧ Below w.heap.size w w' := by
  by_cases h1 : IVal g1 s1
  · exact risub_no2 g1 g2 s1 s2 w h1 (fun q => h ⟨h1, q⟩)
  · exact risub_no1 g1 g2 s1 s2 w h1
end Go.Proofs.YtogmgfdihmacpaaGreatDoor


/-
  Contracts of package integer and of its reference: DivMod.
-/
namespace Go.Proofs.YtogmgfdihmacpaaGreatDoor
open Go.RowKit
set_option linter.unusedVariables false

/-- A quotient and a remainder, or ErrZero. -/
def zdivN (a b : Int) : Value := if b = 0 then .tuple #[Z 0, .string (E 0), .int .i64 11] else .tuple #[Z (a / b), .string (E (a % b).toNat), .int .i64 0]
theorem zdivN_zero (a : Int) : zdivN a 0 = .tuple #[Z 0, .string (E 0), .int .i64 11] := by unfold zdivN; rw [if_pos rfl]
theorem zdivN_code (a b : Int) : ∃ (g : Bool) (s t : ByteArray) (v : Int), zdivN a b = .tuple #[.agg #[.bool g, .string s], .string t, .int .i64 v] := by
  unfold zdivN; split
  · exact ⟨_, _, _, _, rfl⟩
  · exact ⟨_, _, _, _, rfl⟩
theorem euclid {a b q r : Int} (hb : b ≠ 0) (h : a = q * b + r) (h0 : 0 ≤ r) (h1 : r < b.natAbs) : a / b = q ∧ a % b = r := by
  rcases Int.lt_or_lt_of_ne hb with hn | hp
  · have := (Int.ediv_emod_unique (a := a) (b := -b) (r := r) (q := -q) (by omega)).2 ⟨by rw [Int.neg_mul_neg, h, Int.mul_comm]; omega, h0, by omega⟩
    rw [Int.ediv_neg, Int.emod_neg] at this
    omega
  · exact (Int.ediv_emod_unique hp).2 ⟨by rw [h, Int.mul_comm]; omega, h0, by omega⟩
theorem sg_ne (g : Bool) {n : Nat} (h : n ≠ 0) : sg g n ≠ 0 := by cases g <;> simp [sg] <;> omega
theorem sg_div (g1 g2 : Bool) (m n : Nat) (hn : n ≠ 0) (hc : g1 = false ∨ m % n = 0) : sg g1 m / sg g2 n = sg (g1 != g2) (m / n) ∧ sg g1 m % sg g2 n = (m % n : Nat) := by
  have e : (m : Int) = n * (m / n : Nat) + (m % n : Nat) := by exact_mod_cast (Nat.div_add_mod m n).symm
  have l : m % n < n := Nat.mod_lt _ (by omega)
  refine euclid (sg_ne g2 hn) ?_ (by omega) (by rw [sg_natAbs]; omega)
  have hc' : g1 = false ∨ ((m % n : Nat) : Int) = 0 := by rcases hc with q | q; exact .inl q; exact .inr (by rw [q]; rfl)
  generalize ((m % n : Nat) : Int) = r at *
  generalize (m / n : Nat) = q at *
  have e' : (m : Int) = q * n + r := by rw [Int.mul_comm]; exact e
  clear e hc
  cases g1 <;> cases g2
  · exact e'
  · show (m : Int) = -(q : Int) * -(n : Int) + r
    rw [Int.neg_mul_neg]; exact e'
  · rcases hc' with h | h
    · cases h
    · show -(m : Int) = -(q : Int) * (n : Int) + r
      rw [Int.neg_mul]; omega
  · rcases hc' with h | h
    · cases h
    · show -(m : Int) = (q : Int) * -(n : Int) + r
      rw [Int.mul_neg]; omega
theorem sg_div' (g2 : Bool) (m n : Nat) (hn : n ≠ 0) (hc : m % n ≠ 0) : sg true m / sg g2 n = sg (true != g2) (m / n + 1) ∧ sg true m % sg g2 n = (n - m % n : Nat) := by
  have e : (m : Int) = n * (m / n : Nat) + (m % n : Nat) := by exact_mod_cast (Nat.div_add_mod m n).symm
  have l : m % n < n := Nat.mod_lt _ (by omega)
  have e2 : ((n - m % n : Nat) : Int) = n - (m % n : Nat) := by omega
  refine euclid (sg_ne g2 hn) ?_ (by omega) (by rw [sg_natAbs]; omega)
  rw [e2]
  generalize (m % n : Nat) = r at *
  generalize (m / n : Nat) = q at *
  have e3 : (n : Int) * (q + 1 : Nat) = n * q + n := by rw [Int.natCast_add, Int.mul_add]; simp
  have e4 : ((q + 1 : Nat) : Int) * n = n * q + n := by rw [Int.mul_comm]; exact e3
  cases g2
  · show -(m : Int) = -((q + 1 : Nat) : Int) * (n : Int) + _
    rw [Int.neg_mul, e4]; omega
  · show -(m : Int) = ((q + 1 : Nat) : Int) * -(n : Int) + _
    rw [Int.mul_neg, e4]; omega
/-- The two numbers that DivMod's results are made of. -/
theorem quot_lim {m n : Nat} (h : m < Lim) (hn : n ≠ 0) (hc : m % n ≠ 0) : m / n + 1 < Lim := by
  have h2 : 2 ≤ n := by
    rcases Nat.lt_or_ge n 2 with q | q
    · have : n = 1 := by omega
      subst this; exact absurd (Nat.mod_one m) hc
    · exact q
  have h1 : m / n ≤ m / 2 := Nat.div_le_div_left h2 (by omega)
  have h3 : m ≠ 0 := by intro q; subst q; exact hc (Nat.zero_mod n)
  omega

set_option maxHeartbeats 800000 in
theorem corr_pos (a b : Nat) (g2 : Bool) (s1 s2 x y : ByteArray) (w : World) (T1 : Two w a (.bool false) (.string s1)) (T2 : Two w b (.bool g2) (.string s2)) :
    Calls Tryz.prog 126 #[.string x, .string y, .pointer (some ⟨a, 0, none⟩), .pointer (some ⟨b, 0, none⟩)] w fun e w' => e = .returned (.tuple #[.string x, .string y]) ∧ Below w.heap.size w w' := by
  have q1 := T1.1
  go_enter Tryz.func126, Tryz.ntmps126
  go_wp2
  go_ret2
  exact ⟨rfl, Below.refl _ _⟩
set_option maxHeartbeats 800000 in
theorem corr_zero (a b : Nat) (g1 g2 : Bool) (s1 s2 x y : ByteArray) (w : World) (T1 : Two w a (.bool g1) (.string s1)) (T2 : Two w b (.bool g2) (.string s2)) (hy : y.toList.isEmpty = true) :
    Calls Tryz.prog 126 #[.string x, .string y, .pointer (some ⟨a, 0, none⟩), .pointer (some ⟨b, 0, none⟩)] w fun e w' => e = .returned (.tuple #[.string x, .string y]) ∧ Below w.heap.size w w' := by
  have q1 := T1.1
  cases g1
  · exact corr_pos a b g2 s1 s2 x y w T1 T2
  · go_enter Tryz.func126, Tryz.ntmps126
    go_wp2
    go_ret2
    exact ⟨rfl, Below.refl _ _⟩
set_option maxHeartbeats 800000 in
theorem corr_neg (a b : Nat) (g2 : Bool) (s1 s2 x y x' y' : ByteArray) (v v' : Int) (w : World) (T1 : Two w a (.bool true) (.string s1)) (T2 : Two w b (.bool g2) (.string s2)) (hy : y.toList.isEmpty = false)
    (hA : ∀ w, Calls Tryz.prog 30 #[.string x, .string (E 1)] w fun e w' => e = .returned (.tuple #[.string x', .int .i64 v]) ∧ Below w.heap.size w w')
    (hS : ∀ w, Calls Tryz.prog 62 #[.string s2, .string y] w fun e w' => e = .returned (.tuple #[.string y', .int .i64 v']) ∧ Below w.heap.size w w') :
    Calls Tryz.prog 126 #[.string x, .string y, .pointer (some ⟨a, 0, none⟩), .pointer (some ⟨b, 0, none⟩)] w fun e w' => e = .returned (.tuple #[.string x', .string y']) ∧ Below w.heap.size w w' := by
  have HA := Lib.hid hA; clear hA
  have HS := Lib.hid hS; clear hS
  have q1 := T1.1
  go_enter Tryz.func126, Tryz.ntmps126
  go_wp2_with fail
  refine (of_any 1 _ (by omega)).mono ?_; rintro e w1 ⟨rfl, b1⟩
  go_wp2_with fail
  refine (HA.out _).mono ?_; rintro e w2 ⟨rfl, b2⟩
  have k2 := bnext b1 b2
  have T2 := (T2.below b1 rfl).below b2 rfl
  have q2 := T2.2.1
  go_wp2_with fail
  refine (HS.out _).mono ?_; rintro e w3 ⟨rfl, b3⟩
  have k3 := bnext k2 b3
  go_wp2
  go_ret2
  exact ⟨rfl, k3⟩

set_option maxHeartbeats 800000 in
set_option maxRecDepth 20000 in
theorem idiv_core (g1 g2 G : Bool) (s1 s2 x y x' y' S : ByteArray) (v : Int) (w : World) (h1 : IVal g1 s1) (h2 : IVal g2 s2) (h0 : s2.size ≠ 0)
    (hD : ∀ w, Calls Tryz.prog 64 #[.string s1, .string s2] w fun e w' => e = .returned (.tuple #[.string x, .string y, .int .i64 v]) ∧ Below w.heap.size w w')
    (hC : ∀ a b w, Two w a (.bool g1) (.string s1) → Two w b (.bool g2) (.string s2) → Calls Tryz.prog 126 #[.string x, .string y, .pointer (some ⟨a, 0, none⟩), .pointer (some ⟨b, 0, none⟩)] w fun e w' => e = .returned (.tuple #[.string x', .string y']) ∧ Below w.heap.size w w')
    (hS : ∀ w, Calls Tryz.prog 60 #[.bool (g1 != g2), .string x'] w fun e w' => e = .returned (.agg #[.bool G, .string S]) ∧ Below w.heap.size w w') :
    Calls Tryz.prog 104 #[.agg #[.bool g1, .string s1], .agg #[.bool g2, .string s2]] w fun e w' => e = .returned (.tuple #[.agg #[.bool G, .string S], .string y', .int .i64 0]) ∧ Below w.heap.size w w' := by
  have H1 := Lib.hid h1; clear h1
  have H2 := Lib.hid h2; clear h2
  have HD := Lib.hid hD; clear hD
  have HC := Lib.hid hC; clear hC
  have HS := Lib.hid hS; clear hS
  have hE := not_empty_of h0
  clear h0
  go_enter Tryz.func104, Tryz.ntmps104
  go_wp2_with fail
  refine (ivalid_t g1 s1 _ H1.out).mono ?_; rintro e w1 ⟨rfl, b1⟩
  obtain ⟨T1, T2, T3, k1⟩ := after3 b1
  have q1 := T2.1
  have q2 := T2.2.1
  go_wp2_with fail
  refine (ivalid_t g2 s2 _ H2.out).mono ?_; rintro e w2 ⟨rfl, b2⟩
  have k2 := bnextW k1 b2 k1.size
  have T1 := T1.below b2 rfl
  have T2 := T2.below b2 rfl
  have T3 := T3.below b2 rfl
  clear q1 q2
  have q1 := T1.1
  have q2 := T1.2.1
  have q3 := T2.1
  have q4 := T2.2.1
  go_wp2_with fail
  refine (HD.out _).mono ?_; rintro e w3 ⟨rfl, b3⟩
  have k3 := bnextW k2 b3 k2.size
  have T1 := T1.below b3 rfl
  have T2 := T2.below b3 rfl
  have T3 := T3.below b3 rfl
  clear q1 q2 q3 q4
  go_wp2_with fail
  refine (HC.out _ _ _ T1 T2).mono ?_; rintro e w4 ⟨rfl, b4⟩
  have k4 := bnextW k3 b4 k3.size
  have T1 := T1.below b4 rfl
  have T2 := T2.below b4 rfl
  have T3 := T3.below b4 rfl
  have q1 := T1.1
  have q2 := T1.2.1
  have q3 := T2.1
  have q4 := T2.2.1
  go_wp2_with fail
  refine (HS.out _).mono ?_; rintro e w5 ⟨rfl, b5⟩
  have k5 := bnextW k4 b5 k4.size
  have T3 := T3.below b5 rfl
  clear q1 q2 q3 q4
  obtain ⟨q1, q2, q3, q4, q5⟩ := T3
  go_wp2
  refine bodyPost_ret (v := .tuple #[.agg #[.bool G, .string S], .string y', .int .i64 0]) (by simp [results, Tryz.results104, go_sem, q1, q2]) rfl ⟨rfl, ?_⟩
  exact bset k5 (by omega)

set_option maxHeartbeats 400000 in
theorem idiv_no1 (g1 g2 : Bool) (s1 s2 : ByteArray) (w : World) (h : ¬ IVal g1 s1) :
    Calls Tryz.prog 104 #[.agg #[.bool g1, .string s1], .agg #[.bool g2, .string s2]] w fun e w' => e = .returned (.tuple #[Z 0, .string ⟨#[]⟩, .int .i64 3]) ∧ Below w.heap.size w w' := by
  have H1 := Lib.hid h; clear h
  rw [Z_zero]
  go_enter Tryz.func104, Tryz.ntmps104
  go_wp2_with fail
  refine (ivalid_f g1 s1 _ H1.out).mono ?_; rintro e w1 ⟨rfl, b1⟩
  obtain ⟨T1, T2, T3, k1⟩ := after3 b1
  obtain ⟨q1, q2, q3, q4, q5⟩ := T3
  go_wp2
  refine bodyPost_ret (v := .tuple #[.agg #[.bool false, .string ⟨#[]⟩], .string ⟨#[]⟩, .int .i64 3]) (by simp [results, Tryz.results104, go_sem, q1, q2]) rfl ⟨rfl, ?_⟩
  exact bset k1 (by omega)
set_option maxHeartbeats 400000 in
theorem idiv_no2 (g1 g2 : Bool) (s1 s2 : ByteArray) (w : World) (h : IVal g1 s1) (h2 : ¬ IVal g2 s2) :
    Calls Tryz.prog 104 #[.agg #[.bool g1, .string s1], .agg #[.bool g2, .string s2]] w fun e w' => e = .returned (.tuple #[Z 0, .string ⟨#[]⟩, .int .i64 3]) ∧ Below w.heap.size w w' := by
  have H1 := Lib.hid h; clear h
  have H2 := Lib.hid h2; clear h2
  rw [Z_zero]
  go_enter Tryz.func104, Tryz.ntmps104
  go_wp2_with fail
  refine (ivalid_t g1 s1 _ H1.out).mono ?_; rintro e w1 ⟨rfl, b1⟩
  obtain ⟨T1, T2, T3, k1⟩ := after3 b1
  have q1 := T2.1
  have q2 := T2.2.1
  go_wp2_with fail
  refine (ivalid_f g2 s2 _ H2.out).mono ?_; rintro e w2 ⟨rfl, b2⟩
  have k2 := bnextW k1 b2 k1.size
  have T3 := T3.below b2 rfl
  clear q1 q2
  obtain ⟨q1, q2, q3, q4, q5⟩ := T3
  go_wp2
  refine bodyPost_ret (v := .tuple #[.agg #[.bool false, .string ⟨#[]⟩], .string ⟨#[]⟩, .int .i64 3]) (by simp [results, Tryz.results104, go_sem, q1, q2]) rfl ⟨rfl, ?_⟩
  exact bset k2 (by omega)
theorem idiv_no (g1 g2 : Bool) (s1 s2 : ByteArray) (w : World) (h : ¬ (IVal g1 s1 ∧ IVal g2 s2)) :
    Calls Tryz.prog 104 #[.agg #[.bool g1, .string s1], .agg #[.bool g2, .string s2]] w fun e w' => e = .returned (.tuple #[Z 0, .string ⟨#[]⟩, .int .i64 3]) ∧ Below w.heap.size w w' := by
  by_cases h1 : IVal g1 s1
  · exact idiv_no2 g1 g2 s1 s2 w h1 (fun q => h ⟨h1, q⟩)
  · exact idiv_no1 g1 g2 s1 s2 w h1

set_option maxHeartbeats 400000 in
theorem ridiv_no1 (g1 g2 : Bool) (s1 s2 : ByteArray) (w : World) (h : ¬ IVal g1 s1) :
    Calls Tryz.prog 150 #[.agg #[.bool g1, .string s1], .agg #[.bool g2, .string s2]] w fun e w' => e = .returned (.tuple #[Z 0, .string ⟨#[]⟩, .int .i64 3]) ∧ Below w.heap.size w w' := by
  have H1 := Lib.hid h; clear h
  rw [Z_zero]
  go_enter Tryz.func150, Tryz.ntmps150
  go_wp2_with fail
  refine (rivalid_f g1 s1 _ H1.out).mono ?_; rintro e w1 ⟨rfl, b1⟩
  obtain ⟨T1, T2, T3, k1⟩ := after3 b1
  obtain ⟨q1, q2, q3, q4, q5⟩ := T3
  go_wp2
  refine bodyPost_ret (v := .tuple #[.agg #[.bool false, .string ⟨#[]⟩], .string ⟨#[]⟩, .int .i64 3]) (by simp [results, Tryz.results150, go_sem, q1, q2]) rfl ⟨rfl, ?_⟩
  exact bset k1 (by omega)
set_option maxHeartbeats 400000 in
theorem ridiv_no2 (g1 g2 : Bool) (s1 s2 : ByteArray) (w : World) (h : IVal g1 s1) (h2 : ¬ IVal g2 s2) :
    Calls Tryz.prog 150 #[.agg #[.bool g1, .string s1], .agg #[.bool g2, .string s2]] w fun e w' => e = .returned (.tuple #[Z 0, .string ⟨#[]⟩, .int .i64 3]) ∧ Below w.heap.size w w' := by
  have H1 := Lib.hid h; clear h
  have H2 := Lib.hid h2; clear h2
  rw [Z_zero]
  go_enter Tryz.func150, Tryz.ntmps150
  go_wp2_with fail
  refine (rivalid_t g1 s1 _ H1.out).mono ?_; rintro e w1 ⟨rfl, b1⟩
  obtain ⟨T1, T2, T3, k1⟩ := after3 b1
  have q1 := T2.1
  have q2 := T2.2.1
  go_wp2_with fail
  refine (rivalid_f g2 s2 _ H2.out).mono ?_; rintro e w2 ⟨rfl, b2⟩
  have k2 := bnextW k1 b2 k1.size
  have T3 := T3.below b2 rfl
  clear q1 q2
  obtain ⟨q1, q2, q3, q4, q5⟩ := T3
  go_wp2
  refine bodyPost_ret (v := .tuple #[.agg #[.bool false, .string ⟨#[]⟩], .string ⟨#[]⟩, .int .i64 3]) (by simp [results, Tryz.results150, go_sem, q1, q2]) rfl ⟨rfl, ?_⟩
  exact bset k2 (by omega)
theorem ridiv_no (g1 g2 : Bool) (s1 s2 : ByteArray) (w : World) (h : ¬ (IVal g1 s1 ∧ IVal g2 s2)) :
    Calls Tryz.prog 150 #[.agg #[.bool g1, .string s1], .agg #[.bool g2, .string s2]] w fun e w' => e = .returned (.tuple #[Z 0, .string ⟨#[]⟩, .int .i64 3]) ∧ Below w.heap.size w w' := by
  by_cases h1 : IVal g1 s1
  · exact ridiv_no2 g1 g2 s1 s2 w h1 (fun q => h ⟨h1, q⟩)
  · exact ridiv_no1 g1 g2 s1 s2 w h1

set_option maxHeartbeats 800000 in
theorem idiv_zero (g1 g2 : Bool) (s1 s2 : ByteArray) (w : World) (h1 : IVal g1 s1) (h2 : IVal g2 s2) (h0 : s2.size = 0) :
    Calls Tryz.prog 104 #[.agg #[.bool g1, .string s1], .agg #[.bool g2, .string s2]] w fun e w' => e = .returned (.tuple #[Z 0, .string ⟨#[]⟩, .int .i64 11]) ∧ Below w.heap.size w w' := by
  have H1 := Lib.hid h1; clear h1
  have H2 := Lib.hid h2; clear h2
  have hE := empty_of h0
  clear h0
  rw [Z_zero]
  go_enter Tryz.func104, Tryz.ntmps104
  go_wp2_with fail
  refine (ivalid_t g1 s1 _ H1.out).mono ?_; rintro e w1 ⟨rfl, b1⟩
  obtain ⟨T1, T2, T3, k1⟩ := after3 b1
  have q1 := T2.1
  have q2 := T2.2.1
  go_wp2_with fail
  refine (ivalid_t g2 s2 _ H2.out).mono ?_; rintro e w2 ⟨rfl, b2⟩
  have k2 := bnextW k1 b2 k1.size
  have T2 := T2.below b2 rfl
  have T3 := T3.below b2 rfl
  clear q1 q2
  have r1 := T2.1
  have r2 := T2.2.1
  obtain ⟨q1, q2, q3, q4, q5⟩ := T3
  go_wp2
  refine bodyPost_ret (v := .tuple #[.agg #[.bool false, .string ⟨#[]⟩], .string ⟨#[]⟩, .int .i64 11]) (by simp [results, Tryz.results104, go_sem, q1, q2]) rfl ⟨rfl, ?_⟩
  exact bset k2 (by omega)

set_option maxHeartbeats 800000 in
theorem ridiv_zero (g1 g2 : Bool) (s1 s2 : ByteArray) (w : World) (h1 : IVal g1 s1) (h2 : IVal g2 s2) (h0 : s2.size = 0) :
    Calls Tryz.prog 150 #[.agg #[.bool g1, .string s1], .agg #[.bool g2, .string s2]] w fun e w' => e = .returned (.tuple #[Z 0, .string ⟨#[]⟩, .int .i64 11]) ∧ Below w.heap.size w w' := by
  have H1 := Lib.hid h1; clear h1
  have H2 := Lib.hid h2; clear h2
  have hE := empty_of h0
  clear h0
  rw [Z_zero]
  go_enter Tryz.func150, Tryz.ntmps150
  go_wp2_with fail
  refine (rivalid_t g1 s1 _ H1.out).mono ?_; rintro e w1 ⟨rfl, b1⟩
  obtain ⟨T1, T2, T3, k1⟩ := after3 b1
  have q1 := T2.1
  have q2 := T2.2.1
  go_wp2_with fail
  refine (rivalid_t g2 s2 _ H2.out).mono ?_; rintro e w2 ⟨rfl, b2⟩
  have k2 := bnextW k1 b2 k1.size
  have T2 := T2.below b2 rfl
  have T3 := T3.below b2 rfl
  clear q1 q2
  have r1 := T2.1
  have r2 := T2.2.1
  obtain ⟨q1, q2, q3, q4, q5⟩ := T3
  go_wp2
  refine bodyPost_ret (v := .tuple #[.agg #[.bool false, .string ⟨#[]⟩], .string ⟨#[]⟩, .int .i64 11]) (by simp [results, Tryz.results150, go_sem, q1, q2]) rfl ⟨rfl, ?_⟩
  exact bset k2 (by omega)

set_option maxHeartbeats 800000 in
set_option maxRecDepth 20000 in
theorem ridiv_pos (g2 G : Bool) (s1 s2 x y x' y' S : ByteArray) (v v1 v2 : Int) (w : World) (h1 : IVal false s1) (h2 : IVal g2 s2) (h0 : s2.size ≠ 0)
    (hD : ∀ w, Calls Tryz.prog 123 #[.string s1, .string s2] w fun e w' => e = .returned (.tuple #[.string x, .string y, .int .i64 v]) ∧ Below w.heap.size w w')
    (hS : ∀ w, Calls Tryz.prog 159 #[.bool g2, .string x] w fun e w' => e = .returned (.agg #[.bool G, .string S]) ∧ Below w.heap.size w w') :
    Calls Tryz.prog 150 #[.agg #[.bool false, .string s1], .agg #[.bool g2, .string s2]] w fun e w' => e = .returned (.tuple #[.agg #[.bool G, .string S], .string y, .int .i64 0]) ∧ Below w.heap.size w w' := by
  have H1 := Lib.hid h1; clear h1
  have H2 := Lib.hid h2; clear h2
  have HD := Lib.hid hD; clear hD
  have HS := Lib.hid hS; clear hS
  skip
  skip
  have hE := not_empty_of h0
  clear h0
  go_enter Tryz.func150, Tryz.ntmps150
  go_wp2_with fail
  refine (rivalid_t false s1 _ H1.out).mono ?_; rintro e w1 ⟨rfl, b1⟩
  obtain ⟨T1, T2, T3, k1⟩ := after3 b1
  have q1 := T2.1
  have q2 := T2.2.1
  go_wp2_with fail
  refine (rivalid_t g2 s2 _ H2.out).mono ?_; rintro e w2 ⟨rfl, b2⟩
  have k2 := bnextW k1 b2 k1.size
  have T1 := T1.below b2 rfl
  have T2 := T2.below b2 rfl
  have T3 := T3.below b2 rfl
  clear q1 q2
  have q1 := T1.1
  have q2 := T1.2.1
  have q3 := T2.1
  have q4 := T2.2.1
  go_wp2_with fail
  refine (HD.out _).mono ?_; rintro e w3 ⟨rfl, b3⟩
  have k3 := bnextW k2 b3 k2.size
  have T1 := T1.below b3 rfl
  have T2 := T2.below b3 rfl
  have T3 := T3.below b3 rfl
  clear q1 q2 q3 q4
  have q1 := T1.1
  have q2 := T1.2.1
  have q3 := T2.1
  have q4 := T2.2.1
  go_wp2_with fail
  refine (HS.out _).mono ?_; rintro e w5 ⟨rfl, b5⟩
  have k5 := bnextW k3 b5 k3.size
  have T3 := T3.below b5 rfl
  clear q1 q2 q3 q4
  obtain ⟨q1, q2, q3, q4, q5⟩ := T3
  go_wp2
  refine bodyPost_ret (v := .tuple #[.agg #[.bool G, .string S], .string y, .int .i64 0]) (by simp [results, Tryz.results150, go_sem, q1, q2]) rfl ⟨rfl, ?_⟩
  exact bset k5 (by omega)

set_option maxHeartbeats 800000 in
set_option maxRecDepth 20000 in
theorem ridiv_negz (g2 G : Bool) (s1 s2 x y x' y' S : ByteArray) (v v1 v2 : Int) (w : World) (h1 : IVal true s1) (h2 : IVal g2 s2) (h0 : s2.size ≠ 0) (hy : y.toList.isEmpty = true)
    (hD : ∀ w, Calls Tryz.prog 123 #[.string s1, .string s2] w fun e w' => e = .returned (.tuple #[.string x, .string y, .int .i64 v]) ∧ Below w.heap.size w w')
    (hS : ∀ w, Calls Tryz.prog 159 #[.bool (!g2), .string x] w fun e w' => e = .returned (.agg #[.bool G, .string S]) ∧ Below w.heap.size w w') :
    Calls Tryz.prog 150 #[.agg #[.bool true, .string s1], .agg #[.bool g2, .string s2]] w fun e w' => e = .returned (.tuple #[.agg #[.bool G, .string S], .string y, .int .i64 0]) ∧ Below w.heap.size w w' := by
  have H1 := Lib.hid h1; clear h1
  have H2 := Lib.hid h2; clear h2
  have HD := Lib.hid hD; clear hD
  have HS := Lib.hid hS; clear hS
  skip
  skip
  have hE := not_empty_of h0
  clear h0
  go_enter Tryz.func150, Tryz.ntmps150
  go_wp2_with fail
  refine (rivalid_t true s1 _ H1.out).mono ?_; rintro e w1 ⟨rfl, b1⟩
  obtain ⟨T1, T2, T3, k1⟩ := after3 b1
  have q1 := T2.1
  have q2 := T2.2.1
  go_wp2_with fail
  refine (rivalid_t g2 s2 _ H2.out).mono ?_; rintro e w2 ⟨rfl, b2⟩
  have k2 := bnextW k1 b2 k1.size
  have T1 := T1.below b2 rfl
  have T2 := T2.below b2 rfl
  have T3 := T3.below b2 rfl
  clear q1 q2
  have q1 := T1.1
  have q2 := T1.2.1
  have q3 := T2.1
  have q4 := T2.2.1
  go_wp2_with fail
  refine (HD.out _).mono ?_; rintro e w3 ⟨rfl, b3⟩
  have k3 := bnextW k2 b3 k2.size
  have T1 := T1.below b3 rfl
  have T2 := T2.below b3 rfl
  have T3 := T3.below b3 rfl
  clear q1 q2 q3 q4
  have q1 := T1.1
  have q2 := T1.2.1
  have q3 := T2.1
  have q4 := T2.2.1
  go_wp2_with fail
  refine (HS.out _).mono ?_; rintro e w5 ⟨rfl, b5⟩
  have k5 := bnextW k3 b5 k3.size
  have T3 := T3.below b5 rfl
  clear q1 q2 q3 q4
  obtain ⟨q1, q2, q3, q4, q5⟩ := T3
  go_wp2
  refine bodyPost_ret (v := .tuple #[.agg #[.bool G, .string S], .string y, .int .i64 0]) (by simp [results, Tryz.results150, go_sem, q1, q2]) rfl ⟨rfl, ?_⟩
  exact bset k5 (by omega)

set_option maxHeartbeats 800000 in
set_option maxRecDepth 20000 in
theorem ridiv_neg (g2 G : Bool) (s1 s2 x y x' y' S : ByteArray) (v v1 v2 : Int) (w : World) (h1 : IVal true s1) (h2 : IVal g2 s2) (h0 : s2.size ≠ 0) (hy : y.toList.isEmpty = false)
    (hD : ∀ w, Calls Tryz.prog 123 #[.string s1, .string s2] w fun e w' => e = .returned (.tuple #[.string x, .string y, .int .i64 v]) ∧ Below w.heap.size w w')
    (hA : ∀ w, Calls Tryz.prog 161 #[.string x, .string (E 1)] w fun e w' => e = .returned (.tuple #[.string x', .int .i64 v1]) ∧ Below w.heap.size w w')
    (hB : ∀ w, Calls Tryz.prog 162 #[.string s2, .string y] w fun e w' => e = .returned (.tuple #[.string y', .int .i64 v2]) ∧ Below w.heap.size w w')
    (hS : ∀ w, Calls Tryz.prog 159 #[.bool (!g2), .string x'] w fun e w' => e = .returned (.agg #[.bool G, .string S]) ∧ Below w.heap.size w w') :
    Calls Tryz.prog 150 #[.agg #[.bool true, .string s1], .agg #[.bool g2, .string s2]] w fun e w' => e = .returned (.tuple #[.agg #[.bool G, .string S], .string y', .int .i64 0]) ∧ Below w.heap.size w w' := by
  have H1 := Lib.hid h1; clear h1
  have H2 := Lib.hid h2; clear h2
  have HD := Lib.hid hD; clear hD
  have HS := Lib.hid hS; clear hS
  have HA := Lib.hid hA; clear hA
  have HB := Lib.hid hB; clear hB
  have hE := not_empty_of h0
  clear h0
  go_enter Tryz.func150, Tryz.ntmps150
  go_wp2_with fail
  refine (rivalid_t true s1 _ H1.out).mono ?_; rintro e w1 ⟨rfl, b1⟩
  obtain ⟨T1, T2, T3, k1⟩ := after3 b1
  have q1 := T2.1
  have q2 := T2.2.1
  go_wp2_with fail
  refine (rivalid_t g2 s2 _ H2.out).mono ?_; rintro e w2 ⟨rfl, b2⟩
  have k2 := bnextW k1 b2 k1.size
  have T1 := T1.below b2 rfl
  have T2 := T2.below b2 rfl
  have T3 := T3.below b2 rfl
  clear q1 q2
  have q1 := T1.1
  have q2 := T1.2.1
  have q3 := T2.1
  have q4 := T2.2.1
  go_wp2_with fail
  refine (HD.out _).mono ?_; rintro e w3 ⟨rfl, b3⟩
  have k3 := bnextW k2 b3 k2.size
  have T1 := T1.below b3 rfl
  have T2 := T2.below b3 rfl
  have T3 := T3.below b3 rfl
  clear q1 q2 q3 q4
  have q1 := T1.1
  have q2 := T1.2.1
  have q3 := T2.1
  have q4 := T2.2.1
  go_wp2_with fail
  refine (rof_any 1 _ (by omega)).mono ?_; rintro e w6 ⟨rfl, b6⟩
  have k3 := bnextW k3 b6 k3.size
  have T1 := T1.below b6 rfl
  have T2 := T2.below b6 rfl
  have T3 := T3.below b6 rfl
  clear q1 q2 q3 q4
  have q1 := T1.1
  have q2 := T1.2.1
  have q3 := T2.1
  have q4 := T2.2.1
  go_wp2_with fail
  refine (HA.out _).mono ?_; rintro e w7 ⟨rfl, b7⟩
  have k3 := bnextW k3 b7 k3.size
  have T1 := T1.below b7 rfl
  have T2 := T2.below b7 rfl
  have T3 := T3.below b7 rfl
  clear q1 q2 q3 q4
  have q1 := T1.1
  have q2 := T1.2.1
  have q3 := T2.1
  have q4 := T2.2.1
  go_wp2_with fail
  refine (HB.out _).mono ?_; rintro e w8 ⟨rfl, b8⟩
  have k3 := bnextW k3 b8 k3.size
  have T1 := T1.below b8 rfl
  have T2 := T2.below b8 rfl
  have T3 := T3.below b8 rfl
  clear q1 q2 q3 q4
  have q1 := T1.1
  have q2 := T1.2.1
  have q3 := T2.1
  have q4 := T2.2.1
  go_wp2_with fail
  refine (HS.out _).mono ?_; rintro e w5 ⟨rfl, b5⟩
  have k5 := bnextW k3 b5 k3.size
  have T3 := T3.below b5 rfl
  clear q1 q2 q3 q4
  obtain ⟨q1, q2, q3, q4, q5⟩ := T3
  go_wp2
  refine bodyPost_ret (v := .tuple #[.agg #[.bool G, .string S], .string y', .int .i64 0]) (by simp [results, Tryz.results150, go_sem, q1, q2]) rfl ⟨rfl, ?_⟩
  exact bset k5 (by omega)

theorem idiv_yes (g1 g2 : Bool) (s1 s2 : ByteArray) (w : World) (h1 : IVal g1 s1) (h2 : IVal g2 s2) :
    Calls Tryz.prog 104 #[.agg #[.bool g1, .string s1], .agg #[.bool g2, .string s2]] w fun e w' => e = .returned (zdivN (IZ g1 s1) (IZ g2 s2)) ∧ Below w.heap.size w w' := by
  by_cases h0 : s2.size = 0
  · have hv := (size_zero h2.1).1 h0
    have hz : IZ g2 s2 = 0 := by unfold IZ; rw [hv]; cases g2 <;> rfl
    rw [hz, zdivN_zero, show E 0 = ⟨#[]⟩ from rfl]
    exact idiv_zero g1 g2 s1 s2 w h1 h2 h0
  · have hv : V s2 ≠ 0 := fun q => h0 ((size_zero h2.1).2 q)
    have hm : IZ g2 s2 ≠ 0 := sg_ne g2 hv
    have hD := fun w => divMod_yes s1 s2 w h1.1 h2.1
    rw [divN_pos (by omega)] at hD
    have l1 := V_lim h1.1
    have l2 := V_lim h2.1
    have lr : V s1 % V s2 < V s2 := Nat.mod_lt _ (by omega)
    have lq : V s1 / V s2 ≤ V s1 := Nat.div_le_self _ _
    unfold zdivN
    rw [if_neg hm]
    by_cases hc : g1 = false ∨ V s1 % V s2 = 0
    · have hd := sg_div g1 g2 (V s1) (V s2) hv hc
      unfold IZ
      rw [hd.1, hd.2, Int.toNat_natCast]
      have hS := fun w => signed_n (g1 != g2) (V s1 / V s2) w
      refine idiv_core g1 g2 _ s1 s2 _ _ _ _ _ 0 w h1 h2 h0 hD (fun a b w T1 T2 => ?_) hS
      rcases hc with rfl | hc
      · exact corr_pos a b g2 s1 s2 _ _ w T1 T2
      · exact corr_zero a b g1 g2 s1 s2 _ _ w T1 T2 (by rw [E_empty, hc]; rfl)
    · have hg : g1 = true := by cases g1 <;> simp_all
      have hr : V s1 % V s2 ≠ 0 := fun q => hc (.inr q)
      subst hg
      have hd := sg_div' g2 (V s1) (V s2) hv hr
      unfold IZ
      rw [hd.1, hd.2, Int.toNat_natCast]
      have hS := fun w => signed_n (true != g2) (V s1 / V s2 + 1) w
      have hql := quot_lim l1 hv hr
      have hA := fun w => add_yes (E (V s1 / V s2)) (E 1) w (can_E' (by omega)) (can_E' (by omega))
      rw [V_E, V_E, okN_yes hql] at hA
      have hB := fun w => sub_yes s2 (E (V s1 % V s2)) w h2.1 (can_E' (by omega))
      rw [V_E, subN_yes (by omega)] at hB
      have hy : (E (V s1 % V s2)).toList.isEmpty = false := by rw [E_empty]; simp [hr]
      exact idiv_core true g2 _ s1 s2 _ _ _ _ _ 0 w h1 h2 h0 hD (fun a b w T1 T2 => corr_neg a b g2 s1 s2 _ _ _ _ 0 0 w T1 T2 hy hA hB) hS

theorem ridiv_yes (g1 g2 : Bool) (s1 s2 : ByteArray) (w : World) (h1 : IVal g1 s1) (h2 : IVal g2 s2) :
    Calls Tryz.prog 150 #[.agg #[.bool g1, .string s1], .agg #[.bool g2, .string s2]] w fun e w' => e = .returned (zdivN (IZ g1 s1) (IZ g2 s2)) ∧ Below w.heap.size w w' := by
  by_cases h0 : s2.size = 0
  · have hv := (size_zero h2.1).1 h0
    have hz : IZ g2 s2 = 0 := by unfold IZ; rw [hv]; cases g2 <;> rfl
    rw [hz, zdivN_zero, show E 0 = ⟨#[]⟩ from rfl]
    exact ridiv_zero g1 g2 s1 s2 w h1 h2 h0
  · have hv : V s2 ≠ 0 := fun q => h0 ((size_zero h2.1).2 q)
    have hm : IZ g2 s2 ≠ 0 := sg_ne g2 hv
    have hD := fun w => rdivMod_yes s1 s2 w h1.1 h2.1
    rw [divN_pos (by omega)] at hD
    have l1 := V_lim h1.1
    have l2 := V_lim h2.1
    have lr : V s1 % V s2 < V s2 := Nat.mod_lt _ (by omega)
    have lq : V s1 / V s2 ≤ V s1 := Nat.div_le_self _ _
    unfold zdivN
    rw [if_neg hm]
    by_cases hc : g1 = false ∨ V s1 % V s2 = 0
    · have hd := sg_div g1 g2 (V s1) (V s2) hv hc
      unfold IZ
      rw [hd.1, hd.2, Int.toNat_natCast]
      have hS := fun w => make_n (g1 != g2) (V s1 / V s2) w
      rcases hc with rfl | hc
      · rw [show (false != g2) = g2 by cases g2 <;> rfl] at hS ⊢
        exact ridiv_pos g2 _ s1 s2 _ _ s1 s1 _ 0 0 0 w h1 h2 h0 hD hS
      · cases g1
        · rw [show (false != g2) = g2 by cases g2 <;> rfl] at hS ⊢
          exact ridiv_pos g2 _ s1 s2 _ _ s1 s1 _ 0 0 0 w h1 h2 h0 hD hS
        · rw [show (true != g2) = !g2 by cases g2 <;> rfl] at hS ⊢
          exact ridiv_negz g2 _ s1 s2 _ _ s1 s1 _ 0 0 0 w h1 h2 h0 (by rw [E_empty, hc]; rfl) hD hS
    · have hg : g1 = true := by cases g1 <;> simp_all
      have hr : V s1 % V s2 ≠ 0 := fun q => hc (.inr q)
      subst hg
      have hd := sg_div' g2 (V s1) (V s2) hv hr
      unfold IZ
      rw [hd.1, hd.2, Int.toNat_natCast]
      have hS := fun w => make_n (true != g2) (V s1 / V s2 + 1) w
      have hql := quot_lim l1 hv hr
      have hA := fun w => radd_yes (E (V s1 / V s2)) (E 1) w (can_E' (by omega)) (can_E' (by omega))
      rw [V_E, V_E, okN_yes hql] at hA
      have hB := fun w => rsub_yes s2 (E (V s1 % V s2)) w h2.1 (can_E' (by omega))
      rw [V_E, subN_yes (by omega)] at hB
      have hy : (E (V s1 % V s2)).toList.isEmpty = false := by rw [E_empty]; simp [hr]
      rw [show (true != g2) = !g2 by cases g2 <;> rfl] at hS ⊢
      exact ridiv_neg g2 _ s1 s2 _ _ _ _ _ 0 0 0 w h1 h2 h0 hy hD hA hB hS
end Go.Proofs.YtogmgfdihmacpaaGreatDoor


/-
  Contracts of package integer and of its reference: Of, Small; the reference's From.
-/
namespace Go.Proofs.YtogmgfdihmacpaaGreatDoor
open Go.RowKit
set_option linter.unusedVariables false

theorem below1 {w w' : World} {c0 c1 : Value} {t : TypeId} (b : Below (w.alloc (.cells #[c0, c1] t)).heap.size (w.alloc (.cells #[c0, c1] t)) w') : Below w.heap.size w w' :=
  ((Below.refl w.heap.size w).alloc (Nat.le_refl _) _).trans (b.mono (by simp))
set_option maxHeartbeats 400000 in
set_option maxRecDepth 20000 in
theorem iof_neg (m : Nat) (w : World) (h0 : 0 < m) (h : m < 9223372036854775808) :
    Calls Tryz.prog 127 #[.int .i64 (-(m : Int))] w fun e w' => e = .returned (Z (-(m : Int))) ∧ Below w.heap.size w w' := by
  have hn : m < 18446744073709551616 := by omega
  have hz : Z (-(m : Int)) = .agg #[.bool true, .string (E m)] := by
    unfold Z ZG ZS; rw [Int.natAbs_neg, Int.natAbs_natCast]; simp; omega
  rw [hz]; clear hz
  have hl : -(m : Int) < 0 := by omega
  have hw : IntKind.i64.wrap (m : Int) = m := IntWalk.i64_in _ (by omega)
  go_enter Tryz.func127, Tryz.ntmps127
  go_wp2_with fail
  refine (of_any m _ hn).mono ?_; rintro e w' ⟨rfl, b1⟩
  obtain ⟨hc0, hc1, hf0, hf1⟩ := var_after b1
  go_wp2
  refine bodyPost_ret (v := .agg #[.bool true, .string (E m)]) (by simp [results, Tryz.results127, go_sem, hc0, hc1]) rfl ⟨rfl, ?_⟩
  exact bset (below1 b1) (Nat.le_refl _)
set_option maxHeartbeats 400000 in
set_option maxRecDepth 20000 in
theorem iof_min (m : Nat) (w : World) (hm : m = 9223372036854775808) :
    Calls Tryz.prog 127 #[.int .i64 (-(m : Int))] w fun e w' => e = .returned (Z (-(m : Int))) ∧ Below w.heap.size w w' := by
  have hn : m < 18446744073709551616 := by omega
  have hz : Z (-(m : Int)) = .agg #[.bool true, .string (E m)] := by
    unfold Z ZG ZS; rw [Int.natAbs_neg, Int.natAbs_natCast]; simp; omega
  rw [hz]; clear hz
  have hl : -(m : Int) < 0 := by omega
  have HW := Lib.hid (show IntKind.u64.wrap (wrap64 (m : Int)) = m by subst hm; decide +kernel)
  clear hm
  go_enter Tryz.func127, Tryz.ntmps127
  go_wp2_with fail
  rw [HW.out]
  refine (of_any m _ hn).mono ?_; rintro e w' ⟨rfl, b1⟩
  obtain ⟨hc0, hc1, hf0, hf1⟩ := var_after b1
  go_wp2
  refine bodyPost_ret (v := .agg #[.bool true, .string (E m)]) (by simp [results, Tryz.results127, go_sem, hc0, hc1]) rfl ⟨rfl, ?_⟩
  exact bset (below1 b1) (Nat.le_refl _)
theorem iof_any (n : Int) (w : World) (h1 : -9223372036854775808 ≤ n) (h2 : n ≤ 9223372036854775807) :
    Calls Tryz.prog 127 #[.int .i64 n] w fun e w' => e = .returned (Z n) ∧ Below w.heap.size w w' := by
  by_cases h0 : 0 ≤ n
  · obtain ⟨m, rfl⟩ := Int.eq_ofNat_of_zero_le h0
    exact iof_pos m w (by omega)
  · by_cases hm : n = -9223372036854775808
    · subst hm; exact iof_min 9223372036854775808 w rfl
    · obtain ⟨m, hm'⟩ := Int.eq_ofNat_of_zero_le (a := -n) (by omega)
      obtain rfl : n = -(m : Int) := by omega
      exact iof_neg m w (by omega) (by omega)

set_option maxHeartbeats 400000 in
set_option maxRecDepth 20000 in
theorem riof_neg (m : Nat) (w : World) (h : m < 9223372036854775808) :
    Calls Tryz.prog 148 #[.int .i64 (-(m : Int) - 1)] w fun e w' => e = .returned (Z (-(m : Int) - 1)) ∧ Below w.heap.size w w' := by
  have hn : m + 1 < 18446744073709551616 := by omega
  have hz : Z (-(m : Int) - 1) = Z (sg true (m + 1)) := by rw [sg_t]; congr 1; omega
  have hm := fun w => make_n true (m + 1) w
  rw [hz]; clear hz
  obtain ⟨G, S, hc⟩ := Z_code (sg true (m + 1))
  rw [hc] at hm ⊢
  have HM := Lib.hid hm
  clear hm hc
  have hl : -(m : Int) - 1 < 0 := by omega
  have E2 := Lib.hid (show (m : Int) + 1 = (m + 1 : Nat) by omega)
  go_enter Tryz.func148, Tryz.ntmps148
  go_wp2_with fail
  rw [E2.out]
  refine (rof_any (m + 1) _ hn).mono ?_; rintro e w1 ⟨rfl, b1⟩
  obtain ⟨T1, k1⟩ := after1 b1
  go_wp2_with fail
  refine (HM.out _).mono ?_; rintro e w2 ⟨rfl, b2⟩
  have k2 := bnextW k1 b2 k1.size
  have T1 := T1.below b2 rfl
  obtain ⟨q1, q2, q3, q4, q5⟩ := T1
  go_wp2
  refine bodyPost_ret (v := .agg #[.bool G, .string S]) (by simp [results, Tryz.results148, go_sem, q1, q2]) rfl ⟨rfl, ?_⟩
  exact bset k2 (Nat.le_refl _)
set_option maxHeartbeats 400000 in
set_option maxRecDepth 20000 in
theorem riof_pos (m : Nat) (w : World) (h : m < 9223372036854775808) :
    Calls Tryz.prog 148 #[.int .i64 (m : Int)] w fun e w' => e = .returned (Z (m : Int)) ∧ Below w.heap.size w w' := by
  have hn : m < 18446744073709551616 := by omega
  have hz : Z (m : Int) = Z (sg false m) := by rw [sg_f]
  have hm := fun w => make_n false m w
  rw [hz]; clear hz
  obtain ⟨G, S, hc⟩ := Z_code (sg false m)
  rw [hc] at hm ⊢
  have HM := Lib.hid hm
  clear hm hc
  go_enter Tryz.func148, Tryz.ntmps148
  go_wp2_with fail
  refine (rof_any m _ hn).mono ?_; rintro e w1 ⟨rfl, b1⟩
  obtain ⟨T1, k1⟩ := after1 b1
  go_wp2_with fail
  refine (HM.out _).mono ?_; rintro e w2 ⟨rfl, b2⟩
  have k2 := bnextW k1 b2 k1.size
  have T1 := T1.below b2 rfl
  obtain ⟨q1, q2, q3, q4, q5⟩ := T1
  go_wp2
  refine bodyPost_ret (v := .agg #[.bool G, .string S]) (by simp [results, Tryz.results148, go_sem, q1, q2]) rfl ⟨rfl, ?_⟩
  exact bset k2 (Nat.le_refl _)
theorem riof_any (n : Int) (w : World) (h1 : -9223372036854775808 ≤ n) (h2 : n ≤ 9223372036854775807) :
    Calls Tryz.prog 148 #[.int .i64 n] w fun e w' => e = .returned (Z n) ∧ Below w.heap.size w w' := by
  by_cases h0 : 0 ≤ n
  · obtain ⟨m, rfl⟩ := Int.eq_ofNat_of_zero_le h0
    exact riof_pos m w (by omega)
  · obtain ⟨m, hm'⟩ := Int.eq_ofNat_of_zero_le (a := -n - 1) (by omega)
    obtain rfl : n = -(m : Int) - 1 := by omega
    exact riof_neg m w (by omega)

set_option maxHeartbeats 400000 in
set_option maxRecDepth 20000 in
theorem rfrom_yes (s : ByteArray) (w : World) (h : Can s) :
    Calls Tryz.prog 151 #[.string s] w fun e w' => e = .returned (Z (V s : Nat)) ∧ Below w.heap.size w w' := by
  have HC := Lib.hid h
  have hm := fun w => make_s false s w h
  rw [sg_f] at hm
  clear h
  obtain ⟨G, S, hc⟩ := Z_code (V s : Nat)
  rw [hc] at hm ⊢
  have HM := Lib.hid hm
  clear hm hc
  go_enter Tryz.func151, Tryz.ntmps151
  go_wp2_with fail
  refine (rvalid_yes s _ HC.out).mono ?_; rintro e w' ⟨rfl, rfl⟩
  go_wp2_with fail
  refine (HM.out _).mono ?_; rintro e w1 ⟨rfl, b1⟩
  obtain ⟨T1, k1⟩ := after1 b1
  obtain ⟨q1, q2, q3, q4, q5⟩ := T1
  go_wp2
  refine bodyPost_ret (v := .agg #[.bool G, .string S]) (by simp [results, Tryz.results151, go_sem, q1, q2]) rfl ⟨rfl, ?_⟩
  exact bset k1 (Nat.le_refl _)
set_option maxHeartbeats 400000 in
set_option maxRecDepth 20000 in
theorem rfrom_no (s : ByteArray) (w : World) (h : ¬ Can s) :
    Calls Tryz.prog 151 #[.string s] w fun e w' => e = .returned (Z 0) ∧ Below w.heap.size w w' := by
  have HC := Lib.hid h; clear h
  rw [Z_zero]
  go_enter Tryz.func151, Tryz.ntmps151
  go_wp2_with fail
  refine (rvalid_no s _ HC.out).mono ?_; rintro e w' ⟨rfl, rfl⟩
  go_wp2
  refine bodyPost_ret (v := .agg #[.bool false, .string ⟨#[]⟩]) (by simp [results, Tryz.results151, go_sem]) rfl ⟨rfl, ?_⟩
  exact (Below.refl _ _).alloc (Nat.le_refl _) _

theorem ret_ib {a b : Int} {c : Bool} (h : a = b) : Ending.returned (.tuple #[.int .i64 a, .bool c]) = .returned (.tuple #[.int .i64 b, .bool c]) := by rw [h]
theorem small_of {g : Bool} {s : ByteArray} (h : IVal g s) (h1 : -9223372036854775808 ≤ IZ g s) (h2 : IZ g s ≤ 9223372036854775807) : SmallC s := by
  refine ⟨h.1, ?_⟩
  have hv : V s ≤ 9223372036854775808 := by
    have := sg_natAbs g (V s)
    unfold IZ at h1 h2
    omega
  have := E_V h.1
  rw [← this]
  exact E_size_le.2 (by have : (256 : Nat) ^ 8 = 18446744073709551616 := by decide
                        omega)
theorem smallC_can {s : ByteArray} (h : SmallC s) : Can s := h.1

end Go.Proofs.YtogmgfdihmacpaaGreatDoor


/-
  Contracts of package integer and of its reference: Mod, Divide.
-/
namespace Go.Proofs.YtogmgfdihmacpaaGreatDoor
open Go.RowKit
set_option linter.unusedVariables false

theorem Two.out {w : World} {g : Nat} {c0 c1 : Value} (h : Two w g c0 c1) : w.cell? ⟨g, 0, none⟩ = some c0 ∧ w.cell? ⟨g, 1, none⟩ = some c1 := ⟨h.1, h.2.1⟩

end Go.Proofs.YtogmgfdihmacpaaGreatDoor


/-
  Contracts of package integer and of its reference: Mod.
-/
namespace Go.Proofs.YtogmgfdihmacpaaGreatDoor
open Go.RowKit
set_option linter.unusedVariables false

theorem Two.newD (w : World) (c0 c1 : Value) (t : TypeId) (g : Nat) (hg : g = w.heap.size) : Two (w.alloc (.cells #[c0, c1] t)).drew g c0 c1 := Two.new w c0 c1 t g hg
theorem Two.allocD {w : World} {g : Nat} {c0 c1 : Value} (h : Two w g c0 c1) (o : Obj) : Two (w.alloc o).drew g c0 c1 := h.alloc o
theorem Two.drewD {w : World} {g : Nat} {c0 c1 : Value} (h : Two w g c0 c1) : Two w.drew g c0 c1 := h

set_option maxHeartbeats 4000000 in
set_option maxRecDepth 20000 in
theorem imod_core (g1 G2 G : Bool) (s1 m S2 S t : ByteArray) (v : Int) (w : World) (hm : Can m)
    (hF : ∀ w, Calls Tryz.prog 35 #[.string m] w fun e w' => e = .returned (.agg #[.bool G2, .string S2]) ∧ Below w.heap.size w w')
    (hD : ∀ w, Calls Tryz.prog 104 #[.agg #[.bool g1, .string s1], .agg #[.bool G2, .string S2]] w fun e w' => e = .returned (.tuple #[.agg #[.bool G, .string S], .string t, .int .i64 v]) ∧ Below w.heap.size w w') :
    Calls Tryz.prog 83 #[.agg #[.bool g1, .string s1], .string m] w fun e w' => e = .returned (.tuple #[.string t, .int .i64 v]) ∧ Below w.heap.size w w' := by
  have HM := Lib.hid hm; clear hm
  skip
  have HF := Lib.hid hF; clear hF
  have HD := Lib.hid hD; clear hD
  go_enter Tryz.func83, Tryz.ntmps83
  go_wp2_with fail
  refine (valid_yes m _ HM.out).mono ?_; rintro e wx ⟨rfl, rfl⟩
  have T1 := Two.new w (.bool g1) (.string s1) 37 w.heap.size rfl
  obtain ⟨q1, q2⟩ := T1.out
  have k0 := (Below.refl w.heap.size w).alloc (Nat.le_refl _) (.cells #[.bool g1, .string s1] 37)
  go_wp2
  go_region_with (first
    | (go_at_call 35; refine (HF.out _).mono ?_; rintro e w2 ⟨rfl, b2⟩; have T1 : Two w2 w.heap.size (.bool g1) (.string s1) := Two.below (by first | with_reducible exact T1 | with_reducible exact T1.drewD | with_reducible exact Two.alloc T1 _ | with_reducible exact Two.allocD T1 _) b2 rfl; have k2 : Below w.heap.size w w2 := bnextW (by repeat' (first | assumption | exact Below.refl _ _ | refine Below.drew ?_ | refine Below.setCell ?_ ?_ _ | refine Below.alloc ?_ ?_ _ | (simp; done) | (simp; omega) | omega)) b2 (by first | (simp; done) | (simp; omega) | omega); have z2 := k2.size; have y2 := T1.2.2.2.2; clear q1 q2; obtain ⟨q1, q2⟩ := T1.out; first | (have T9 : Two w2 (w.heap.size + 1) (.bool false) (.string ⟨#[]⟩) := Two.below (Two.newD _ _ _ _ _ (by simp)) b2 rfl; have z9 := T9.2.2.2.2) | skip)
    | (go_at_call 104; refine (HD.out _).mono ?_; rintro e w3 ⟨rfl, b3⟩; have k3 : Below w.heap.size w w3 := bnextW (by repeat' (first | assumption | exact Below.refl _ _ | refine Below.drew ?_ | refine Below.setCell ?_ ?_ _ | refine Below.alloc ?_ ?_ _ | (simp; done) | (simp; omega) | omega)) b3 (by first | (simp; done) | (simp; omega) | omega); have z3 := k3.size; clear q1 q2; first | (have T9 : Two w3 (w.heap.size + 1) (.bool false) (.string ⟨#[]⟩) := Two.below T9 b3 rfl; obtain ⟨v1, v2, v3, v4, v5⟩ := T9) | (have T9 : Two w3 w2.heap.size (.bool false) (.string ⟨#[]⟩) := Two.below (by first | with_reducible exact Two.new _ _ _ _ _ rfl | with_reducible exact Two.newD _ _ _ _ _ rfl) b3 rfl; obtain ⟨v1, v2, v3, v4, v5⟩ := T9) | skip))
  all_goals go_wp2
  all_goals go_ret2
  all_goals exact ⟨rfl, (by repeat' (first | assumption | exact Below.refl _ _ | refine Below.drew ?_ | refine Below.setCell ?_ ?_ _ | refine Below.alloc ?_ ?_ _ | (simp; done) | (simp; omega) | omega))⟩
set_option maxHeartbeats 400000 in
theorem imod_no1 (g1 : Bool) (s1 m : ByteArray) (w : World) (hm : ¬ Can m) :
    Calls Tryz.prog 83 #[.agg #[.bool g1, .string s1], .string m] w fun e w' => e = .returned (.tuple #[.string ⟨#[]⟩, .int .i64 3]) ∧ Below w.heap.size w w' := by
  have HM := Lib.hid hm; clear hm
  skip
  go_enter Tryz.func83, Tryz.ntmps83
  go_wp2_with fail
  refine (valid_no m _ HM.out).mono ?_; rintro e wx ⟨rfl, rfl⟩
  go_wp2
  go_ret2
  exact ⟨rfl, (Below.refl _ _).alloc (Nat.le_refl _) _⟩

set_option maxHeartbeats 4000000 in
set_option maxRecDepth 20000 in
theorem rimod_core (g1 G2 G : Bool) (s1 m S2 S t : ByteArray) (v : Int) (w : World) (hm : Can m) (hi : IVal g1 s1)
    (hF : ∀ w, Calls Tryz.prog 151 #[.string m] w fun e w' => e = .returned (.agg #[.bool G2, .string S2]) ∧ Below w.heap.size w w')
    (hD : ∀ w, Calls Tryz.prog 150 #[.agg #[.bool g1, .string s1], .agg #[.bool G2, .string S2]] w fun e w' => e = .returned (.tuple #[.agg #[.bool G, .string S], .string t, .int .i64 v]) ∧ Below w.heap.size w w') :
    Calls Tryz.prog 131 #[.agg #[.bool g1, .string s1], .string m] w fun e w' => e = .returned (.tuple #[.string t, .int .i64 v]) ∧ Below w.heap.size w w' := by
  have HM := Lib.hid hm; clear hm
  have HI := Lib.hid hi; clear hi
  have HF := Lib.hid hF; clear hF
  have HD := Lib.hid hD; clear hD
  go_enter Tryz.func131, Tryz.ntmps131
  go_wp2_with fail
  refine (rivalid_t g1 s1 _ HI.out).mono ?_; rintro e w0 ⟨rfl, b0⟩
  obtain ⟨T1, k0⟩ := after1 b0
  obtain ⟨q1, q2⟩ := T1.out
  have z0 := k0.size
  have z1 := T1.2.2.2.2
  go_wp2_with fail
  refine (rvalid_yes m _ HM.out).mono ?_; rintro e wx ⟨rfl, rfl⟩
  go_wp2
  go_region_with (first
    | (go_at_call 151; refine (HF.out _).mono ?_; rintro e w2 ⟨rfl, b2⟩; have T1 : Two w2 w.heap.size (.bool g1) (.string s1) := Two.below (by first | with_reducible exact T1 | with_reducible exact T1.drewD | with_reducible exact Two.alloc T1 _ | with_reducible exact Two.allocD T1 _) b2 rfl; have k2 : Below w.heap.size w w2 := bnextW (by repeat' (first | assumption | exact Below.refl _ _ | refine Below.drew ?_ | refine Below.setCell ?_ ?_ _ | refine Below.alloc ?_ ?_ _ | (simp; done) | (simp; omega) | omega)) b2 (by first | (simp; done) | (simp; omega) | omega); have z2 := k2.size; have y2 := T1.2.2.2.2; clear q1 q2; obtain ⟨q1, q2⟩ := T1.out; first | (have T9 : Two w2 w0.heap.size (.bool false) (.string ⟨#[]⟩) := Two.below (Two.newD _ _ _ _ _ (by first | rfl | (simp; done))) b2 rfl; have z9 := T9.2.2.2.2) | skip)
    | (go_at_call 150; refine (HD.out _).mono ?_; rintro e w3 ⟨rfl, b3⟩; have k3 : Below w.heap.size w w3 := bnextW (by repeat' (first | assumption | exact Below.refl _ _ | refine Below.drew ?_ | refine Below.setCell ?_ ?_ _ | refine Below.alloc ?_ ?_ _ | (simp; done) | (simp; omega) | omega)) b3 (by first | (simp; done) | (simp; omega) | omega); have z3 := k3.size; clear q1 q2; first | (have T9 : Two w3 w0.heap.size (.bool false) (.string ⟨#[]⟩) := Two.below T9 b3 rfl; obtain ⟨v1, v2, v3, v4, v5⟩ := T9) | (have T9 : Two w3 w2.heap.size (.bool false) (.string ⟨#[]⟩) := Two.below (by first | with_reducible exact Two.new _ _ _ _ _ rfl | with_reducible exact Two.newD _ _ _ _ _ rfl) b3 rfl; obtain ⟨v1, v2, v3, v4, v5⟩ := T9) | skip))
  all_goals go_wp2
  all_goals go_ret2
  all_goals exact ⟨rfl, (by repeat' (first | assumption | exact Below.refl _ _ | refine Below.drew ?_ | refine Below.setCell ?_ ?_ _ | refine Below.alloc ?_ ?_ _ | (simp; done) | (simp; omega) | omega))⟩
set_option maxHeartbeats 400000 in
theorem rimod_no1 (g1 : Bool) (s1 m : ByteArray) (w : World) (hm : ¬ Can m) (hi : IVal g1 s1) :
    Calls Tryz.prog 131 #[.agg #[.bool g1, .string s1], .string m] w fun e w' => e = .returned (.tuple #[.string ⟨#[]⟩, .int .i64 3]) ∧ Below w.heap.size w w' := by
  have HM := Lib.hid hm; clear hm
  have HI := Lib.hid hi; clear hi
  go_enter Tryz.func131, Tryz.ntmps131
  go_wp2_with fail
  refine (rivalid_t g1 s1 _ HI.out).mono ?_; rintro e w0 ⟨rfl, b0⟩
  obtain ⟨T1, k0⟩ := after1 b0
  go_wp2_with fail
  refine (rvalid_no m _ HM.out).mono ?_; rintro e wx ⟨rfl, rfl⟩
  go_wp2
  go_ret2
  exact ⟨rfl, k0⟩
set_option maxHeartbeats 400000 in
theorem rimod_no2 (g1 : Bool) (s1 m : ByteArray) (w : World) (hi : ¬ IVal g1 s1) :
    Calls Tryz.prog 131 #[.agg #[.bool g1, .string s1], .string m] w fun e w' => e = .returned (.tuple #[.string ⟨#[]⟩, .int .i64 3]) ∧ Below w.heap.size w w' := by
  have HI := Lib.hid hi; clear hi
  go_enter Tryz.func131, Tryz.ntmps131
  go_wp2_with fail
  refine (rivalid_f g1 s1 _ HI.out).mono ?_; rintro e w0 ⟨rfl, b0⟩
  obtain ⟨T1, k0⟩ := after1 b0
  go_wp2
  go_ret2
  exact ⟨rfl, k0⟩
end Go.Proofs.YtogmgfdihmacpaaGreatDoor

