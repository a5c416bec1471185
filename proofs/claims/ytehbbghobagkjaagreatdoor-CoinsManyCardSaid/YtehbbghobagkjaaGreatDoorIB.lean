/-
  Several parts in one text (IB).
-/
import Derived.Test.YtehbbghobagkjaaGreatDoorInt6
import Derived.Deep.RegionWith
import Derived.Test.YtehbbghobagkjaaGreatDoorIA
/-
  Contracts of package integer and of its reference: Sub.
-/
namespace Go.Proofs.YtehbbghobagkjaaGreatDoor
open Go.RowKit
set_option linter.unusedVariables false

theorem Z_neg_code {g : Bool} {s : ByteArray} (h : IVal g s) : ∃ (G : Bool) (S : ByteArray), Z (-(IZ g s)) = .agg #[.bool G, .string S] ∧ IVal G S ∧ IZ G S = -(IZ g s) :=
  ⟨_, _, rfl, ival_Z _ (by rw [Int.natAbs_neg]; exact IZ_lim h), IZ_Z _⟩

set_option maxHeartbeats 2000000 in
theorem isub_core (g1 g2 G G' : Bool) (s1 s2 S S' : ByteArray) (v : Int) (w : World) (h2 : IVal g2 s2)
    (hN : ∀ w, Calls Tryz.prog 50 #[.agg #[.bool g2, .string s2]] w fun e w' => e = .returned (.agg #[.bool G, .string S]) ∧ Below w.heap.size w w')
    (hA : ∀ w, Calls Tryz.prog 49 #[.agg #[.bool g1, .string s1], .agg #[.bool G, .string S]] w fun e w' => e = .returned (.tuple #[.agg #[.bool G', .string S'], .int .i64 v]) ∧ Below w.heap.size w w') :
    Calls Tryz.prog 29 #[.agg #[.bool g1, .string s1], .agg #[.bool g2, .string s2]] w fun e w' => e = .returned (.tuple #[.agg #[.bool G', .string S'], .int .i64 v]) ∧ Below w.heap.size w w' := by
  have H2 := Lib.hid h2; clear h2
  skip
  have HN := Lib.hid hN; clear hN
  have HA := Lib.hid hA; clear hA
  go_enter Tryz.func29, Tryz.ntmps29
  go_wp2_with fail
  refine (ivalid_t g2 s2 _ H2.out).mono ?_; rintro e w1 ⟨rfl, b1⟩
  obtain ⟨T1, T2, T3, k1⟩ := after3 b1
  have q1 := T1.1
  have q2 := T1.2.1
  have q3 := T2.1
  have q4 := T2.2.1
  go_wp2
  go_region_with (first
    | (go_at_call 50; refine (HN.out _).mono ?_; rintro e w2 ⟨rfl, b2⟩; have T1 : Two w2 w.heap.size (.bool g1) (.string s1) := Two.below (by exact T1) b2 rfl; have T3 : Two w2 (w.heap.size + 1 + 1) (.bool false) (.string ⟨#[]⟩) := Two.below (by exact T3) b2 rfl; have k2 : Below w.heap.size w w2 := bnextW (by exact k1.drew) b2 k1.size; clear q1 q2 q3 q4; have q1 := T1.1; have q2 := T1.2.1)
    | (go_at_call 49; refine (HA.out _).mono ?_; rintro e w3 ⟨rfl, b3⟩; have T3 : Two w3 (w.heap.size + 1 + 1) (.bool false) (.string ⟨#[]⟩) := Two.below T3 b3 rfl; have k3 : Below w.heap.size w w3 := bnextW k2 b3 k2.size; clear q1 q2; obtain ⟨q1, q2, q3, q4, q5⟩ := T3))
  all_goals go_wp2
  all_goals refine bodyPost_ret (v := .tuple #[.agg #[.bool G', .string S'], .int .i64 v]) (by simp [results, Tryz.results29, go_sem, q1, q2]) rfl ⟨rfl, ?_⟩
  all_goals exact bset k3 (by omega)
theorem isub_yes (g1 g2 : Bool) (s1 s2 : ByteArray) (w : World) (h1 : IVal g1 s1) (h2 : IVal g2 s2) :
    Calls Tryz.prog 29 #[.agg #[.bool g1, .string s1], .agg #[.bool g2, .string s2]] w fun e w' => e = .returned (zokN (IZ g1 s1 - IZ g2 s2)) ∧ Below w.heap.size w w' := by
  obtain ⟨G, S, hc, hv, hz⟩ := Z_neg_code h2
  have ha := fun w => iadd_yes g1 G s1 S w h1 hv
  rw [hz, ← Int.sub_eq_add_neg] at ha
  have hn := fun w => ineg_yes g2 s2 w h2
  rw [hc] at hn
  obtain ⟨G', S', v, hr, _⟩ := zokN_code (IZ g1 s1 - IZ g2 s2)
  rw [hr] at ha ⊢
  exact isub_core g1 g2 G G' s1 s2 S S' v w h2 hn ha

set_option maxHeartbeats 400000 in
theorem isub_no1 (g1 g2 : Bool) (s1 s2 : ByteArray) (w : World) (h : ¬ IVal g2 s2) :
    Calls Tryz.prog 29 #[.agg #[.bool g1, .string s1], .agg #[.bool g2, .string s2]] w fun e w' => e = .returned (.tuple #[Z 0, .int .i64 3]) ∧ Below w.heap.size w w' := by
  have H1 := Lib.hid h; clear h
  rw [Z_zero]
  go_enter Tryz.func29, Tryz.ntmps29
  go_wp2_with fail
  refine (ivalid_f g2 s2 _ H1.out).mono ?_; rintro e w1 ⟨rfl, b1⟩
  obtain ⟨T1, T2, T3, k1⟩ := after3 b1
  obtain ⟨q1, q2, q3, q4, q5⟩ := T3
  go_wp2
  refine bodyPost_ret (v := .tuple #[.agg #[.bool false, .string ⟨#[]⟩], .int .i64 3]) (by simp [results, Tryz.results29, go_sem, q1, q2]) rfl ⟨rfl, ?_⟩
  exact bset k1 (by omega)
theorem isub_no (g1 g2 : Bool) (s1 s2 : ByteArray) (w : World) (h : ¬ (IVal g1 s1 ∧ IVal g2 s2)) :
    Calls Tryz.prog 29 #[.agg #[.bool g1, .string s1], .agg #[.bool g2, .string s2]] w fun e w' => e = .returned (.tuple #[Z 0, .int .i64 3]) ∧ Below w.heap.size w w' := by
  by_cases h2 : IVal g2 s2
  · obtain ⟨G, S, hc, hv, hz⟩ := Z_neg_code h2
    have ha := fun w => iadd_no g1 G s1 S w (fun q => h ⟨q.1, h2⟩)
    have hn := fun w => ineg_yes g2 s2 w h2
    rw [hc] at hn
    rw [Z_zero] at ha ⊢
    exact isub_core g1 g2 G _ s1 s2 S _ 3 w h2 hn ha
  · exact isub_no1 g1 g2 s1 s2 w h2

set_option maxHeartbeats 2000000 in
theorem risub_core (g1 g2 G G' : Bool) (s1 s2 S S' : ByteArray) (v : Int) (w : World) (h2 : IVal g2 s2) (h1 : IVal g1 s1)
    (hN : ∀ w, Calls Tryz.prog 58 #[.agg #[.bool g2, .string s2]] w fun e w' => e = .returned (.agg #[.bool G, .string S]) ∧ Below w.heap.size w w')
    (hA : ∀ w, Calls Tryz.prog 57 #[.agg #[.bool g1, .string s1], .agg #[.bool G, .string S]] w fun e w' => e = .returned (.tuple #[.agg #[.bool G', .string S'], .int .i64 v]) ∧ Below w.heap.size w w') :
    Calls Tryz.prog 34 #[.agg #[.bool g1, .string s1], .agg #[.bool g2, .string s2]] w fun e w' => e = .returned (.tuple #[.agg #[.bool G', .string S'], .int .i64 v]) ∧ Below w.heap.size w w' := by
  have H2 := Lib.hid h2; clear h2
  have H1 := Lib.hid h1; clear h1
  have HN := Lib.hid hN; clear hN
  have HA := Lib.hid hA; clear hA
  go_enter Tryz.func34, Tryz.ntmps34
  go_wp2_with fail
  refine (rivalid_t g1 s1 _ H1.out).mono ?_; rintro e w0 ⟨rfl, b0⟩
  obtain ⟨T1, T2, T3, k0⟩ := after3 b0
  have q1 := T2.1
  have q2 := T2.2.1
  go_wp2_with fail
  refine (rivalid_t g2 s2 _ H2.out).mono ?_; rintro e w1 ⟨rfl, b1⟩
  have k1 := bnextW k0 b1 k0.size
  have T1 := T1.below b1 rfl
  have T2 := T2.below b1 rfl
  have T3 := T3.below b1 rfl
  clear q1 q2
  have q1 := T1.1
  have q2 := T1.2.1
  have q3 := T2.1
  have q4 := T2.2.1
  go_wp2
  go_region_with (first
    | (go_at_call 58; refine (HN.out _).mono ?_; rintro e w2 ⟨rfl, b2⟩; have T1 : Two w2 w.heap.size (.bool g1) (.string s1) := Two.below (by exact T1) b2 rfl; have T3 : Two w2 (w.heap.size + 1 + 1) (.bool false) (.string ⟨#[]⟩) := Two.below (by exact T3) b2 rfl; have k2 : Below w.heap.size w w2 := bnextW (by exact k1.drew) b2 k1.size; clear q1 q2 q3 q4; have q1 := T1.1; have q2 := T1.2.1)
    | (go_at_call 57; refine (HA.out _).mono ?_; rintro e w3 ⟨rfl, b3⟩; have T3 : Two w3 (w.heap.size + 1 + 1) (.bool false) (.string ⟨#[]⟩) := Two.below T3 b3 rfl; have k3 : Below w.heap.size w w3 := bnextW k2 b3 k2.size; clear q1 q2; obtain ⟨q1, q2, q3, q4, q5⟩ := T3))
  all_goals go_wp2
  all_goals refine bodyPost_ret (v := .tuple #[.agg #[.bool G', .string S'], .int .i64 v]) (by simp [results, Tryz.results34, go_sem, q1, q2]) rfl ⟨rfl, ?_⟩
  all_goals exact bset k3 (by omega)
theorem risub_yes (g1 g2 : Bool) (s1 s2 : ByteArray) (w : World) (h1 : IVal g1 s1) (h2 : IVal g2 s2) :
    Calls Tryz.prog 34 #[.agg #[.bool g1, .string s1], .agg #[.bool g2, .string s2]] w fun e w' => e = .returned (zokN (IZ g1 s1 - IZ g2 s2)) ∧ Below w.heap.size w w' := by
  obtain ⟨G, S, hc, hv, hz⟩ := Z_neg_code h2
  have ha := fun w => riadd_yes g1 G s1 S w h1 hv
  rw [hz, ← Int.sub_eq_add_neg] at ha
  have hn := fun w => rineg_yes g2 s2 w h2
  rw [hc] at hn
  obtain ⟨G', S', v, hr, _⟩ := zokN_code (IZ g1 s1 - IZ g2 s2)
  rw [hr] at ha ⊢
  exact risub_core g1 g2 G G' s1 s2 S S' v w h2 h1 hn ha

set_option maxHeartbeats 400000 in
theorem risub_no1 (g1 g2 : Bool) (s1 s2 : ByteArray) (w : World) (h : ¬ IVal g1 s1) :
    Calls Tryz.prog 34 #[.agg #[.bool g1, .string s1], .agg #[.bool g2, .string s2]] w fun e w' => e = .returned (.tuple #[Z 0, .int .i64 3]) ∧ Below w.heap.size w w' := by
  have H1 := Lib.hid h; clear h
  rw [Z_zero]
  go_enter Tryz.func34, Tryz.ntmps34
  go_wp2_with fail
  refine (rivalid_f g1 s1 _ H1.out).mono ?_; rintro e w1 ⟨rfl, b1⟩
  obtain ⟨T1, T2, T3, k1⟩ := after3 b1
  obtain ⟨q1, q2, q3, q4, q5⟩ := T3
  go_wp2
  refine bodyPost_ret (v := .tuple #[.agg #[.bool false, .string ⟨#[]⟩], .int .i64 3]) (by simp [results, Tryz.results34, go_sem, q1, q2]) rfl ⟨rfl, ?_⟩
  exact bset k1 (by omega)
set_option maxHeartbeats 400000 in
theorem risub_no2 (g1 g2 : Bool) (s1 s2 : ByteArray) (w : World) (h : IVal g1 s1) (h2 : ¬ IVal g2 s2) :
    Calls Tryz.prog 34 #[.agg #[.bool g1, .string s1], .agg #[.bool g2, .string s2]] w fun e w' => e = .returned (.tuple #[Z 0, .int .i64 3]) ∧ Below w.heap.size w w' := by
  have H1 := Lib.hid h; clear h
  have H2 := Lib.hid h2; clear h2
  rw [Z_zero]
  go_enter Tryz.func34, Tryz.ntmps34
  go_wp2_with fail
  refine (rivalid_t g1 s1 _ H1.out).mono ?_; rintro e w1 ⟨rfl, b1⟩
  obtain ⟨T1, T2, T3, k1⟩ := after3 b1
  have q1 := T2.1
  have q2 := T2.2.1
  go_wp2_with fail
  refine (rivalid_f g2 s2 _ H2.out).mono ?_; rintro e w2 ⟨rfl, b2⟩
  have k2 := bnextW k1 b2 k1.size
  have T3 := T3.below b2 rfl
  clear q1 q2
  obtain ⟨q1, q2, q3, q4, q5⟩ := T3
  go_wp2
  refine bodyPost_ret (v := .tuple #[.agg #[.bool false, .string ⟨#[]⟩], .int .i64 3]) (by simp [results, Tryz.results34, go_sem, q1, q2]) rfl ⟨rfl, ?_⟩
  exact bset k2 (by omega)
theorem risub_no (g1 g2 : Bool) (s1 s2 : ByteArray) (w : World) (h : ¬ (IVal g1 s1 ∧ IVal g2 s2)) :
    Calls Tryz.prog 34 #[.agg #[.bool g1, .string s1], .agg #[.bool g2, .string s2]] w fun e w' => e = .returned (.tuple #[Z 0, .int .i64 3]) ∧ Below w.heap.size w w' := by
  by_cases h1 : IVal g1 s1
  · exact risub_no2 g1 g2 s1 s2 w h1 (fun q => h ⟨h1, q⟩)
  · exact risub_no1 g1 g2 s1 s2 w h1
end Go.Proofs.YtehbbghobagkjaaGreatDoor


/-
  Contracts of package integer and of its reference: DivMod.
-/
namespace Go.Proofs.YtehbbghobagkjaaGreatDoor
open Go.RowKit
set_option linter.unusedVariables false

/-- A quotient and a remainder, or ErrZero. -/
def zdivN (a b : Int) : Value := if b = 0 then .tuple #[Z 0, .string (E 0), .int .i64 11] else .tuple #[Z (a / b), .string (E (a % b).toNat), .int .i64 0]
theorem zdivN_zero (a : Int) : zdivN a 0 = .tuple #[Z 0, .string (E 0), .int .i64 11] := by unfold zdivN; rw [if_pos rfl]
theorem zdivN_code (a b : Int) : ∃ (g : Bool) (s t : ByteArray) (v : Int), zdivN a b = .tuple #[.agg #[.bool g, .string s], .string t, .int .i64 v] := by
  unfold zdivN; split
  · exact ⟨_, _, _, _, rfl⟩
  · exact ⟨_, _, _, _, rfl⟩
theorem euclid {a b q r : Int} (hb : b ≠ 0) (h : a = q * b + r) (h0 : 0 ≤ r) (h1 : r < b.natAbs) : a / b = q ∧ a % b = r := by
  rcases Int.lt_or_lt_of_ne hb with hn | hp
  · have := (Int.ediv_emod_unique (a := a) (b := -b) (r := r) (q := -q) (by omega)).2 ⟨by rw [Int.neg_mul_neg, h, Int.mul_comm]; omega, h0, by omega⟩
    rw [Int.ediv_neg, Int.emod_neg] at this
    omega
  · exact (Int.ediv_emod_unique hp).2 ⟨by rw [h, Int.mul_comm]; omega, h0, by omega⟩
theorem sg_ne (g : Bool) {n : Nat} (h : n ≠ 0) : sg g n ≠ 0 := by cases g <;> simp [sg] <;> omega
theorem sg_div (g1 g2 : Bool) (m n : Nat) (hn : n ≠ 0) (hc : g1 = false ∨ m % n = 0) : sg g1 m / sg g2 n = sg (g1 != g2) (m / n) ∧ sg g1 m % sg g2 n = (m % n : Nat) := by
  have e : (m : Int) = n * (m / n : Nat) + (m % n : Nat) := by exact_mod_cast (Nat.div_add_mod m n).symm
  have l : m % n < n := Nat.mod_lt _ (by omega)
  refine euclid (sg_ne g2 hn) ?_ (by omega) (by rw [sg_natAbs]; omega)
  have hc' : g1 = false ∨ ((m % n : Nat) : Int) = 0 := by rcases hc with q | q; exact .inl q; exact .inr (by rw [q]; rfl)
  generalize ((m % n : Nat) : Int) = r at *
  generalize (m / n : Nat) = q at *
  have e' : (m : Int) = q * n + r := by rw [Int.mul_comm]; exact e
  clear e hc
  cases g1 <;> cases g2
  · exact e'
  · show (m : Int) = -(q : Int) * -(n : Int) + r
    rw [Int.neg_mul_neg]; exact e'
  · rcases hc' with h | h
    · cases h
    · show -(m : Int) = -(q : Int) * (n : Int) + r
      rw [Int.neg_mul]; omega
  · rcases hc' with h | h
    · cases h
    · show -(m : Int) = (q : Int) * -(n : Int) + r
      rw [Int.mul_neg]; omega
theorem sg_div' (g2 : Bool) (m n : Nat) (hn : n ≠ 0) (hc : m % n ≠ 0) : sg true m / sg g2 n = sg (true != g2) (m / n + 1) ∧ sg true m % sg g2 n = (n - m % n : Nat) := by
  have e : (m : Int) = n * (m / n : Nat) + (m % n : Nat) := by exact_mod_cast (Nat.div_add_mod m n).symm
  have l : m % n < n := Nat.mod_lt _ (by omega)
  have e2 : ((n - m % n : Nat) : Int) = n - (m % n : Nat) := by omega
  refine euclid (sg_ne g2 hn) ?_ (by omega) (by rw [sg_natAbs]; omega)
  rw [e2]
  generalize (m % n : Nat) = r at *
  generalize (m / n : Nat) = q at *
  have e3 : (n : Int) * (q + 1 : Nat) = n * q + n := by rw [Int.natCast_add, Int.mul_add]; simp
  have e4 : ((q + 1 : Nat) : Int) * n = n * q + n := by rw [Int.mul_comm]; exact e3
  cases g2
  · show -(m : Int) = -((q + 1 : Nat) : Int) * (n : Int) + _
    rw [Int.neg_mul, e4]; omega
  · show -(m : Int) = ((q + 1 : Nat) : Int) * -(n : Int) + _
    rw [Int.mul_neg, e4]; omega
/-- The two numbers that DivMod's results are made of. -/
theorem quot_lim {m n : Nat} (h : m < Lim) (hn : n ≠ 0) (hc : m % n ≠ 0) : m / n + 1 < Lim := by
  have h2 : 2 ≤ n := by
    rcases Nat.lt_or_ge n 2 with q | q
    · have : n = 1 := by omega
      subst this; exact absurd (Nat.mod_one m) hc
    · exact q
  have h1 : m / n ≤ m / 2 := Nat.div_le_div_left h2 (by omega)
  have h3 : m ≠ 0 := by intro q; subst q; exact hc (Nat.zero_mod n)
  omega

end Go.Proofs.YtehbbghobagkjaaGreatDoor


/-
  Contracts of package integer and of its reference: Of, Small; the reference's From.
-/
namespace Go.Proofs.YtehbbghobagkjaaGreatDoor
open Go.RowKit
set_option linter.unusedVariables false

theorem below1 {w w' : World} {c0 c1 : Value} {t : TypeId} (b : Below (w.alloc (.cells #[c0, c1] t)).heap.size (w.alloc (.cells #[c0, c1] t)) w') : Below w.heap.size w w' :=
  ((Below.refl w.heap.size w).alloc (Nat.le_refl _) _).trans (b.mono (by simp))
set_option maxHeartbeats 400000 in
set_option maxRecDepth 20000 in
theorem iof_neg (m : Nat) (w : World) (h0 : 0 < m) (h : m < 9223372036854775808) :
    Calls Tryz.prog 20 #[.int .i64 (-(m : Int))] w fun e w' => e = .returned (Z (-(m : Int))) ∧ Below w.heap.size w w' := by
  have hn : m < 18446744073709551616 := by omega
  have hz : Z (-(m : Int)) = .agg #[.bool true, .string (E m)] := by
    unfold Z ZG ZS; rw [Int.natAbs_neg, Int.natAbs_natCast]; simp; omega
  rw [hz]; clear hz
  have hl : -(m : Int) < 0 := by omega
  have hw : IntKind.i64.wrap (m : Int) = m := IntWalk.i64_in _ (by omega)
  go_enter Tryz.func20, Tryz.ntmps20
  go_wp2_with fail
  refine (of_any m _ hn).mono ?_; rintro e w' ⟨rfl, b1⟩
  obtain ⟨hc0, hc1, hf0, hf1⟩ := var_after b1
  go_wp2
  refine bodyPost_ret (v := .agg #[.bool true, .string (E m)]) (by simp [results, Tryz.results20, go_sem, hc0, hc1]) rfl ⟨rfl, ?_⟩
  exact bset (below1 b1) (Nat.le_refl _)
set_option maxHeartbeats 400000 in
set_option maxRecDepth 20000 in
theorem iof_min (m : Nat) (w : World) (hm : m = 9223372036854775808) :
    Calls Tryz.prog 20 #[.int .i64 (-(m : Int))] w fun e w' => e = .returned (Z (-(m : Int))) ∧ Below w.heap.size w w' := by
  have hn : m < 18446744073709551616 := by omega
  have hz : Z (-(m : Int)) = .agg #[.bool true, .string (E m)] := by
    unfold Z ZG ZS; rw [Int.natAbs_neg, Int.natAbs_natCast]; simp; omega
  rw [hz]; clear hz
  have hl : -(m : Int) < 0 := by omega
  have HW := Lib.hid (show IntKind.u64.wrap (wrap64 (m : Int)) = m by subst hm; decide +kernel)
  clear hm
  go_enter Tryz.func20, Tryz.ntmps20
  go_wp2_with fail
  rw [HW.out]
  refine (of_any m _ hn).mono ?_; rintro e w' ⟨rfl, b1⟩
  obtain ⟨hc0, hc1, hf0, hf1⟩ := var_after b1
  go_wp2
  refine bodyPost_ret (v := .agg #[.bool true, .string (E m)]) (by simp [results, Tryz.results20, go_sem, hc0, hc1]) rfl ⟨rfl, ?_⟩
  exact bset (below1 b1) (Nat.le_refl _)
theorem iof_any (n : Int) (w : World) (h1 : -9223372036854775808 ≤ n) (h2 : n ≤ 9223372036854775807) :
    Calls Tryz.prog 20 #[.int .i64 n] w fun e w' => e = .returned (Z n) ∧ Below w.heap.size w w' := by
  by_cases h0 : 0 ≤ n
  · obtain ⟨m, rfl⟩ := Int.eq_ofNat_of_zero_le h0
    exact iof_pos m w (by omega)
  · by_cases hm : n = -9223372036854775808
    · subst hm; exact iof_min 9223372036854775808 w rfl
    · obtain ⟨m, hm'⟩ := Int.eq_ofNat_of_zero_le (a := -n) (by omega)
      obtain rfl : n = -(m : Int) := by omega
      exact iof_neg m w (by omega) (by omega)

set_option maxHeartbeats 400000 in
set_option maxRecDepth 20000 in
theorem rfrom_yes (s : ByteArray) (w : World) (h : Can s) :
    Calls Tryz.prog 35 #[.string s] w fun e w' => e = .returned (Z (V s : Nat)) ∧ Below w.heap.size w w' := by
  have HC := Lib.hid h
  have hm := fun w => make_s false s w h
  rw [sg_f] at hm
  clear h
  obtain ⟨G, S, hc⟩ := Z_code (V s : Nat)
  rw [hc] at hm ⊢
  have HM := Lib.hid hm
  clear hm hc
  go_enter Tryz.func35, Tryz.ntmps35
  go_wp2_with fail
  refine (rvalid_yes s _ HC.out).mono ?_; rintro e w' ⟨rfl, rfl⟩
  go_wp2_with fail
  refine (HM.out _).mono ?_; rintro e w1 ⟨rfl, b1⟩
  obtain ⟨T1, k1⟩ := after1 b1
  obtain ⟨q1, q2, q3, q4, q5⟩ := T1
  go_wp2
  refine bodyPost_ret (v := .agg #[.bool G, .string S]) (by simp [results, Tryz.results35, go_sem, q1, q2]) rfl ⟨rfl, ?_⟩
  exact bset k1 (Nat.le_refl _)
set_option maxHeartbeats 400000 in
set_option maxRecDepth 20000 in
theorem rfrom_no (s : ByteArray) (w : World) (h : ¬ Can s) :
    Calls Tryz.prog 35 #[.string s] w fun e w' => e = .returned (Z 0) ∧ Below w.heap.size w w' := by
  have HC := Lib.hid h; clear h
  rw [Z_zero]
  go_enter Tryz.func35, Tryz.ntmps35
  go_wp2_with fail
  refine (rvalid_no s _ HC.out).mono ?_; rintro e w' ⟨rfl, rfl⟩
  go_wp2
  refine bodyPost_ret (v := .agg #[.bool false, .string ⟨#[]⟩]) (by simp [results, Tryz.results35, go_sem]) rfl ⟨rfl, ?_⟩
  exact (Below.refl _ _).alloc (Nat.le_refl _) _

theorem ret_ib {a b : Int} {c : Bool} (h : a = b) : Ending.returned (.tuple #[.int .i64 a, .bool c]) = .returned (.tuple #[.int .i64 b, .bool c]) := by rw [h]
theorem small_of {g : Bool} {s : ByteArray} (h : IVal g s) (h1 : -9223372036854775808 ≤ IZ g s) (h2 : IZ g s ≤ 9223372036854775807) : SmallC s := by
  refine ⟨h.1, ?_⟩
  have hv : V s ≤ 9223372036854775808 := by
    have := sg_natAbs g (V s)
    unfold IZ at h1 h2
    omega
  have := E_V h.1
  rw [← this]
  exact E_size_le.2 (by have : (256 : Nat) ^ 8 = 18446744073709551616 := by decide
                        omega)
theorem smallC_can {s : ByteArray} (h : SmallC s) : Can s := h.1

end Go.Proofs.YtehbbghobagkjaaGreatDoor


/-
  Contracts of package integer and of its reference: Mod, Divide.
-/
namespace Go.Proofs.YtehbbghobagkjaaGreatDoor
open Go.RowKit
set_option linter.unusedVariables false

theorem Two.out {w : World} {g : Nat} {c0 c1 : Value} (h : Two w g c0 c1) : w.cell? ⟨g, 0, none⟩ = some c0 ∧ w.cell? ⟨g, 1, none⟩ = some c1 := ⟨h.1, h.2.1⟩

end Go.Proofs.YtehbbghobagkjaaGreatDoor


/-
  Contracts of package integer and of its reference: Mod.
-/
namespace Go.Proofs.YtehbbghobagkjaaGreatDoor
open Go.RowKit
set_option linter.unusedVariables false

theorem Two.newD (w : World) (c0 c1 : Value) (t : TypeId) (g : Nat) (hg : g = w.heap.size) : Two (w.alloc (.cells #[c0, c1] t)).drew g c0 c1 := Two.new w c0 c1 t g hg
theorem Two.allocD {w : World} {g : Nat} {c0 c1 : Value} (h : Two w g c0 c1) (o : Obj) : Two (w.alloc o).drew g c0 c1 := h.alloc o
theorem Two.drewD {w : World} {g : Nat} {c0 c1 : Value} (h : Two w g c0 c1) : Two w.drew g c0 c1 := h

end Go.Proofs.YtehbbghobagkjaaGreatDoor

