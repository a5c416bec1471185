/-
  Layer 4's statements: PrimeTests, PrimeSafes, PrimeStrong, PrimeNexts, PrimeFactors.
-/
import Derived.Test.YtfokiokcofabcaaDoorLaw4a
namespace Go.Proofs.YtfokiokcofabcaaDoor
open Go.RowKit Go.Deep
set_option linter.unusedVariables false

theorem can_small_E {s : ByteArray} (h : Can s) (h8 : s.size ≤ 8) : ∃ n, n < 18446744073709551616 ∧ s = E n :=
  ⟨V s, by have := V_lt s; exact Nat.lt_of_lt_of_le this (Nat.le_trans (Nat.pow_le_pow_right (by omega) h8) (by decide)), (E_V h).symm⟩
theorem bool_det {P : Prop} : ∃ b : Bool, ∀ c : Bool, (c = true ↔ P) → c = b := by
  by_cases h : P
  · exact ⟨true, fun c hc => hc.mpr h⟩
  · exact ⟨false, fun c hc => by cases c with | true => exact absurd (hc.mp rfl) h | false => rfl⟩
theorem is_agree (s : ByteArray) : ∃ (b : Bool) (v : Int),
    (∀ w, Calls Tryd.prog 13 #[.string s] w fun e w' => e = .returned (.tuple #[.bool b, .int .i64 v]) ∧ Below w.heap.size w w') ∧
    (∀ w, Calls Tryd.prog 14 #[.string s] w fun e w' => e = .returned (.tuple #[.bool b, .int .i64 v]) ∧ Below w.heap.size w w') := by
  by_cases hc : Can s
  · by_cases h8 : s.size ≤ 8
    · obtain ⟨n, hn, rfl⟩ := can_small_E hc h8
      obtain ⟨b, hb⟩ := bool_det (P := QR.StrongOk n QR.first12)
      refine ⟨b, 0, fun w => (is_yes n w hn).mono ?_, fun w => (ris_yes n w hn).mono ?_⟩
      · rintro e w' ⟨⟨c, rfl, hcc⟩, hw⟩; rw [hb c hcc]; exact ⟨rfl, hw⟩
      · rintro e w' ⟨⟨c, rfl, hcc⟩, hw⟩; rw [hb c hcc]; exact ⟨rfl, hw⟩
    · refine ⟨false, 5, fun w => (is_long s w hc h8).mono ?_, fun w => (ris_long s w hc h8).mono ?_⟩
      · rintro e w' ⟨rfl, rfl⟩; exact ⟨rfl, Below.refl _ _⟩
      · rintro e w' ⟨rfl, rfl⟩; exact ⟨rfl, Below.refl _ _⟩
  · refine ⟨false, 3, fun w => (is_form s w hc).mono ?_, fun w => (ris_form s w hc).mono ?_⟩
    · rintro e w' ⟨rfl, rfl⟩; exact ⟨rfl, Below.refl _ _⟩
    · rintro e w' ⟨rfl, rfl⟩; exact ⟨rfl, Below.refl _ _⟩
theorem safe_agree (s : ByteArray) : ∃ (b : Bool) (v : Int),
    (∀ w, Calls Tryd.prog 22 #[.string s] w fun e w' => e = .returned (.tuple #[.bool b, .int .i64 v]) ∧ Below w.heap.size w w') ∧
    (∀ w, Calls Tryd.prog 23 #[.string s] w fun e w' => e = .returned (.tuple #[.bool b, .int .i64 v]) ∧ Below w.heap.size w w') := by
  by_cases hc : Can s
  · by_cases h8 : s.size ≤ 8
    · obtain ⟨n, hn, rfl⟩ := can_small_E hc h8
      obtain ⟨b, hb⟩ := bool_det (P := QR.StrongOk n QR.first12 ∧ QR.StrongOk (n / 2) QR.first12)
      refine ⟨b, 0, fun w => (safe_yes n w hn).mono ?_, fun w => (rsafe_yes n w hn).mono ?_⟩
      · rintro e w' ⟨⟨c, rfl, hcc⟩, hw⟩; rw [hb c hcc]; exact ⟨rfl, hw⟩
      · rintro e w' ⟨⟨c, rfl, hcc⟩, hw⟩; rw [hb c hcc]; exact ⟨rfl, hw⟩
    · refine ⟨false, 5, fun w => (safe_long s w hc h8).mono ?_, fun w => (rsafe_long s w hc h8).mono ?_⟩
      · rintro e w' ⟨rfl, rfl⟩; exact ⟨rfl, Below.refl _ _⟩
      · rintro e w' ⟨rfl, rfl⟩; exact ⟨rfl, Below.refl _ _⟩
  · refine ⟨false, 3, fun w => (safe_form s w hc).mono ?_, fun w => (rsafe_form s w hc).mono ?_⟩
    · rintro e w' ⟨rfl, rfl⟩; exact ⟨rfl, Below.refl _ _⟩
    · rintro e w' ⟨rfl, rfl⟩; exact ⟨rfl, Below.refl _ _⟩
theorem strong_agree (s t : ByteArray) (h8 : s.size ≤ 8) : ∃ (b : Bool) (v : Int),
    (∀ w, Calls Tryd.prog 16 #[.string s, .string t] w fun e w' => e = .returned (.tuple #[.bool b, .int .i64 v]) ∧ Below w.heap.size w w') ∧
    (∀ w, Calls Tryd.prog 17 #[.string s, .string t] w fun e w' => e = .returned (.tuple #[.bool b, .int .i64 v]) ∧ Below w.heap.size w w') := by
  by_cases hc : Can s ∧ Can t
  · obtain ⟨n, hn, rfl⟩ := can_small_E hc.1 h8
    obtain ⟨b, hb⟩ := bool_det (P := n = 2 ∨ (n % 2 = 1 ∧ n ≠ 1 ∧ ∀ j, j < 1 → QR.PassN n (V ((fun _ => t) j : ByteArray))))
    refine ⟨b, 0, fun w => (pstrong_yes n t w (small_lim hn) hc.2).mono ?_, fun w => (rstrong_yes n t w hn hc.2).mono ?_⟩
    · rintro e w' ⟨⟨c, rfl, hcc⟩, hw⟩; rw [hb c hcc]; exact ⟨rfl, hw⟩
    · rintro e w' ⟨⟨c, rfl, hcc⟩, hw⟩; rw [hb c hcc]; exact ⟨rfl, hw⟩
  · refine ⟨false, 3, fun w => (pstrong_no s t w hc).mono ?_, fun w => (rstrong_no s t w hc).mono ?_⟩
    · rintro e w' ⟨rfl, rfl⟩; exact ⟨rfl, Below.refl _ _⟩
    · rintro e w' ⟨rfl, rfl⟩; exact ⟨rfl, Below.refl _ _⟩
/-! ### Next: one answer alone -/
theorem nextP_form {n : Nat} {v : Value} (h : NextP n v) : ∃ (s : ByteArray) (x : Int), v = .tuple #[.string s, .int .i64 x] := by
  rcases h with ⟨m, _, _, _, _, rfl⟩ | ⟨_, rfl⟩
  · exact ⟨_, _, rfl⟩
  · exact ⟨_, _, rfl⟩
theorem nextP_one {n : Nat} {v u : Value} (h : NextP n v) (k : NextP n u) : v = u := by
  rcases h with ⟨m, h1, h2, h3, h4, rfl⟩ | ⟨h4, rfl⟩
  · rcases k with ⟨l, k1, k2, k3, k4, rfl⟩ | ⟨k4, rfl⟩
    · have : m = l := by
        rcases Nat.lt_trichotomy m l with q | q | q
        · exact absurd h3 (k4 m h1 q)
        · exact q
        · exact absurd k3 (h4 l k1 q)
      rw [this]
    · exact absurd h3 (k4 m h1 h2)
  · rcases k with ⟨l, k1, k2, k3, k4, rfl⟩ | ⟨k4, rfl⟩
    · exact absurd k3 (h4 l k1 k2)
    · rfl
def NextD (s : ByteArray) (v : Value) : Prop :=
  (∀ w, Calls Tryd.prog 19 #[.string s] w fun e w' => e = .returned v ∧ Below w.heap.size w w') ∧
  (∀ w, Calls Tryd.prog 20 #[.string s] w fun e w' => e = .returned v ∧ Below w.heap.size w w')
theorem next_exists (n : Nat) : ∃ v, NextP n v := by
  by_cases h : ∃ m, n < m ∧ m < 18446744073709551616 ∧ QR.StrongOk m QR.first12
  · obtain ⟨m, hm⟩ := h
    revert hm
    induction m using Nat.strongRecOn with
    | _ m ih =>
      intro ⟨h1, h2, h3⟩
      by_cases hk : ∃ k, k < m ∧ n < k ∧ QR.StrongOk k QR.first12
      · obtain ⟨k, k1, k2, k3⟩ := hk
        exact ih k k1 ⟨k2, by omega, k3⟩
      · exact ⟨_, .inl ⟨m, h1, h2, h3, fun k k1 k2 k3 => hk ⟨k, k2, k1, k3⟩, rfl⟩⟩
  · exact ⟨_, .inr ⟨fun k k1 k2 k3 => h ⟨k, k1, k2, k3⟩, rfl⟩⟩
theorem next_agree (s : ByteArray) : ∃ (t : ByteArray) (v : Int),
    (∀ w, Calls Tryd.prog 19 #[.string s] w fun e w' => e = .returned (.tuple #[.string t, .int .i64 v]) ∧ Below w.heap.size w w') ∧
    (∀ w, Calls Tryd.prog 20 #[.string s] w fun e w' => e = .returned (.tuple #[.string t, .int .i64 v]) ∧ Below w.heap.size w w') := by
  by_cases hc : Can s
  · by_cases h8 : s.size ≤ 8
    · obtain ⟨n, hn, rfl⟩ := can_small_E hc h8
      obtain ⟨u, hu⟩ := next_exists n
      obtain ⟨t, v, rfl⟩ := nextP_form hu
      refine ⟨t, v, fun w => (next_yes n w hn).mono ?_, fun w => (rnext_yes n w hn).mono ?_⟩
      · rintro e w' ⟨⟨c, rfl, hcc⟩, hw⟩; rw [nextP_one hcc hu]; exact ⟨rfl, hw⟩
      · rintro e w' ⟨⟨c, rfl, hcc⟩, hw⟩; rw [nextP_one hcc hu]; exact ⟨rfl, hw⟩
    · refine ⟨⟨#[]⟩, 5, fun w => (next_long s w hc h8).mono ?_, fun w => (rnext_long s w hc h8).mono ?_⟩
      · rintro e w' ⟨rfl, rfl⟩; exact ⟨rfl, Below.refl _ _⟩
      · rintro e w' ⟨rfl, rfl⟩; exact ⟨rfl, Below.refl _ _⟩
  · refine ⟨⟨#[]⟩, 3, fun w => (next_form s w hc).mono ?_, fun w => (rnext_form s w hc).mono ?_⟩
    · rintro e w' ⟨rfl, rfl⟩; exact ⟨rfl, Below.refl _ _⟩
    · rintro e w' ⟨rfl, rfl⟩; exact ⟨rfl, Below.refl _ _⟩
/-! ### Factors -/
def FacV (k : Nat) (f : Nat → ByteArray) (v : Int) (w : World) (e : Ending) (w' : World) : Prop :=
  ∃ p cap, e = .returned (.tuple #[.slice p k cap, .int .i64 v]) ∧ StrsV w' (.slice p k cap) k f ∧ Below w.heap.size w w'
theorem facV_nil (v : Int) (w : World) : FacV 0 (fun _ => ⟨#[]⟩) v w (.returned (.tuple #[.slice none 0 0, .int .i64 v])) w :=
  ⟨none, 0, rfl, ⟨none, 0, rfl, fun j hj => absurd hj (by omega)⟩, Below.refl _ _⟩
theorem facV_of {n : Nat} {w w' : World} {e : Ending} (h : FacP n w e w') : FacV (QR.facs n).length (fun j => E ((QR.facs n).getD j 0)) 0 w e w' := by
  obtain ⟨v, rfl, ⟨p, cap, rfl, hc⟩, hw⟩ := h
  exact ⟨p, cap, rfl, ⟨p, cap, rfl, hc⟩, hw⟩
theorem fac_agree (s : ByteArray) : ∃ (k : Nat) (f : Nat → ByteArray) (v : Int), k ≤ 100000 ∧
    (∀ w, Calls Tryd.prog 24 #[.string s] w fun e w' => FacV k f v w e w') ∧
    (∀ w, Calls Tryd.prog 25 #[.string s] w fun e w' => FacV k f v w e w') := by
  by_cases hc : Can s
  · by_cases h0 : s.size = 0
    · refine ⟨0, fun _ => ⟨#[]⟩, 11, by omega, fun w => (pfac_zero s w hc h0).mono ?_, fun w => (rfac_zero s w hc h0).mono ?_⟩
      · rintro e w' ⟨rfl, rfl⟩; exact facV_nil _ _
      · rintro e w' ⟨rfl, rfl⟩; exact facV_nil _ _
    · by_cases h8 : s.size ≤ 8
      · obtain ⟨n, hn, rfl⟩ := can_small_E hc h8
        have hp : 0 < n := by
          rcases Nat.eq_zero_or_pos n with q | q
          · subst q; exact absurd rfl h0
          · exact q
        by_cases hb : n < 1099511627776
        · have hlen := QR.facs_len (k := 40) hp (by omega)
          exact ⟨(QR.facs n).length, fun j => E ((QR.facs n).getD j 0), 0, by omega, fun w => (pfac_yes n w hp hb).mono fun _ _ h => facV_of h, fun w => (rfac_yes n w hp hb).mono fun _ _ h => facV_of h⟩
        · refine ⟨0, fun _ => ⟨#[]⟩, 5, by omega, fun w => (pfac_big n w hb hn).mono ?_, fun w => (rfac_big n w hb hn).mono ?_⟩
          · rintro e w' ⟨rfl, rfl⟩; exact facV_nil _ _
          · rintro e w' ⟨rfl, rfl⟩; exact facV_nil _ _
      · refine ⟨0, fun _ => ⟨#[]⟩, 5, by omega, fun w => (pfac_long s w hc h8).mono ?_, fun w => (rfac_long s w hc h8).mono ?_⟩
        · rintro e w' ⟨rfl, rfl⟩; exact facV_nil _ _
        · rintro e w' ⟨rfl, rfl⟩; exact facV_nil _ _
  · refine ⟨0, fun _ => ⟨#[]⟩, 3, by omega, fun w => (pfac_form s w hc).mono ?_, fun w => (rfac_form s w hc).mono ?_⟩
    · rintro e w' ⟨rfl, rfl⟩; exact facV_nil _ _
    · rintro e w' ⟨rfl, rfl⟩; exact facV_nil _ _

set_option maxHeartbeats 1000000 in
set_option maxRecDepth 20000 in
theorem primetests_skip (a : ByteArray) (w : World) (m1 : a.size ≤ 9223372036854775807) (l1 : (200 : Int) < a.size) :
    Calls Tryd.prog 3 #[.string a] w fun e w' => e = .returned (.bool true) ∧ Below w.heap.size w w' := by
  go_enter Tryd.func3, Tryd.ntmps3
  go_wp2_with fail
  refine (awake4 _).mono ?_; rintro e w1 ⟨rfl, b1⟩
  go_wp2
  go_ret
  exact ⟨rfl, b1⟩

set_option maxHeartbeats 1000000 in
set_option maxRecDepth 20000 in
theorem primetests_yes (a : ByteArray) (b : Bool) (v : Int) (w : World) (l1 : ¬ (200 : Int) < a.size)
    (h1 : ∀ w, Calls Tryd.prog 13 #[.string a] w fun e w' => e = .returned (.tuple #[.bool b, .int .i64 v]) ∧ Below w.heap.size w w')
    (h2 : ∀ w, Calls Tryd.prog 14 #[.string a] w fun e w' => e = .returned (.tuple #[.bool b, .int .i64 v]) ∧ Below w.heap.size w w') :
    Calls Tryd.prog 3 #[.string a] w fun e w' => e = .returned (.bool true) ∧ Below w.heap.size w w' := by
  have H1 := Lib.hid h1; clear h1
  have H2 := Lib.hid h2; clear h2
  go_enter Tryd.func3, Tryd.ntmps3
  go_wp2_with fail
  refine (H1.out _).mono ?_; rintro e w1 ⟨rfl, b1⟩
  have B1 := Lib.hid b1; clear b1
  go_wp2_with fail
  refine (H2.out _).mono ?_; rintro e w2 ⟨rfl, b2⟩
  have B2 := Lib.hid (bnext B1.out b2); clear b2
  go_wp2_with fail
  refine (awake4 _).mono ?_; rintro e w3 ⟨rfl, b3⟩
  have B3 := Lib.hid (bnext B2.out b3); clear b3
  go_wp2
  go_ret
  exact ⟨rfl, B3.out⟩
theorem law_PrimeTests (a : ByteArray) (l1 : a.size ≤ maxLen) (w : World) :
    Calls Tryd.prog 3 #[.string a] w fun e w' => e = .returned (.bool true) ∧ Below w.heap.size w w' := by
  unfold maxLen at l1
  by_cases k1 : (200 : Int) < a.size
  · exact primetests_skip a w (by omega) k1
  · obtain ⟨b, v, h1, h2⟩ := is_agree a
    exact primetests_yes a b v w k1 h1 h2

set_option maxHeartbeats 1000000 in
set_option maxRecDepth 20000 in
theorem primesafes_skip (a : ByteArray) (w : World) (m1 : a.size ≤ 9223372036854775807) (l1 : (200 : Int) < a.size) :
    Calls Tryd.prog 9 #[.string a] w fun e w' => e = .returned (.bool true) ∧ Below w.heap.size w w' := by
  go_enter Tryd.func9, Tryd.ntmps9
  go_wp2_with fail
  refine (awake4 _).mono ?_; rintro e w1 ⟨rfl, b1⟩
  go_wp2
  go_ret
  exact ⟨rfl, b1⟩

set_option maxHeartbeats 1000000 in
set_option maxRecDepth 20000 in
theorem primesafes_yes (a : ByteArray) (b : Bool) (v : Int) (w : World) (l1 : ¬ (200 : Int) < a.size)
    (h1 : ∀ w, Calls Tryd.prog 22 #[.string a] w fun e w' => e = .returned (.tuple #[.bool b, .int .i64 v]) ∧ Below w.heap.size w w')
    (h2 : ∀ w, Calls Tryd.prog 23 #[.string a] w fun e w' => e = .returned (.tuple #[.bool b, .int .i64 v]) ∧ Below w.heap.size w w') :
    Calls Tryd.prog 9 #[.string a] w fun e w' => e = .returned (.bool true) ∧ Below w.heap.size w w' := by
  have H1 := Lib.hid h1; clear h1
  have H2 := Lib.hid h2; clear h2
  go_enter Tryd.func9, Tryd.ntmps9
  go_wp2_with fail
  refine (H1.out _).mono ?_; rintro e w1 ⟨rfl, b1⟩
  have B1 := Lib.hid b1; clear b1
  go_wp2_with fail
  refine (H2.out _).mono ?_; rintro e w2 ⟨rfl, b2⟩
  have B2 := Lib.hid (bnext B1.out b2); clear b2
  go_wp2_with fail
  refine (awake4 _).mono ?_; rintro e w3 ⟨rfl, b3⟩
  have B3 := Lib.hid (bnext B2.out b3); clear b3
  go_wp2
  go_ret
  exact ⟨rfl, B3.out⟩
theorem law_PrimeSafes (a : ByteArray) (l1 : a.size ≤ maxLen) (w : World) :
    Calls Tryd.prog 9 #[.string a] w fun e w' => e = .returned (.bool true) ∧ Below w.heap.size w w' := by
  unfold maxLen at l1
  by_cases k1 : (200 : Int) < a.size
  · exact primesafes_skip a w (by omega) k1
  · obtain ⟨b, v, h1, h2⟩ := safe_agree a
    exact primesafes_yes a b v w k1 h1 h2

set_option maxHeartbeats 1000000 in
set_option maxRecDepth 20000 in
theorem primenexts_skip (a : ByteArray) (w : World) (m1 : a.size ≤ 9223372036854775807) (l1 : (200 : Int) < a.size) :
    Calls Tryd.prog 7 #[.string a] w fun e w' => e = .returned (.bool true) ∧ Below w.heap.size w w' := by
  go_enter Tryd.func7, Tryd.ntmps7
  go_wp2_with fail
  refine (awake4 _).mono ?_; rintro e w1 ⟨rfl, b1⟩
  go_wp2
  go_ret
  exact ⟨rfl, b1⟩

set_option maxHeartbeats 1000000 in
set_option maxRecDepth 20000 in
theorem primenexts_yes (a : ByteArray) (t : ByteArray) (v : Int) (w : World) (l1 : ¬ (200 : Int) < a.size)
    (h1 : ∀ w, Calls Tryd.prog 19 #[.string a] w fun e w' => e = .returned (.tuple #[.string t, .int .i64 v]) ∧ Below w.heap.size w w')
    (h2 : ∀ w, Calls Tryd.prog 20 #[.string a] w fun e w' => e = .returned (.tuple #[.string t, .int .i64 v]) ∧ Below w.heap.size w w') :
    Calls Tryd.prog 7 #[.string a] w fun e w' => e = .returned (.bool true) ∧ Below w.heap.size w w' := by
  have H1 := Lib.hid h1; clear h1
  have H2 := Lib.hid h2; clear h2
  go_enter Tryd.func7, Tryd.ntmps7
  go_wp2_with fail
  refine (H1.out _).mono ?_; rintro e w1 ⟨rfl, b1⟩
  have B1 := Lib.hid b1; clear b1
  go_wp2_with fail
  refine (H2.out _).mono ?_; rintro e w2 ⟨rfl, b2⟩
  have B2 := Lib.hid (bnext B1.out b2); clear b2
  go_wp2_with fail
  refine (awake4 _).mono ?_; rintro e w3 ⟨rfl, b3⟩
  have B3 := Lib.hid (bnext B2.out b3); clear b3
  go_wp2
  go_ret
  exact ⟨rfl, B3.out⟩
theorem law_PrimeNexts (a : ByteArray) (l1 : a.size ≤ maxLen) (w : World) :
    Calls Tryd.prog 7 #[.string a] w fun e w' => e = .returned (.bool true) ∧ Below w.heap.size w w' := by
  unfold maxLen at l1
  by_cases k1 : (200 : Int) < a.size
  · exact primenexts_skip a w (by omega) k1
  · obtain ⟨t, v, h1, h2⟩ := next_agree a
    exact primenexts_yes a t v w k1 h1 h2

set_option maxHeartbeats 1000000 in
set_option maxRecDepth 20000 in
theorem primestrong_skip1 (n a : ByteArray) (w : World) (m1 : n.size ≤ 9223372036854775807) (m2 : a.size ≤ 9223372036854775807) (l1 : (8 : Int) < n.size) :
    Calls Tryd.prog 5 #[.string n, .string a] w fun e w' => e = .returned (.bool true) ∧ Below w.heap.size w w' := by
  go_enter Tryd.func5, Tryd.ntmps5
  go_wp2_with fail
  refine (awake4 _).mono ?_; rintro e w1 ⟨rfl, b1⟩
  go_wp2
  go_ret
  exact ⟨rfl, b1⟩

set_option maxHeartbeats 1000000 in
set_option maxRecDepth 20000 in
theorem primestrong_skip2 (n a : ByteArray) (w : World) (m1 : n.size ≤ 9223372036854775807) (m2 : a.size ≤ 9223372036854775807) (l1 : ¬ (8 : Int) < n.size) (l2 : (200 : Int) < a.size) :
    Calls Tryd.prog 5 #[.string n, .string a] w fun e w' => e = .returned (.bool true) ∧ Below w.heap.size w w' := by
  go_enter Tryd.func5, Tryd.ntmps5
  go_wp2_with fail
  refine (awake4 _).mono ?_; rintro e w1 ⟨rfl, b1⟩
  go_wp2
  go_ret
  exact ⟨rfl, b1⟩

set_option maxHeartbeats 1000000 in
set_option maxRecDepth 20000 in
theorem primestrong_yes (n a : ByteArray) (b : Bool) (v : Int) (w : World) (l1 : ¬ (8 : Int) < n.size) (l2 : ¬ (200 : Int) < a.size)
    (h1 : ∀ w, Calls Tryd.prog 16 #[.string n, .string a] w fun e w' => e = .returned (.tuple #[.bool b, .int .i64 v]) ∧ Below w.heap.size w w')
    (h2 : ∀ w, Calls Tryd.prog 17 #[.string n, .string a] w fun e w' => e = .returned (.tuple #[.bool b, .int .i64 v]) ∧ Below w.heap.size w w') :
    Calls Tryd.prog 5 #[.string n, .string a] w fun e w' => e = .returned (.bool true) ∧ Below w.heap.size w w' := by
  have H1 := Lib.hid h1; clear h1
  have H2 := Lib.hid h2; clear h2
  go_enter Tryd.func5, Tryd.ntmps5
  go_wp2_with fail
  refine (H1.out _).mono ?_; rintro e w1 ⟨rfl, b1⟩
  have B1 := Lib.hid b1; clear b1
  go_wp2_with fail
  refine (H2.out _).mono ?_; rintro e w2 ⟨rfl, b2⟩
  have B2 := Lib.hid (bnext B1.out b2); clear b2
  go_wp2_with fail
  refine (awake4 _).mono ?_; rintro e w3 ⟨rfl, b3⟩
  have B3 := Lib.hid (bnext B2.out b3); clear b3
  go_wp2
  go_ret
  exact ⟨rfl, B3.out⟩
theorem law_PrimeStrong (n a : ByteArray) (l1 : n.size ≤ maxLen) (l2 : a.size ≤ maxLen) (w : World) :
    Calls Tryd.prog 5 #[.string n, .string a] w fun e w' => e = .returned (.bool true) ∧ Below w.heap.size w w' := by
  unfold maxLen at l1 l2
  by_cases k1 : (8 : Int) < n.size
  · exact primestrong_skip1 n a w (by omega) (by omega) k1
  · by_cases k2 : (200 : Int) < a.size
    · exact primestrong_skip2 n a w (by omega) (by omega) k1 k2
    · obtain ⟨b, v, h1, h2⟩ := strong_agree n a (by omega)
      exact primestrong_yes n a b v w k1 k2 h1 h2

set_option maxHeartbeats 1000000 in
set_option maxRecDepth 20000 in
theorem primefactors_skip (a : ByteArray) (w : World) (m1 : a.size ≤ 9223372036854775807) (l1 : (200 : Int) < a.size) :
    Calls Tryd.prog 10 #[.string a] w fun e w' => e = .returned (.bool true) ∧ Below w.heap.size w w' := by
  go_enter Tryd.func10, Tryd.ntmps10
  go_wp2_with fail
  refine (awake4 _).mono ?_; rintro e w1 ⟨rfl, b1⟩
  go_wp2
  go_ret
  exact ⟨rfl, b1⟩

set_option maxHeartbeats 1000000 in
set_option maxRecDepth 20000 in
theorem primefactors_yes (a : ByteArray) (k : Nat) (f : Nat → ByteArray) (v : Int) (w : World) (l1 : ¬ (200 : Int) < a.size) (hk : k ≤ 100000)
    (h1 : ∀ w, Calls Tryd.prog 24 #[.string a] w fun e w' => FacV k f v w e w')
    (h2 : ∀ w, Calls Tryd.prog 25 #[.string a] w fun e w' => FacV k f v w e w') :
    Calls Tryd.prog 10 #[.string a] w fun e w' => e = .returned (.bool true) ∧ Below w.heap.size w w' := by
  have H1 := Lib.hid h1; clear h1
  have H2 := Lib.hid h2; clear h2
  have HK := Lib.hid hk; clear hk
  go_enter Tryd.func10, Tryd.ntmps10
  go_wp2_with fail
  refine (H1.out _).mono ?_; rintro e w1 ⟨p1, c1, rfl, s1, b1⟩
  have S1 := Lib.hid s1; clear s1
  have B1 := Lib.hid b1; clear b1
  go_wp2_with fail
  refine (H2.out _).mono ?_; rintro e w2 ⟨p2, c2, rfl, s2, b2⟩
  have S2 := Lib.hid s2; clear s2
  have S1' := Lib.hid (S1.out.below b2)
  have B2 := Lib.hid (bnext B1.out b2); clear b2
  go_wp2_with fail
  refine (equal_same _ _ k f _ S1'.out S2.out HK.out).mono ?_; rintro e w3 ⟨rfl, b3⟩
  have B3 := Lib.hid (bnext B2.out b3); clear b3
  go_wp2_with fail
  refine (awake4 _).mono ?_; rintro e w4 ⟨rfl, b4⟩
  have B4 := Lib.hid (bnext B3.out b4); clear b4
  go_wp2
  go_ret
  exact ⟨rfl, B4.out⟩
theorem law_PrimeFactors (a : ByteArray) (l1 : a.size ≤ maxLen) (w : World) :
    Calls Tryd.prog 10 #[.string a] w fun e w' => e = .returned (.bool true) ∧ Below w.heap.size w w' := by
  unfold maxLen at l1
  by_cases k1 : (200 : Int) < a.size
  · exact primefactors_skip a w (by omega) k1
  · obtain ⟨k, f, v, hk, h1, h2⟩ := fac_agree a
    exact primefactors_yes a k f v w k1 hk h1 h2
end Go.Proofs.YtfokiokcofabcaaDoor
