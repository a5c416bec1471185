/-
  The walk of IntegerExtends.
-/
import Derived.Test.YtamgklgjhjociaaInt20
import Derived.Test.YtamgklgjhjociaaInt17
namespace Go.Proofs.Ytamgklgjhjociaa
open Go.RowKit
set_option linter.unusedVariables false

theorem lim60e : 256 ^ 60 * 256 ^ 60 + 256 ^ 60 + 256 ^ 60 + 256 ^ 60 < Lim := by rw [lim_eq]; decide +kernel
theorem quot_le (a : Int) {b : Int} (hb : b ≠ 0) : (a / b).natAbs ≤ a.natAbs + 1 := by
  have h0 := Int.emod_nonneg a hb
  have h1 := Int.emod_lt a hb
  have e := Int.mul_ediv_add_emod a b
  have h2 : (b * (a / b)).natAbs ≤ a.natAbs + b.natAbs := by omega
  rw [Int.natAbs_mul] at h2
  have hB : 0 < b.natAbs := by omega
  have h3 : b.natAbs * (a / b).natAbs < b.natAbs * (a.natAbs + 2) := by
    rw [Nat.mul_add]
    have : a.natAbs ≤ b.natAbs * a.natAbs := Nat.le_mul_of_pos_left _ hB
    omega
  have := Nat.lt_of_mul_lt_mul_left h3
  omega
theorem bez_ext {a b g m k : Nat} {x y : Int} (hg : g = Nat.gcd a b) (hb : b ≠ 0) (hm : b = g * m) (hk : a = g * k) (h : (a : Int) * x + b * y = g) :
    (a : Int) * (x % m) + b * (y + x / m * k) = g ∧ 0 ≤ x % m ∧ x % m < (b / g : Nat) := by
  have hgp : 0 < g := by rw [hg]; exact Nat.gcd_pos_of_pos_right _ (Nat.pos_of_ne_zero hb)
  have hm0 : m ≠ 0 := by intro q; rw [q, Nat.mul_zero] at hm; exact hb hm
  have em : b / g = m := by rw [hm]; exact Nat.mul_div_cancel_left _ hgp
  rw [em]
  refine ⟨?_, Int.emod_nonneg _ (by omega), Int.emod_lt_of_pos _ (by omega)⟩
  have e := Int.mul_ediv_add_emod x m
  have er : x % m = x - m * (x / m) := by omega
  have ham : (a : Int) * (m * (x / m)) = b * (x / m * k) := by
    rw [hm, hk, Int.natCast_mul, Int.natCast_mul]
    simp only [Int.mul_assoc, Int.mul_left_comm, Int.mul_comm]
  rw [er, Int.mul_sub, Int.mul_add, ham]
  omega
theorem iext_agree (s t : ByteArray) (k1 : s.size ≤ 60) (k2 : t.size ≤ 60) : ∃ (g SX SY : ByteArray) (GX GY : Bool) (v : Nat), v ≤ 100 ∧
    (∀ w, Calls Try.prog 38 #[.string s, .string t] w fun e w' => e = .returned (.tuple #[.string g, .agg #[.bool GX, .string SX], .agg #[.bool GY, .string SY], .int .i64 v]) ∧ Below w.heap.size w w') ∧
    (∀ w, Calls Try.prog 39 #[.string s, .string t] w fun e w' => e = .returned (.tuple #[.string g, .agg #[.bool GX, .string SX], .agg #[.bool GY, .string SY], .int .i64 v]) ∧ Below w.heap.size w w') := by
  by_cases h : Can s
  · by_cases h2 : Can t
    · obtain ⟨g, x, y, hx, he⟩ := iext_fix s t h h2
      refine ⟨E g, ZS x, ZS y, ZG x, ZG y, 0, by omega, he, ?_⟩
      by_cases hb : V t = 0
      · obtain ⟨x1, _, x3, _⟩ := hx
        have e := x3 hb
        have eg : E g = s := by rw [x1, hb, Nat.gcd_zero_right, E_V h]
        rw [e.1, e.2, eg]
        intro w
        exact riext_zero s t w h h2 (by rw [← E_V h2, E_empty, hb]; rfl)
      · have l1 : V s < 256 ^ 60 := Nat.lt_of_lt_of_le (V_lt s) (Nat.pow_le_pow_right (by omega) k1)
        have l2 : V t < 256 ^ 60 := Nat.lt_of_lt_of_le (V_lt t) (Nat.pow_le_pow_right (by omega) k2)
        have hlim := lim60e
        obtain ⟨x0, y0, e1, e2, e3, _, hc⟩ := rbez_any (V t) (V s) (V t) (Nat.le_refl _) (V_lim h) (V_lim h2)
        rw [E_V h, E_V h2] at hc
        generalize hM : 256 ^ 60 = M at *
        have hM0 : 0 < M := by omega
        obtain ⟨g0, hg0⟩ : ∃ g0, g0 = Nat.gcd (V s) (V t) := ⟨_, rfl⟩
        rw [← hg0] at e1 hc
        have hgp : 0 < g0 := by rw [hg0]; exact Nat.gcd_pos_of_pos_right _ (Nat.pos_of_ne_zero hb)
        obtain ⟨m, hm⟩ : g0 ∣ V t := by rw [hg0]; exact Nat.gcd_dvd_right _ _
        obtain ⟨k, hk⟩ : g0 ∣ V s := by rw [hg0]; exact Nat.gcd_dvd_left _ _
        have hb2 := bez_ext hg0 hb hm hk e1
        have em : V t / g0 = m := by rw [hm]; exact Nat.mul_div_cancel_left _ hgp
        have ek : V s / g0 = k := by rw [hk]; exact Nat.mul_div_cancel_left _ hgp
        have hm1 : m ≤ V t := by rw [← em]; exact Nat.div_le_self _ _
        have hk1 : k ≤ V s := by rw [← ek]; exact Nat.div_le_self _ _
        have hm0 : m ≠ 0 := by intro q; rw [q, Nat.mul_zero] at hm; exact hb hm
        have hgl : g0 ≤ V t := by rw [hg0]; exact Nat.gcd_le_right _ (Nat.pos_of_ne_zero hb)
        rw [em] at hb2
        have hq := quot_le x0 (b := (m : Int)) (by omega)
        have hqk : (x0 / m * k).natAbs ≤ M * M + M := by
          rw [Int.natAbs_mul, Int.natAbs_natCast]
          have h3 : (x0 / (m : Int)).natAbs * k ≤ (M + 1) * M := Nat.mul_le_mul (by omega) (by omega)
          rw [Nat.add_mul, Nat.one_mul] at h3
          exact h3
        have hxr : (x0 % (m : Int)).natAbs < Lim := by omega
        have hyr : (y0 + x0 / m * k).natAbs < Lim := by omega
        have hext : ExtP (V s) (V t) g0 (x0 % m) (y0 + x0 / m * k) := ⟨hg0, hb2.1, fun q => absurd q hb, fun _ => by rw [em]; exact hb2.2, hxr, hyr⟩
        obtain ⟨rfl, rfl, rfl⟩ := ext_one hext hx
        intro w
        have cg : Can (E g0) := can_E' (by omega)
        have hdm := fun w => rdivMod_yes t (E g0) w h2 cg
        rw [V_E, divN_pos hgp, em] at hdm
        have hdk := fun w => rdivMod_yes s (E g0) w h cg
        rw [V_E, divN_pos hgp, ek] at hdk
        have hfm := fun w => rfrom_yes (E m) w (can_E' (by omega))
        rw [V_E] at hfm
        have hfk := fun w => rfrom_yes (E k) w (can_E' (by omega))
        rw [V_E] at hfk
        have vx0 := ival_Z x0 (by omega)
        have vy0 := ival_Z y0 (by omega)
        have vm := ival_Z (m : Nat) (by rw [Int.natAbs_natCast]; omega)
        have vk := ival_Z (k : Nat) (by rw [Int.natAbs_natCast]; omega)
        have hd := fun w => ridiv_yes (ZG x0) (ZG (m : Nat)) (ZS x0) (ZS (m : Nat)) w vx0 vm
        rw [IZ_Z, IZ_Z] at hd
        unfold zdivN at hd
        rw [if_neg (by omega)] at hd
        have vq := ival_Z (x0 / m) (by omega)
        have hp := fun w => rimul_yes (ZG (x0 / m)) (ZG (k : Nat)) (ZS (x0 / m)) (ZS (k : Nat)) w vq vk
        rw [IZ_Z, IZ_Z, zokN_yes (by omega)] at hp
        have vp := ival_Z (x0 / m * k) (by omega)
        have ha := fun w => riadd_yes (ZG y0) (ZG (x0 / m * k)) (ZS y0) (ZS (x0 / m * k)) w vy0 vp
        rw [IZ_Z, IZ_Z, zokN_yes hyr] at ha
        have er : (((x0 % m).toNat : Nat) : Int) = x0 % m := by omega
        have hfr := fun w => rfrom_yes (E (x0 % m).toNat) w (can_E' (by omega))
        rw [V_E, er] at hfr
        exact riext_core s t (E g0) (E m) _ (E k) _ _ _ _ _ _ _ _ _ _ _ _ _ _ _ _ _ _ w h h2 (by rw [← E_V h2, E_empty]; simp [hb]) hc hdm hdk hfm hd hfk hp ha hfr
    · exact ⟨_, _, _, _, _, 3, by omega, fun w => iext_no2 s t w h h2, fun w => riext_no2 s t w h h2⟩
  · exact ⟨_, _, _, _, _, 3, by omega, fun w => iext_no1 s t w h, fun w => riext_no1 s t w h⟩

set_option maxHeartbeats 4000000 in
set_option maxRecDepth 20000 in
theorem extends_yes (s t g SX SY : ByteArray) (GX GY : Bool) (v : Int) (w : World) (l1 : (s.size : Int) ≤ 60) (l2 : (t.size : Int) ≤ 60)
    (h_c : (∀ w, Calls Try.prog 38 #[.string s, .string t] w fun e w' => e = .returned (.tuple #[.string g, .agg #[.bool GX, .string SX], .agg #[.bool GY, .string SY], .int .i64 v]) ∧ Below w.heap.size w w'))
    (h_r : (∀ w, Calls Try.prog 39 #[.string s, .string t] w fun e w' => e = .returned (.tuple #[.string g, .agg #[.bool GX, .string SX], .agg #[.bool GY, .string SY], .int .i64 v]) ∧ Below w.heap.size w w')) :
    Calls Try.prog 6 #[.string s, .string t] w fun e w' => e = .returned (.bool true) ∧ Below w.heap.size w w' := by
  have H_c := Lib.hid h_c; clear h_c
  have H_r := Lib.hid h_r; clear h_r
  have k := Below.refl w.heap.size w
  go_enter Try.func6, Try.ntmps6
  go_wp2_with fail
  refine (H_c.out _).mono ?_; rintro e w1 ⟨rfl, b1⟩
  have k := bnextW k b1 (by first | (simp; done) | (simp; omega) | omega)
  have z1 := k.size
  have X := Two.new w1 (.bool GX) (.string SX) 24 (w1.heap.size) (by first | (simp; done) | (simp; omega) | omega)
  have k := k.alloc (by first | (simp; done) | (simp; omega) | omega) (.cells #[.bool GX, .string SX] 24)
  have X := X.alloc (.cells #[.bool GY, .string SY] 24)
  have Y := Two.new (w1.alloc (.cells #[.bool GX, .string SX] 24)) (.bool GY) (.string SY) 24 (w1.heap.size + 1) (by first | (simp; done) | (simp; omega) | omega)
  have k := k.alloc (by first | (simp; done) | (simp; omega) | omega) (.cells #[.bool GY, .string SY] 24)
  go_wp2_with fail
  refine (H_r.out _).mono ?_; rintro e w2 ⟨rfl, b2⟩
  have X := X.below b2 rfl
  have Y := Y.below b2 rfl
  have lX := X.2.2.2.2
  have lY := Y.2.2.2.2
  have k := bnextW k b2 (by first | (simp; done) | (simp; omega) | omega)
  have z2 := k.size
  have X := X.alloc (.cells #[.bool GX, .string SX] 24)
  have Y := Y.alloc (.cells #[.bool GX, .string SX] 24)
  have U := Two.new w2 (.bool GX) (.string SX) 24 (w2.heap.size) (by first | (simp; done) | (simp; omega) | omega)
  have k := k.alloc (by first | (simp; done) | (simp; omega) | omega) (.cells #[.bool GX, .string SX] 24)
  have X := X.alloc (.cells #[.bool GY, .string SY] 24)
  have Y := Y.alloc (.cells #[.bool GY, .string SY] 24)
  have U := U.alloc (.cells #[.bool GY, .string SY] 24)
  have T := Two.new (w2.alloc (.cells #[.bool GX, .string SX] 24)) (.bool GY) (.string SY) 24 (w2.heap.size + 1) (by first | (simp; done) | (simp; omega) | omega)
  have k := k.alloc (by first | (simp; done) | (simp; omega) | omega) (.cells #[.bool GY, .string SY] 24)
  go_wp2_with fail
  refine (awake2 _).mono ?_; rintro e w3 ⟨rfl, b3⟩
  have X := X.below b3 rfl
  have Y := Y.below b3 rfl
  have U := U.below b3 rfl
  have T := T.below b3 rfl
  have lX := X.2.2.2.2
  have lY := Y.2.2.2.2
  have lU := U.2.2.2.2
  have lT := T.2.2.2.2
  have k := bnextW k b3 (by first | (simp; done) | (simp; omega) | omega)
  have z3 := k.size
  have q1a := X.1
  have q1b := X.2.1
  have q2a := Y.1
  have q2b := Y.2.1
  have q3a := U.1
  have q3b := U.2.1
  have q4a := T.1
  have q4b := T.2.1
  go_wp2
  go_ret
  exact ⟨rfl, k⟩

set_option maxHeartbeats 4000000 in
set_option maxRecDepth 20000 in
theorem extends_skip1 (s t : ByteArray) (w : World) (m1 : s.size ≤ 9223372036854775807) (m2 : t.size ≤ 9223372036854775807) (l1 : ¬ (s.size : Int) ≤ 60) :
    Calls Try.prog 6 #[.string s, .string t] w fun e w' => e = .returned (.bool true) ∧ Below w.heap.size w w' := by
  have k := Below.refl w.heap.size w
  go_enter Try.func6, Try.ntmps6
  go_wp2_with fail
  refine (awake2 _).mono ?_; rintro e w1 ⟨rfl, b1⟩
  have k := bnextW k b1 (by first | (simp; done) | (simp; omega) | omega)
  have z1 := k.size
  go_wp2
  go_ret
  exact ⟨rfl, k⟩

set_option maxHeartbeats 4000000 in
set_option maxRecDepth 20000 in
theorem extends_skip2 (s t : ByteArray) (w : World) (m1 : s.size ≤ 9223372036854775807) (m2 : t.size ≤ 9223372036854775807) (l1 : (s.size : Int) ≤ 60) (l2 : ¬ (t.size : Int) ≤ 60) :
    Calls Try.prog 6 #[.string s, .string t] w fun e w' => e = .returned (.bool true) ∧ Below w.heap.size w w' := by
  have k := Below.refl w.heap.size w
  go_enter Try.func6, Try.ntmps6
  go_wp2_with fail
  refine (awake2 _).mono ?_; rintro e w1 ⟨rfl, b1⟩
  have k := bnextW k b1 (by first | (simp; done) | (simp; omega) | omega)
  have z1 := k.size
  go_wp2
  go_ret
  exact ⟨rfl, k⟩

theorem law_IntegerExtends (s t : ByteArray) (l1 : s.size ≤ maxLen) (l2 : t.size ≤ maxLen) (w : World) :
    Calls Try.prog 6 #[.string s, .string t] w fun e w' => e = .returned (.bool true) ∧ Below w.heap.size w w' := by
  unfold maxLen at l1 l2
  by_cases k1 : s.size ≤ 60
  · by_cases k2 : t.size ≤ 60
    · obtain ⟨g, SX, SY, GX, GY, v, hv, h1, h2⟩ := iext_agree s t k1 k2
      exact extends_yes s t g SX SY GX GY v w (by omega) (by omega) h1 h2
    · exact extends_skip2 s t w (by omega) (by omega) (by omega) (by omega)
  · exact extends_skip1 s t w (by omega) (by omega) (by omega)
end Go.Proofs.Ytamgklgjhjociaa
