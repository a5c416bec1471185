/-
  Several parts in one text (LB).
-/
import Derived.Test.YtjbcicgbemepbaaGreatDoorRA
import Derived.Test.YtjbcicgbemepbaaGreatDoorInt20
import Derived.Test.YtjbcicgbemepbaaGreatDoorInt18
import Derived.Test.YtjbcicgbemepbaaGreatDoorInt11
import Derived.Test.YtjbcicgbemepbaaGreatDoorMC
import Derived.Test.YtjbcicgbemepbaaGreatDoorLaw3c
import Derived.Test.YtjbcicgbemepbaaGreatDoorMD
import Derived.Deep.RegionHeld3
import Derived.Deep.DeepCutAuto
/-
  Contracts of the reference of layer 3, the fifth part: Inverse, Power.
-/
namespace Go.Proofs.YtjbcicgbemepbaaGreatDoor
open Go.RowKit
set_option linter.unusedVariables false

theorem lim60m : 256 ^ 60 * 256 ^ 60 + 256 ^ 60 + 256 ^ 60 + 256 ^ 60 < Lim := by rw [lim_eq]; decide +kernel
theorem quot_lem (a : Int) {b : Int} (hb : b ≠ 0) : (a / b).natAbs ≤ a.natAbs + 1 := by
  have h0 := Int.emod_nonneg a hb
  have h1 := Int.emod_lt a hb
  have e := Int.mul_ediv_add_emod a b
  have h2 : (b * (a / b)).natAbs ≤ a.natAbs + b.natAbs := by omega
  rw [Int.natAbs_mul] at h2
  have hB : 0 < b.natAbs := by omega
  have h3 : b.natAbs * (a / b).natAbs < b.natAbs * (a.natAbs + 2) := by
    rw [Nat.mul_add]
    have : a.natAbs ≤ b.natAbs * a.natAbs := Nat.le_mul_of_pos_left _ hB
    omega
  have := Nat.lt_of_mul_lt_mul_left h3
  omega
theorem bez_extm {a b g m k : Nat} {x y : Int} (hg : g = Nat.gcd a b) (hb : b ≠ 0) (hm : b = g * m) (hk : a = g * k) (h : (a : Int) * x + b * y = g) :
    (a : Int) * (x % m) + b * (y + x / m * k) = g ∧ 0 ≤ x % m ∧ x % m < (b / g : Nat) := by
  have hgp : 0 < g := by rw [hg]; exact Nat.gcd_pos_of_pos_right _ (Nat.pos_of_ne_zero hb)
  have hm0 : m ≠ 0 := by intro q; rw [q, Nat.mul_zero] at hm; exact hb hm
  have em : b / g = m := by rw [hm]; exact Nat.mul_div_cancel_left _ hgp
  rw [em]
  refine ⟨?_, Int.emod_nonneg _ (by omega), Int.emod_lt_of_pos _ (by omega)⟩
  have e := Int.mul_ediv_add_emod x m
  have er : x % m = x - m * (x / m) := by omega
  have ham : (a : Int) * (m * (x / m)) = b * (x / m * k) := by
    rw [hm, hk, Int.natCast_mul, Int.natCast_mul]
    simp only [Int.mul_assoc, Int.mul_left_comm, Int.mul_comm]
  rw [er, Int.mul_sub, Int.mul_add, ham]
  omega
theorem riext_fix (s t : ByteArray) (k1 : s.size ≤ 60) (k2 : t.size ≤ 60) (h : Can s) (h2 : Can t) (hb : ¬ V t = 0) : ∃ (g : Nat) (x y : Int), ExtP (V s) (V t) g x y ∧
    ∀ w, Calls Tryz.prog 50 #[.string s, .string t] w fun e w' => e = .returned (.tuple #[.string (E g), .agg #[.bool (ZG x), .string (ZS x)], .agg #[.bool (ZG y), .string (ZS y)], .int .i64 0]) ∧ Below w.heap.size w w' := by
  have l1 : V s < 256 ^ 60 := Nat.lt_of_lt_of_le (V_lt s) (Nat.pow_le_pow_right (by omega) k1)
  have l2 : V t < 256 ^ 60 := Nat.lt_of_lt_of_le (V_lt t) (Nat.pow_le_pow_right (by omega) k2)
  have hlim := lim60m
  obtain ⟨x0, y0, e1, e2, e3, _, hc⟩ := rbez_any (V t) (V s) (V t) (Nat.le_refl _) (V_lim h) (V_lim h2)
  rw [E_V h, E_V h2] at hc
  generalize hM : 256 ^ 60 = M at *
  have hM0 : 0 < M := by omega
  obtain ⟨g0, hg0⟩ : ∃ g0, g0 = Nat.gcd (V s) (V t) := ⟨_, rfl⟩
  rw [← hg0] at e1 hc
  have hgp : 0 < g0 := by rw [hg0]; exact Nat.gcd_pos_of_pos_right _ (Nat.pos_of_ne_zero hb)
  obtain ⟨m, hm⟩ : g0 ∣ V t := by rw [hg0]; exact Nat.gcd_dvd_right _ _
  obtain ⟨k, hk⟩ : g0 ∣ V s := by rw [hg0]; exact Nat.gcd_dvd_left _ _
  have hb2 := bez_extm hg0 hb hm hk e1
  have em : V t / g0 = m := by rw [hm]; exact Nat.mul_div_cancel_left _ hgp
  have ek : V s / g0 = k := by rw [hk]; exact Nat.mul_div_cancel_left _ hgp
  have hm1 : m ≤ V t := by rw [← em]; exact Nat.div_le_self _ _
  have hk1 : k ≤ V s := by rw [← ek]; exact Nat.div_le_self _ _
  have hm0 : m ≠ 0 := by intro q; rw [q, Nat.mul_zero] at hm; exact hb hm
  have hgl : g0 ≤ V t := by rw [hg0]; exact Nat.gcd_le_right _ (Nat.pos_of_ne_zero hb)
  rw [em] at hb2
  have hq := quot_lem x0 (b := (m : Int)) (by omega)
  have hqk : (x0 / m * k).natAbs ≤ M * M + M := by
    rw [Int.natAbs_mul, Int.natAbs_natCast]
    have h3 : (x0 / (m : Int)).natAbs * k ≤ (M + 1) * M := Nat.mul_le_mul (by omega) (by omega)
    rw [Nat.add_mul, Nat.one_mul] at h3
    exact h3
  have hxr : (x0 % (m : Int)).natAbs < Lim := by omega
  have hyr : (y0 + x0 / m * k).natAbs < Lim := by omega
  have hext : ExtP (V s) (V t) g0 (x0 % m) (y0 + x0 / m * k) := ⟨hg0, hb2.1, fun q => absurd q hb, fun _ => by rw [em]; exact hb2.2, hxr, hyr⟩
  refine ⟨g0, _, _, hext, ?_⟩
  intro w
  have cg : Can (E g0) := can_E' (by omega)
  have hdm := fun w => rdivMod_yes t (E g0) w h2 cg
  rw [V_E, divN_pos hgp, em] at hdm
  have hdk := fun w => rdivMod_yes s (E g0) w h cg
  rw [V_E, divN_pos hgp, ek] at hdk
  have hfm := fun w => rfrom_yes (E m) w (can_E' (by omega))
  rw [V_E] at hfm
  have hfk := fun w => rfrom_yes (E k) w (can_E' (by omega))
  rw [V_E] at hfk
  have vx0 := ival_Z x0 (by omega)
  have vy0 := ival_Z y0 (by omega)
  have vm := ival_Z (m : Nat) (by rw [Int.natAbs_natCast]; omega)
  have vk := ival_Z (k : Nat) (by rw [Int.natAbs_natCast]; omega)
  have hd := fun w => ridiv_yes (ZG x0) (ZG (m : Nat)) (ZS x0) (ZS (m : Nat)) w vx0 vm
  rw [IZ_Z, IZ_Z] at hd
  unfold zdivN at hd
  rw [if_neg (by omega)] at hd
  have vq := ival_Z (x0 / m) (by omega)
  have hp := fun w => rimul_yes (ZG (x0 / m)) (ZG (k : Nat)) (ZS (x0 / m)) (ZS (k : Nat)) w vq vk
  rw [IZ_Z, IZ_Z, zokN_yes (by omega)] at hp
  have vp := ival_Z (x0 / m * k) (by omega)
  have ha := fun w => riadd_yes (ZG y0) (ZG (x0 / m * k)) (ZS y0) (ZS (x0 / m * k)) w vy0 vp
  rw [IZ_Z, IZ_Z, zokN_yes hyr] at ha
  have er : (((x0 % m).toNat : Nat) : Int) = x0 % m := by omega
  have hfr := fun w => rfrom_yes (E (x0 % m).toNat) w (can_E' (by omega))
  rw [V_E, er] at hfr
  exact riext_core s t (E g0) (E m) _ (E k) _ _ _ _ _ _ _ _ _ _ _ _ _ _ _ _ _ _ w h h2 (by rw [← E_V h2, E_empty]; simp [hb]) hc hdm hdk hfm hd hfk hp ha hfr

theorem rimod_z (z : Int) (m : ByteArray) (w : World) (hz : z.natAbs < Lim) (hm : Can m) (h0 : 0 < V m) (h1 : 0 ≤ z) (h2 : z < V m) :
    Calls Tryz.prog 52 #[.agg #[.bool (ZG z), .string (ZS z)], .string m] w fun e w' => e = .returned (.tuple #[.string (E z.natAbs), .int .i64 0]) ∧ Below w.heap.size w w' := by
  have hv : IVal (ZG (V m : Nat)) (ZS (V m : Nat)) := ival_Z _ (by simpa using V_lim hm)
  have hvz : IVal (ZG z) (ZS z) := ival_Z z hz
  have hd := fun w => ridiv_yes (ZG z) (ZG (V m : Nat)) (ZS z) (ZS (V m : Nat)) w hvz hv
  rw [IZ_Z, IZ_Z] at hd
  unfold zdivN at hd
  rw [if_neg (by omega)] at hd
  have e : (z % ((V m : Nat) : Int)).toNat = z.natAbs := by rw [Int.emod_eq_of_lt h1 h2]; omega
  rw [e] at hd
  exact rimod_core _ _ _ _ m _ _ (E z.natAbs) 0 w hm hvz (fun w => rfrom_yes m w hm) hd
theorem inv_unique {a m x y : Nat} (hx : x < m) (hy : y < m) (h1 : a * x % m = 1 % m) (h2 : a * y % m = 1 % m) : x = y := by
  have e1 : x * (a * y) % m = x % m := by rw [Nat.mul_mod, h2, ← Nat.mul_mod, Nat.mul_one]
  have e2 : y * (a * x) % m = y % m := by rw [Nat.mul_mod, h1, ← Nat.mul_mod, Nat.mul_one]
  have e3 : x * (a * y) = y * (a * x) := by simp only [Nat.mul_left_comm, Nat.mul_comm]
  rw [e3, e2, Nat.mod_eq_of_lt hx, Nat.mod_eq_of_lt hy] at e1
  exact e1.symm

set_option maxHeartbeats 1000000 in
set_option maxRecDepth 20000 in
theorem rinv_yes (a m : ByteArray) (w : World) (ha : Can a) (hm : Can m) (h0 : 0 < m.size) (h60 : m.size ≤ 60) (hg : Nat.gcd (V a % V m) (V m) = 1) :
    Calls Tryz.prog 23 #[.string a, .string m] w fun e w' => (∃ x : Nat, e = .returned (.tuple #[.string (E x), .int .i64 0]) ∧ x < V m ∧ V a * x % V m = 1 % V m) ∧ Below w.heap.size w w' := by
  have hmp := can_pos hm h0
  have hml : V m < Lim := V_lt128 hm
  have hx := Nat.mod_lt (V a) hmp
  have cx : Can (E (V a % V m)) := can_E' (Nat.lt_trans hx hml)
  have sx : (E (V a % V m)).size ≤ 60 := by
    rw [E_size_le]
    exact Nat.lt_trans hx ((can_lt hm 60).2 h60)
  obtain ⟨g, x, y, hP, hE⟩ := riext_fix (E (V a % V m)) m sx h60 cx hm (by omega)
  rw [V_E] at hP
  have hg1 : g = 1 := hP.1.trans hg
  have hfin := inv_of_ext hP hmp hg1
  have hzm := fun w => rimod_z x m w hP.2.2.2.2.1 hm hmp (by omega) (by omega)
  subst hg1
  have HF := Lib.hid hfin; clear hfin
  have HZM := Lib.hid hzm; clear hzm
  have HE := Lib.hid hE; clear hE
  clear hP hg sx
  have CX := Lib.hid cx; clear cx
  have HA := Lib.hid ha; clear ha
  have HM := Lib.hid hm; clear hm
  have H0 := Lib.hid hmp; clear hmp hml hx
  go_enter Tryz.func23, Tryz.ntmps23
  go_wp2_with fail
  have b0 : Below w.heap.size w (w.alloc (.cells #[.string a, .string m] 22)) := (Below.refl _ _).alloc (Nat.le_refl _) _
  refine (rcheck_new m [a] ([a] ++ [m]) 2 22 #[.string a, .string m] w rfl rfl rfl (by omega)).mono ?_
  rintro e w1 ⟨⟨v, rfl, hv⟩, rfl⟩
  obtain rfl := hv.ok HM.out h0 (by intro s hs; simp at hs; subst hs; exact HA.out)
  have B0 := Lib.hid b0; clear b0 hv
  generalize w.alloc _ = w1 at *
  go_wp2_with fail
  refine (rmod_any a m _ HA.out HM.out H0.out).mono ?_
  rintro e w2 ⟨rfl, b2⟩
  have B2 := Lib.hid (bnext B0.out b2); clear b2
  go_wp2_with fail
  refine (HE.out _).mono ?_
  rintro e w3 ⟨rfl, b3⟩
  have B3 := Lib.hid (bnext B2.out b3); clear b3
  go_wp2_with fail
  have T1 := (Two.new w3 (.bool (ZG x)) (.string (ZS x)) 24 w3.heap.size rfl).alloc (.cells #[.bool (ZG y), .string (ZS y)] 24)
  have B4 : Below w.heap.size w ((w3.alloc (.cells #[.bool (ZG x), .string (ZS x)] 24)).alloc (.cells #[.bool (ZG y), .string (ZS y)] 24)) := (B3.out.alloc B3.out.size _).alloc (by have := B3.out.size; simp; omega) _
  have B4 := Lib.hid B4
  generalize (w3.alloc _).alloc _ = w4 at *
  refine (rof_any 1 _ (by omega)).mono ?_
  rintro e w5 ⟨rfl, b5⟩
  obtain ⟨q1, q2, q3, q4, q5⟩ := T1.below b5 rfl
  have B5 := Lib.hid (bnext B4.out b5); clear b5 B4 B3 B2 B0
  go_wp2_with fail
  refine (HZM.out _).mono ?_
  rintro e w6 ⟨rfl, b6⟩
  have B6 := Lib.hid (bnext B5.out b6); clear b6
  go_wp2
  go_ret2
  exact ⟨⟨x.natAbs, rfl, HF.out.2⟩, B6.out⟩

set_option maxHeartbeats 1000000 in
set_option maxRecDepth 20000 in
theorem rinv_no (a m : ByteArray) (w : World) (ha : Can a) (hm : Can m) (h0 : 0 < m.size) (h60 : m.size ≤ 60) (hg : Nat.gcd (V a % V m) (V m) ≠ 1) :
    Calls Tryz.prog 23 #[.string a, .string m] w fun e w' => e = .returned (.tuple #[.string ⟨#[]⟩, .int .i64 9]) ∧ Below w.heap.size w w' := by
  have hmp := can_pos hm h0
  have hml : V m < Lim := V_lt128 hm
  have hx := Nat.mod_lt (V a) hmp
  have cx : Can (E (V a % V m)) := can_E' (Nat.lt_trans hx hml)
  have sx : (E (V a % V m)).size ≤ 60 := by
    rw [E_size_le]
    exact Nat.lt_trans hx ((can_lt hm 60).2 h60)
  obtain ⟨g, x, y, hP, hE⟩ := riext_fix (E (V a % V m)) m sx h60 cx hm (by omega)
  rw [V_E] at hP
  have hg1 : g ≠ 1 := fun h => hg (hP.1.symm.trans h)
  have hbe := E_bne hg1
  clear hg1
  have HE := Lib.hid hE; clear hE
  clear hP hg sx
  have CX := Lib.hid cx; clear cx
  have HA := Lib.hid ha; clear ha
  have HM := Lib.hid hm; clear hm
  have H0 := Lib.hid hmp; clear hmp hml hx
  go_enter Tryz.func23, Tryz.ntmps23
  go_wp2_with fail
  have b0 : Below w.heap.size w (w.alloc (.cells #[.string a, .string m] 22)) := (Below.refl _ _).alloc (Nat.le_refl _) _
  refine (rcheck_new m [a] ([a] ++ [m]) 2 22 #[.string a, .string m] w rfl rfl rfl (by omega)).mono ?_
  rintro e w1 ⟨⟨v, rfl, hv⟩, rfl⟩
  obtain rfl := hv.ok HM.out h0 (by intro s hs; simp at hs; subst hs; exact HA.out)
  have B0 := Lib.hid b0; clear b0 hv
  generalize w.alloc _ = w1 at *
  go_wp2_with fail
  refine (rmod_any a m _ HA.out HM.out H0.out).mono ?_
  rintro e w2 ⟨rfl, b2⟩
  have B2 := Lib.hid (bnext B0.out b2); clear b2
  go_wp2_with fail
  refine (HE.out _).mono ?_
  rintro e w3 ⟨rfl, b3⟩
  have B3 := Lib.hid (bnext B2.out b3); clear b3
  go_wp2_with fail
  have T1 := (Two.new w3 (.bool (ZG x)) (.string (ZS x)) 24 w3.heap.size rfl).alloc (.cells #[.bool (ZG y), .string (ZS y)] 24)
  have B4 : Below w.heap.size w ((w3.alloc (.cells #[.bool (ZG x), .string (ZS x)] 24)).alloc (.cells #[.bool (ZG y), .string (ZS y)] 24)) := (B3.out.alloc B3.out.size _).alloc (by have := B3.out.size; simp; omega) _
  have B4 := Lib.hid B4
  generalize (w3.alloc _).alloc _ = w4 at *
  refine (rof_any 1 _ (by omega)).mono ?_
  rintro e w5 ⟨rfl, b5⟩
  obtain ⟨q1, q2, q3, q4, q5⟩ := T1.below b5 rfl
  have B5 := Lib.hid (bnext B4.out b5); clear b5 B4 B3 B2 B0
  go_wp2
  go_ret2
  exact ⟨rfl, B5.out⟩

set_option maxHeartbeats 600000 in
set_option maxRecDepth 20000 in
theorem rpower_bad1 (a s m : ByteArray) (g : Bool) (w : World) (ha : ¬ Can a) :
    Calls Tryz.prog 21 #[.string a, .agg #[.bool g, .string s], .string m] w fun e w' => e = .returned (.tuple #[.string ⟨#[]⟩, .int .i64 3]) ∧ Below w.heap.size w w' := by
  have HA := Lib.hid ha; clear ha
  go_enter Tryz.func21, Tryz.ntmps21
  go_wp2_with fail
  refine (rvalid_no a _ HA.out).mono ?_; rintro e wx ⟨rfl, rfl⟩
  go_wp2
  go_ret2
  exact ⟨rfl, (Below.refl _ _).alloc (Nat.le_refl _) _⟩

set_option maxHeartbeats 600000 in
set_option maxRecDepth 20000 in
theorem rpower_bad2 (a s m : ByteArray) (g : Bool) (w : World) (ha : Can a) (hi : ¬ IVal g s) :
    Calls Tryz.prog 21 #[.string a, .agg #[.bool g, .string s], .string m] w fun e w' => e = .returned (.tuple #[.string ⟨#[]⟩, .int .i64 3]) ∧ Below w.heap.size w w' := by
  have HA := Lib.hid ha; clear ha
  have HI := Lib.hid hi; clear hi
  go_enter Tryz.func21, Tryz.ntmps21
  go_wp2_with fail
  refine (rvalid_yes a _ HA.out).mono ?_; rintro e wx ⟨rfl, rfl⟩
  go_wp2_with fail
  refine (rivalid_f g s _ HI.out).mono ?_; rintro e w1 ⟨rfl, b1⟩
  obtain ⟨T1, k1⟩ := after1 b1
  go_wp2
  go_ret2
  exact ⟨rfl, k1⟩

set_option maxHeartbeats 600000 in
set_option maxRecDepth 20000 in
theorem rpower_bad3 (a s m : ByteArray) (g : Bool) (w : World) (ha : Can a) (hi : IVal g s) (hm : ¬ Can m) :
    Calls Tryz.prog 21 #[.string a, .agg #[.bool g, .string s], .string m] w fun e w' => e = .returned (.tuple #[.string ⟨#[]⟩, .int .i64 3]) ∧ Below w.heap.size w w' := by
  have HA := Lib.hid ha; clear ha
  have HI := Lib.hid hi; clear hi
  have HM := Lib.hid hm; clear hm
  go_enter Tryz.func21, Tryz.ntmps21
  go_wp2_with fail
  refine (rvalid_yes a _ HA.out).mono ?_; rintro e wx ⟨rfl, rfl⟩
  go_wp2_with fail
  refine (rivalid_t g s _ HI.out).mono ?_; rintro e w1 ⟨rfl, b1⟩
  obtain ⟨T1, k1⟩ := after1 b1
  go_wp2_with fail
  refine (rvalid_no m _ HM.out).mono ?_; rintro e wx ⟨rfl, rfl⟩
  go_wp2
  go_ret2
  exact ⟨rfl, k1⟩

set_option maxHeartbeats 600000 in
set_option maxRecDepth 20000 in
theorem rpower_zero (a s m : ByteArray) (g : Bool) (w : World) (ha : Can a) (hi : IVal g s) (hm : Can m) (h0 : m.size = 0) :
    Calls Tryz.prog 21 #[.string a, .agg #[.bool g, .string s], .string m] w fun e w' => e = .returned (.tuple #[.string ⟨#[]⟩, .int .i64 11]) ∧ Below w.heap.size w w' := by
  have hE := empty_of h0
  have HA := Lib.hid ha; clear ha
  have HI := Lib.hid hi; clear hi
  have HM := Lib.hid hm; clear hm
  go_enter Tryz.func21, Tryz.ntmps21
  go_wp2_with fail
  refine (rvalid_yes a _ HA.out).mono ?_; rintro e wx ⟨rfl, rfl⟩
  go_wp2_with fail
  refine (rivalid_t g s _ HI.out).mono ?_; rintro e w1 ⟨rfl, b1⟩
  obtain ⟨T1, k1⟩ := after1 b1
  go_wp2_with fail
  refine (rvalid_yes m _ HM.out).mono ?_; rintro e wx ⟨rfl, rfl⟩
  go_wp2
  go_ret2
  exact ⟨rfl, k1⟩

set_option maxHeartbeats 600000 in
set_option maxRecDepth 20000 in
theorem rpower_pos (a s m : ByteArray) (w : World) (ha : Can a) (hi : IVal false s) (hs : Can s) (hm : Can m) (h0 : 0 < m.size) (h64 : m.size ≤ 64) :
    Calls Tryz.prog 21 #[.string a, .agg #[.bool false, .string s], .string m] w fun e w' => e = .returned (.tuple #[.string (E (V a ^ V s % V m)), .int .i64 0]) ∧ Below w.heap.size w w' := by
  have hE := not_empty_of (show m.size ≠ 0 by omega)
  have hmp := can_pos hm h0
  have HMP := Lib.hid hmp; clear hmp
  have HA := Lib.hid ha; clear ha
  have HI := Lib.hid hi; clear hi
  have HM := Lib.hid hm; clear hm
  have HS := Lib.hid hs; clear hs
  go_enter Tryz.func21, Tryz.ntmps21
  go_wp2_with fail
  refine (rvalid_yes a _ HA.out).mono ?_; rintro e wx ⟨rfl, rfl⟩
  go_wp2_with fail
  refine (rivalid_t false s _ HI.out).mono ?_; rintro e w1 ⟨rfl, b1⟩
  obtain ⟨T1, k1⟩ := after1 b1
  obtain ⟨q1, q2, q3, q4, q5⟩ := T1
  go_wp2_with fail
  refine (rvalid_yes m _ HM.out).mono ?_; rintro e wx ⟨rfl, rfl⟩
  go_wp2_with fail
  refine (rraise_m a s m _ HA.out HS.out HM.out HMP.out h64).mono ?_; rintro e w2 ⟨rfl, b2⟩
  have k2 := bnext k1 b2
  go_wp2
  go_ret2
  exact ⟨rfl, k2⟩

set_option maxHeartbeats 600000 in
set_option maxRecDepth 20000 in
theorem rpower_negerr (a s m S : ByteArray) (v : Int) (w : World) (ha : Can a) (hi : IVal true s) (hm : Can m) (h0 : 0 < m.size) (hv : (v != 0) = true)
    (hI : ∀ w, Calls Tryz.prog 23 #[.string a, .string m] w fun e w' => e = .returned (.tuple #[.string S, .int .i64 v]) ∧ Below w.heap.size w w') :
    Calls Tryz.prog 21 #[.string a, .agg #[.bool true, .string s], .string m] w fun e w' => e = .returned (.tuple #[.string ⟨#[]⟩, .int .i64 v]) ∧ Below w.heap.size w w' := by
  have hE := not_empty_of (show m.size ≠ 0 by omega)
  have hmp := can_pos hm h0
  have HMP := Lib.hid hmp; clear hmp
  have HA := Lib.hid ha; clear ha
  have HI := Lib.hid hi; clear hi
  have HM := Lib.hid hm; clear hm
  have HV := Lib.hid hI; clear hI
  go_enter Tryz.func21, Tryz.ntmps21
  go_wp2_with fail
  refine (rvalid_yes a _ HA.out).mono ?_; rintro e wx ⟨rfl, rfl⟩
  go_wp2_with fail
  refine (rivalid_t true s _ HI.out).mono ?_; rintro e w1 ⟨rfl, b1⟩
  obtain ⟨T1, k1⟩ := after1 b1
  obtain ⟨q1, q2, q3, q4, q5⟩ := T1
  go_wp2_with fail
  refine (rvalid_yes m _ HM.out).mono ?_; rintro e wx ⟨rfl, rfl⟩
  go_wp2_with fail
  refine (HV.out _).mono ?_; rintro e w2 ⟨rfl, b2⟩
  have k2 := bnext k1 b2
  go_wp2
  go_ret2
  exact ⟨rfl, k2⟩

set_option maxHeartbeats 600000 in
set_option maxRecDepth 20000 in
theorem rpower_neg (a s m x : ByteArray) (w : World) (ha : Can a) (hi : IVal true s) (hs : Can s) (hm : Can m) (h0 : 0 < m.size) (h64 : m.size ≤ 64) (hx : Can x)
    (hI : ∀ w, Calls Tryz.prog 23 #[.string a, .string m] w fun e w' => e = .returned (.tuple #[.string x, .int .i64 0]) ∧ Below w.heap.size w w') :
    Calls Tryz.prog 21 #[.string a, .agg #[.bool true, .string s], .string m] w fun e w' => e = .returned (.tuple #[.string (E (V x ^ V s % V m)), .int .i64 0]) ∧ Below w.heap.size w w' := by
  have hE := not_empty_of (show m.size ≠ 0 by omega)
  have hmp := can_pos hm h0
  have HMP := Lib.hid hmp; clear hmp
  have HA := Lib.hid ha; clear ha
  have HI := Lib.hid hi; clear hi
  have HM := Lib.hid hm; clear hm
  have HS := Lib.hid hs; clear hs
  have HV := Lib.hid hI; clear hI
  have HX := Lib.hid hx; clear hx
  go_enter Tryz.func21, Tryz.ntmps21
  go_wp2_with fail
  refine (rvalid_yes a _ HA.out).mono ?_; rintro e wx ⟨rfl, rfl⟩
  go_wp2_with fail
  refine (rivalid_t true s _ HI.out).mono ?_; rintro e w1 ⟨rfl, b1⟩
  obtain ⟨T1, k1⟩ := after1 b1
  have T1' := Lib.hid T1
  obtain ⟨q1, q2, q3, q4, q5⟩ := T1
  go_wp2_with fail
  refine (rvalid_yes m _ HM.out).mono ?_; rintro e wx ⟨rfl, rfl⟩
  go_wp2_with fail
  refine (HV.out _).mono ?_; rintro e w2 ⟨rfl, b2⟩
  have k2 := bnext k1 b2
  obtain ⟨q1, q2, q3, q4, q5⟩ := T1'.out.below b2 rfl
  go_wp2_with fail
  refine (rraise_m x s m _ HX.out HS.out HM.out HMP.out h64).mono ?_; rintro e w3 ⟨rfl, b3⟩
  have k3 := bnext k2 b3
  go_wp2
  go_ret2
  exact ⟨rfl, k3⟩
end Go.Proofs.YtjbcicgbemepbaaGreatDoor


/-
  Contracts of the reference of layer 3, the sixth part: Join.
-/
namespace Go.Proofs.YtjbcicgbemepbaaGreatDoor
open Go.RowKit
set_option linter.unusedVariables false

theorem E_size12 {x y k : Nat} (h : x ≤ y) (hy : y < 256 ^ k) : (E x).size ≤ k := by
  rw [E_size_le]; exact Nat.lt_of_le_of_lt h hy

set_option maxHeartbeats 2000000 in
set_option maxRecDepth 20000 in
theorem rjoin_ok (a m b n : ByteArray) (w : World) (ha : Can a) (hm : Can m) (hb : Can b) (hn : Can n) (h0 : 0 < m.size) (h1 : 0 < n.size) (h60 : n.size ≤ 60)
    (hAB : V a % Nat.gcd (V m) (V n) = V b % Nat.gcd (V m) (V n)) (hl : V m * (V n / Nat.gcd (V m) (V n)) < Lim) :
    Calls Tryz.prog 27 #[.string a, .string m, .string b, .string n] w fun e w' => JoinP (V a) (V m) (V b) (V n) e ∧ Below w.heap.size w w' := by
  have hne2 := not_empty_of (show m.size ≠ 0 by omega)
  have hn60 : V n < 256 ^ 60 := (can_lt hn 60).2 h60
  have hmp := can_pos hm h0
  have hnp := can_pos hn h1
  have hml : V m < Lim := V_lt128 hm
  have hnl : V n < Lim := V_lt128 hn
  have HA := Lib.hid ha; clear ha
  have HB := Lib.hid hb; clear hb
  have HM := Lib.hid hm; clear hm
  have HN := Lib.hid hn; clear hn
  have hne := not_empty_of (show n.size ≠ 0 by omega)
  obtain ⟨g, hg⟩ : ∃ q, q = Nat.gcd (V m) (V n) := ⟨_, rfl⟩
  obtain ⟨mp, hmpe⟩ : ∃ q, q = V m / g := ⟨_, rfl⟩
  obtain ⟨np, hnpe⟩ : ∃ q, q = V n / g := ⟨_, rfl⟩
  obtain ⟨G, hG⟩ : ∃ q, q = subM (V b) (V a % V m) (V n) := ⟨_, rfl⟩
  obtain ⟨gap, hgap⟩ : ∃ q, q = G / g := ⟨_, rfl⟩
  rw [← hg] at hAB hl
  have hg0 : 0 < g := by rw [hg]; exact Nat.gcd_pos_of_pos_left _ hmp
  have hgl : g < Lim := Nat.lt_of_le_of_lt (by rw [hg]; exact Nat.le_of_dvd hmp (Nat.gcd_dvd_left _ _)) hml
  have hnp0 : 0 < np := by rw [hnpe]; exact Nat.div_pos (by rw [hg]; exact Nat.le_of_dvd hnp (Nat.gcd_dvd_right _ _)) hg0
  have hcop : Nat.gcd (mp % np) np = 1 := by rw [hmpe, hnpe]; exact gcd_parts hmp hg
  have hmpl : mp < Lim := Nat.lt_of_le_of_lt (by rw [hmpe]; exact Nat.div_le_self _ _) hml
  have hnpl : np < Lim := Nat.lt_of_le_of_lt (by rw [hnpe]; exact Nat.div_le_self _ _) hnl
  have hGl : G < Lim := by rw [hG]; exact Nat.lt_trans (Nat.mod_lt _ hnp) hnl
  have hgapl : gap < Lim := Nat.lt_of_le_of_lt (by rw [hgap]; exact Nat.div_le_self _ _) hGl
  have hSl : V a % V m < Lim := Nat.lt_trans (Nat.mod_lt _ hmp) hml
  have CG := Lib.hid (can_E' hgl)
  have CMP := Lib.hid (can_E' hmpl)
  have CNP := Lib.hid (can_E' hnpl)
  have CGG := Lib.hid (can_E' hGl)
  have CGAP := Lib.hid (can_E' hgapl)
  have CS := Lib.hid (can_E' hSl)
  have hnps : 0 < (E np).size := Nat.pos_of_ne_zero (E_size_ne (by omega))
  have D1 := Lib.hid (show divN (V m) g = .tuple #[.string (E mp), .string (E (V m % g)), .int .i64 0] by rw [hmpe]; exact divN_pos (by omega))
  have D2 := Lib.hid (show divN (V n) g = .tuple #[.string (E np), .string (E (V n % g)), .int .i64 0] by rw [hnpe]; exact divN_pos (by omega))
  have D3 := Lib.hid (show divN G g = .tuple #[.string (E gap), .string (E (G % g)), .int .i64 0] by rw [hgap]; exact divN_pos (by omega))
  rw [← hnpe] at hl
  have OK1 := Lib.hid (okN_yes hl)
  have HGE := Lib.hid hg; clear hg
  have HMPE := Lib.hid hmpe; clear hmpe
  have HNPE := Lib.hid hnpe; clear hnpe
  have HGD := Lib.hid hG; clear hG
  have HGAPE := Lib.hid hgap; clear hgap
  have HCOP := Lib.hid hcop; clear hcop
  have HAB := Lib.hid hAB; clear hAB
  have hnp60 : (E np).size ≤ 60 := by
    rw [HNPE.out]; exact E_size12 (Nat.div_le_self _ _) hn60
  clear hn60
  have hlp : 0 < V m * np := Nat.mul_pos hmp hnp0
  have CL := Lib.hid (can_E' hl)
  have HL := Lib.hid hl; clear hl
  clear hml hnl hgl hmpl hnpl hGl hgapl hSl
  go_enter Tryz.func27, Tryz.ntmps27
  go_wp2_with fail
  refine (rvalid_yes a _ HA.out).mono ?_; rintro e wx ⟨rfl, rfl⟩
  go_wp2_with fail
  refine (rvalid_yes m _ HM.out).mono ?_; rintro e wx ⟨rfl, rfl⟩
  go_wp2_with fail
  refine (rvalid_yes b _ HB.out).mono ?_; rintro e wx ⟨rfl, rfl⟩
  go_wp2_with fail
  refine (rvalid_yes n _ HN.out).mono ?_; rintro e wx ⟨rfl, rfl⟩
  go_wp2_with fail
  refine (rgcd_yes m n _ HM.out HN.out).mono ?_
  rintro e w2 ⟨rfl, b2⟩
  rw [← HGE.out]
  have B2 := Lib.hid b2; clear b2
  go_wp2_with fail
  refine (rmod_any a _ _ HA.out CG.out (by rw [V_E]; exact hg0)).mono ?_
  rintro e w3 ⟨rfl, b3⟩
  rw [V_E, HAB.out]
  have B3 := Lib.hid (bnext B2.out b3); clear b3 B2
  go_wp2_with fail
  refine (rmod_any b _ _ HB.out CG.out (by rw [V_E]; exact hg0)).mono ?_
  rintro e w4 ⟨rfl, b4⟩
  rw [V_E]
  have B4 := Lib.hid (bnext B3.out b4); clear b4 B3
  go_wp2_with fail
  refine (rmod_any a m _ HA.out HM.out hmp).mono ?_
  rintro e w5 ⟨rfl, b5⟩
  have B5 := Lib.hid (bnext B4.out b5); clear b5 B4
  go_wp2_with fail
  refine (rdivMod_yes n _ _ HN.out CG.out).mono ?_
  rintro e w6 ⟨rfl, b6⟩
  rw [V_E, D2.out]
  have B6 := Lib.hid (bnext B5.out b6); clear b6 B5
  go_wp2_with fail
  refine (rmul_yes m _ _ HM.out CNP.out).mono ?_
  rintro e w7 ⟨rfl, b7⟩
  rw [V_E, OK1.out]
  have B7 := Lib.hid (bnext B6.out b7); clear b7 B6
  go_wp2_with fail
  refine (rsub_m b _ n _ HB.out CS.out HN.out h1 (by omega)).mono ?_
  rintro e w8 ⟨rfl, b8⟩
  rw [V_E, ← HGD.out]
  have B8 := Lib.hid (bnext B7.out b8); clear b8 B7
  go_wp2_with fail
  refine (rdivMod_yes _ _ _ CGG.out CG.out).mono ?_
  rintro e w9 ⟨rfl, b9⟩
  rw [V_E, V_E, D3.out]
  have B9 := Lib.hid (bnext B8.out b9); clear b9 B8
  go_wp2_with fail
  refine (rdivMod_yes m _ _ HM.out CG.out).mono ?_
  rintro e w10 ⟨rfl, b10⟩
  rw [V_E, D1.out]
  have B10 := Lib.hid (bnext B9.out b10); clear b10 B9
  go_wp2_with fail
  refine (rinv_yes _ _ _ CMP.out CNP.out hnps hnp60 (by rw [V_E, V_E]; exact HCOP.out)).mono ?_
  rintro e w11 ⟨⟨x, rfl, hx, hinv⟩, b11⟩
  have B11 := Lib.hid (bnext B10.out b11); clear b11 B10
  rw [V_E] at hx
  rw [V_E, V_E] at hinv
  obtain ⟨k, hk⟩ : ∃ q, q = gap * x % np := ⟨_, rfl⟩
  have hnum := join_num hmp hnp HGE.out HMPE.out HNPE.out HAB.out HGD.out HGAPE.out hinv hk
  have hkl : k < np := by rw [hk]; exact Nat.mod_lt _ hnp0
  have hnpl : np < Lim := (E_can_lt CNP.out)
  have CXX := Lib.hid (can_E' (Nat.lt_trans hx hnpl))
  have CK := Lib.hid (can_E' (Nat.lt_trans hkl hnpl))
  have hdl : V m * k < Lim := by
    have := hnum.2.2
    exact Nat.lt_of_le_of_lt (Nat.le_add_left _ _) (Nat.lt_trans this HL.out)
  have hxl := Nat.lt_trans hnum.2.2 HL.out
  obtain ⟨X, hX⟩ : ∃ q, q = V a % V m + V m * k := ⟨_, rfl⟩
  have hX2 : V m * k + V a % V m = X := by rw [hX, Nat.add_comm]
  rw [← hX] at hxl hnum
  have OK2 := Lib.hid (okN_yes hdl)
  have OK3 := Lib.hid (okN_yes hxl)
  have CD := Lib.hid (can_E' hdl)
  have CX := Lib.hid (can_E' hxl)
  have HX2 := Lib.hid hX2; clear hX2
  have HMOD := Lib.hid (Nat.mod_eq_of_lt hnum.2.2)
  have HNUM := Lib.hid hnum; clear hnum
  have HK := Lib.hid hk; clear hk hinv hdl hxl hkl hnpl hx hX
  go_wp2_with fail
  refine (rtimes_m _ _ _ _ CGAP.out CXX.out CNP.out (by rw [V_E]; exact hnp0) (by omega)).mono ?_
  rintro e w12 ⟨rfl, b12⟩
  rw [V_E, V_E, V_E, ← HK.out]
  have B12 := Lib.hid (bnext B11.out b12); clear b12 B11
  go_wp2_with fail
  refine (rmul_yes m _ _ HM.out CK.out).mono ?_
  rintro e w13 ⟨rfl, b13⟩
  rw [V_E, OK2.out]
  have B13 := Lib.hid (bnext B12.out b13); clear b13 B12
  go_wp2_with fail
  refine (radd_yes _ _ _ CD.out CS.out).mono ?_
  rintro e w14 ⟨rfl, b14⟩
  rw [V_E, V_E, HX2.out, OK3.out]
  have B14 := Lib.hid (bnext B13.out b14); clear b14 B13
  go_wp2_with fail
  refine (rmod_any _ _ _ CX.out CL.out (by rw [V_E]; exact hlp)).mono ?_
  rintro e w15 ⟨rfl, b15⟩
  rw [V_E, V_E, HMOD.out]
  have B15 := Lib.hid (bnext B14.out b15); clear b15 B14
  go_wp2
  go_ret3
  exact ⟨⟨X, by rw [← HGE.out, ← HNPE.out]; rfl, HNUM.out.1, HNUM.out.2.1, by rw [← HGE.out, ← HNPE.out]; exact HNUM.out.2.2⟩, B15.out⟩

set_option maxHeartbeats 2000000 in
set_option maxRecDepth 20000 in
theorem rjoin_none (a m b n : ByteArray) (w : World) (ha : Can a) (hm : Can m) (hb : Can b) (hn : Can n) (h0 : 0 < m.size) (h1 : 0 < n.size)
    (hAB : V a % Nat.gcd (V m) (V n) ≠ V b % Nat.gcd (V m) (V n)) :
    Calls Tryz.prog 27 #[.string a, .string m, .string b, .string n] w fun e w' => e = .returned (.tuple #[.string ⟨#[]⟩, .string ⟨#[]⟩, .int .i64 9]) ∧ Below w.heap.size w w' := by
  have hne := not_empty_of (show m.size ≠ 0 by omega)
  have hne2 := not_empty_of (show n.size ≠ 0 by omega)
  have hmp := can_pos hm h0
  have hml : V m < Lim := V_lt128 hm
  have HA := Lib.hid ha; clear ha
  have HB := Lib.hid hb; clear hb
  have HM := Lib.hid hm; clear hm
  have HN := Lib.hid hn; clear hn
  obtain ⟨g, hg⟩ : ∃ q, q = Nat.gcd (V m) (V n) := ⟨_, rfl⟩
  rw [← hg] at hAB
  have hg0 : 0 < g := by rw [hg]; exact Nat.gcd_pos_of_pos_left _ hmp
  have hgl : g < Lim := Nat.lt_of_le_of_lt (by rw [hg]; exact Nat.le_of_dvd hmp (Nat.gcd_dvd_left _ _)) hml
  have CG := Lib.hid (can_E' hgl)
  have HGE := Lib.hid hg; clear hg
  have hbe := E_bne hAB
  clear hml hgl hAB
  go_enter Tryz.func27, Tryz.ntmps27
  go_wp2_with fail
  refine (rvalid_yes a _ HA.out).mono ?_; rintro e wx ⟨rfl, rfl⟩
  go_wp2_with fail
  refine (rvalid_yes m _ HM.out).mono ?_; rintro e wx ⟨rfl, rfl⟩
  go_wp2_with fail
  refine (rvalid_yes b _ HB.out).mono ?_; rintro e wx ⟨rfl, rfl⟩
  go_wp2_with fail
  refine (rvalid_yes n _ HN.out).mono ?_; rintro e wx ⟨rfl, rfl⟩
  go_wp2_with fail
  refine (rgcd_yes m n _ HM.out HN.out).mono ?_
  rintro e w2 ⟨rfl, b2⟩
  rw [← HGE.out]
  have B2 := Lib.hid b2; clear b2
  go_wp2_with fail
  refine (rmod_any a _ _ HA.out CG.out (by rw [V_E]; exact hg0)).mono ?_
  rintro e w3 ⟨rfl, b3⟩
  rw [V_E]
  have B3 := Lib.hid (bnext B2.out b3); clear b3 B2
  go_wp2_with fail
  refine (rmod_any b _ _ HB.out CG.out (by rw [V_E]; exact hg0)).mono ?_
  rintro e w4 ⟨rfl, b4⟩
  rw [V_E]
  have B4 := Lib.hid (bnext B3.out b4); clear b4 B3
  go_wp2
  go_ret3
  exact ⟨rfl, B4.out⟩

set_option maxHeartbeats 600000 in
theorem rjoin_bad0 (a m b n : ByteArray) (w : World) (ha : ¬ Can a) :
    Calls Tryz.prog 27 #[.string a, .string m, .string b, .string n] w fun e w' => e = .returned (.tuple #[.string ⟨#[]⟩, .string ⟨#[]⟩, .int .i64 3]) ∧ Below w.heap.size w w' := by
  have HA := Lib.hid ha; clear ha
  go_enter Tryz.func27, Tryz.ntmps27
  go_wp2_with fail
  refine (rvalid_no a _ HA.out).mono ?_; rintro e wx ⟨rfl, rfl⟩
  go_wp2
  go_ret3
  exact ⟨rfl, Below.refl _ _⟩

set_option maxHeartbeats 600000 in
theorem rjoin_bad1 (a m b n : ByteArray) (w : World) (ha : Can a) (hm : ¬ Can m) :
    Calls Tryz.prog 27 #[.string a, .string m, .string b, .string n] w fun e w' => e = .returned (.tuple #[.string ⟨#[]⟩, .string ⟨#[]⟩, .int .i64 3]) ∧ Below w.heap.size w w' := by
  have HA := Lib.hid ha; clear ha
  have HM := Lib.hid hm; clear hm
  go_enter Tryz.func27, Tryz.ntmps27
  go_wp2_with fail
  refine (rvalid_yes a _ HA.out).mono ?_; rintro e wx ⟨rfl, rfl⟩
  go_wp2_with fail
  refine (rvalid_no m _ HM.out).mono ?_; rintro e wx ⟨rfl, rfl⟩
  go_wp2
  go_ret3
  exact ⟨rfl, Below.refl _ _⟩

set_option maxHeartbeats 600000 in
theorem rjoin_bad2 (a m b n : ByteArray) (w : World) (ha : Can a) (hm : Can m) (hb : ¬ Can b) :
    Calls Tryz.prog 27 #[.string a, .string m, .string b, .string n] w fun e w' => e = .returned (.tuple #[.string ⟨#[]⟩, .string ⟨#[]⟩, .int .i64 3]) ∧ Below w.heap.size w w' := by
  have HA := Lib.hid ha; clear ha
  have HM := Lib.hid hm; clear hm
  have HB := Lib.hid hb; clear hb
  go_enter Tryz.func27, Tryz.ntmps27
  go_wp2_with fail
  refine (rvalid_yes a _ HA.out).mono ?_; rintro e wx ⟨rfl, rfl⟩
  go_wp2_with fail
  refine (rvalid_yes m _ HM.out).mono ?_; rintro e wx ⟨rfl, rfl⟩
  go_wp2_with fail
  refine (rvalid_no b _ HB.out).mono ?_; rintro e wx ⟨rfl, rfl⟩
  go_wp2
  go_ret3
  exact ⟨rfl, Below.refl _ _⟩

set_option maxHeartbeats 600000 in
theorem rjoin_bad3 (a m b n : ByteArray) (w : World) (ha : Can a) (hm : Can m) (hb : Can b) (hn : ¬ Can n) :
    Calls Tryz.prog 27 #[.string a, .string m, .string b, .string n] w fun e w' => e = .returned (.tuple #[.string ⟨#[]⟩, .string ⟨#[]⟩, .int .i64 3]) ∧ Below w.heap.size w w' := by
  have HA := Lib.hid ha; clear ha
  have HM := Lib.hid hm; clear hm
  have HB := Lib.hid hb; clear hb
  have HN := Lib.hid hn; clear hn
  go_enter Tryz.func27, Tryz.ntmps27
  go_wp2_with fail
  refine (rvalid_yes a _ HA.out).mono ?_; rintro e wx ⟨rfl, rfl⟩
  go_wp2_with fail
  refine (rvalid_yes m _ HM.out).mono ?_; rintro e wx ⟨rfl, rfl⟩
  go_wp2_with fail
  refine (rvalid_yes b _ HB.out).mono ?_; rintro e wx ⟨rfl, rfl⟩
  go_wp2_with fail
  refine (rvalid_no n _ HN.out).mono ?_; rintro e wx ⟨rfl, rfl⟩
  go_wp2
  go_ret3
  exact ⟨rfl, Below.refl _ _⟩

set_option maxHeartbeats 600000 in
theorem rjoin_zero1 (a m b n : ByteArray) (w : World) (ha : Can a) (hm : Can m) (hb : Can b) (hn : Can n) (h0 : m.size = 0) :
    Calls Tryz.prog 27 #[.string a, .string m, .string b, .string n] w fun e w' => e = .returned (.tuple #[.string ⟨#[]⟩, .string ⟨#[]⟩, .int .i64 11]) ∧ Below w.heap.size w w' := by
  have hE := empty_of h0
  have HA := Lib.hid ha; clear ha
  have HB := Lib.hid hb; clear hb
  have HM := Lib.hid hm; clear hm
  have HN := Lib.hid hn; clear hn
  go_enter Tryz.func27, Tryz.ntmps27
  go_wp2_with fail
  refine (rvalid_yes a _ HA.out).mono ?_; rintro e wx ⟨rfl, rfl⟩
  go_wp2_with fail
  refine (rvalid_yes m _ HM.out).mono ?_; rintro e wx ⟨rfl, rfl⟩
  go_wp2_with fail
  refine (rvalid_yes b _ HB.out).mono ?_; rintro e wx ⟨rfl, rfl⟩
  go_wp2_with fail
  refine (rvalid_yes n _ HN.out).mono ?_; rintro e wx ⟨rfl, rfl⟩
  go_wp2
  go_ret3
  exact ⟨rfl, Below.refl _ _⟩

set_option maxHeartbeats 600000 in
theorem rjoin_zero2 (a m b n : ByteArray) (w : World) (ha : Can a) (hm : Can m) (hb : Can b) (hn : Can n) (h1 : ¬ m.size = 0) (h0 : n.size = 0) :
    Calls Tryz.prog 27 #[.string a, .string m, .string b, .string n] w fun e w' => e = .returned (.tuple #[.string ⟨#[]⟩, .string ⟨#[]⟩, .int .i64 11]) ∧ Below w.heap.size w w' := by
  have hE := empty_of h0
  have hE2 := not_empty_of h1
  have HA := Lib.hid ha; clear ha
  have HB := Lib.hid hb; clear hb
  have HM := Lib.hid hm; clear hm
  have HN := Lib.hid hn; clear hn
  go_enter Tryz.func27, Tryz.ntmps27
  go_wp2_with fail
  refine (rvalid_yes a _ HA.out).mono ?_; rintro e wx ⟨rfl, rfl⟩
  go_wp2_with fail
  refine (rvalid_yes m _ HM.out).mono ?_; rintro e wx ⟨rfl, rfl⟩
  go_wp2_with fail
  refine (rvalid_yes b _ HB.out).mono ?_; rintro e wx ⟨rfl, rfl⟩
  go_wp2_with fail
  refine (rvalid_yes n _ HN.out).mono ?_; rintro e wx ⟨rfl, rfl⟩
  go_wp2
  go_ret3
  exact ⟨rfl, Below.refl _ _⟩

/-- Two numbers below the least common multiple with the same remainders are one. -/
theorem join_one {M N x y : Nat} (hM : 0 < M) (hx : x < M * (N / Nat.gcd M N)) (hy : y < M * (N / Nat.gcd M N)) (h1 : x % M = y % M) (h2 : x % N = y % N) : x = y := by
  have e : M * (N / Nat.gcd M N) = Nat.lcm M N := by
    rw [Nat.lcm, Nat.mul_div_assoc _ (Nat.gcd_dvd_right M N)]
  rw [e] at hx hy
  have d : ∀ u v : Nat, v ≤ u → u % M = v % M → u % N = v % N → u < Nat.lcm M N → u = v := by
    intro u v hle q1 q2 hu
    have d1 : M ∣ u - v := Nat.dvd_of_mod_eq_zero (Nat.sub_mod_eq_zero_of_mod_eq q1)
    have d2 : N ∣ u - v := Nat.dvd_of_mod_eq_zero (Nat.sub_mod_eq_zero_of_mod_eq q2)
    have d3 : Nat.lcm M N ∣ u - v := Nat.lcm_dvd d1 d2
    rcases Nat.eq_zero_or_pos (u - v) with h | h
    · omega
    · have := Nat.le_of_dvd h d3; omega
  rcases Nat.le_total x y with h | h
  · exact (d y x h h1.symm h2.symm hy).symm
  · exact d x y h h1 h2 hx
end Go.Proofs.YtjbcicgbemepbaaGreatDoor


/-
  Layer 3's statements: Raises.
-/
namespace Go.Proofs.YtjbcicgbemepbaaGreatDoor
open Go.RowKit
set_option linter.unusedVariables false

set_option maxHeartbeats 800000 in
set_option maxRecDepth 20000 in
theorem rexp_m (a b m : ByteArray) (w : World) (ha : Can a) (hb : Can b) (hm : Can m) (h0 : 0 < m.size) (h64 : m.size ≤ 64) :
    Calls Tryz.prog 19 #[.string a, .string b, .string m] w fun e w' => e = .returned (.tuple #[.string (E (V a ^ V b % V m)), .int .i64 0]) ∧ Below w.heap.size w w' := by
  have hmp := can_pos hm h0
  have H0 := Lib.hid hmp; clear hmp
  have HA := Lib.hid ha; clear ha
  have HB := Lib.hid hb; clear hb
  have HM := Lib.hid hm; clear hm
  go_enter Tryz.func19, Tryz.ntmps19
  go_wp2_with fail
  have b0 : Below w.heap.size w (w.alloc (.cells #[.string a, .string b, .string m] 22)) := (Below.refl _ _).alloc (Nat.le_refl _) _
  refine (rcheck_new m [a, b] ([a, b] ++ [m]) 3 22 #[.string a, .string b, .string m] w rfl rfl rfl (by omega)).mono ?_
  rintro e w1 ⟨⟨v, rfl, hv⟩, rfl⟩
  obtain rfl := hv.ok HM.out h0 (by intro s hs; simp at hs; rcases hs with rfl | rfl; exact HA.out; exact HB.out)
  have B0 := Lib.hid b0; clear b0 hv
  generalize w.alloc _ = w1 at *
  go_wp2_with fail
  refine (rraise_m a b m _ HA.out HB.out HM.out H0.out h64).mono ?_; rintro e w2 ⟨rfl, b2⟩
  have B2 := Lib.hid (bnext B0.out b2); clear b2
  go_wp2
  go_ret2
  exact ⟨rfl, B2.out⟩
theorem exp_agree (a b m : ByteArray) (h : m.size ≤ 64) : ∃ (S : ByteArray) (v : Int),
    (∀ w, Calls Tryz.prog 18 #[.string a, .string b, .string m] w fun e w' => e = .returned (.tuple #[.string S, .int .i64 v]) ∧ Below w.heap.size w w') ∧
    (∀ w, Calls Tryz.prog 19 #[.string a, .string b, .string m] w fun e w' => e = .returned (.tuple #[.string S, .int .i64 v]) ∧ Below w.heap.size w w') := by
  by_cases hc : Can m ∧ ∀ s, s ∈ [a, b] → Can s
  · have ha : Can a := hc.2 a (by simp)
    have hb : Can b := hc.2 b (by simp)
    by_cases h0 : m.size = 0
    · have hz : ∀ c, ChkP m [a, b] c → c = 11 := fun c h => h.zero hc h0
      exact ⟨_, 11, fun w => mexp_err a b m 11 w hz (by decide), fun w => rexp_err a b m 11 w hz (by decide)⟩
    · exact ⟨_, 0, fun w => mexp_ok a b m w ha hb hc.1 (by omega), fun w => rexp_m a b m w ha hb hc.1 (by omega) h⟩
  · have hz : ∀ c, ChkP m [a, b] c → c = 3 := fun c h => h.form hc
    exact ⟨_, 3, fun w => mexp_err a b m 3 w hz (by decide), fun w => rexp_err a b m 3 w hz (by decide)⟩
/-- Inverse: both sides answer the same; what it is where there is no error. -/
theorem inv_agree (a m : ByteArray) (h : m.size ≤ 60) : ∃ (S : ByteArray) (v : Int),
    (∀ w, Calls Tryz.prog 22 #[.string a, .string m] w fun e w' => e = .returned (.tuple #[.string S, .int .i64 v]) ∧ Below w.heap.size w w') ∧
    (∀ w, Calls Tryz.prog 23 #[.string a, .string m] w fun e w' => e = .returned (.tuple #[.string S, .int .i64 v]) ∧ Below w.heap.size w w') ∧
    ((v != 0) = true ∧ S = ⟨#[]⟩ ∨ v = 0 ∧ Can a ∧ Can m ∧ 0 < m.size ∧ ∃ x, S = E x ∧ x < V m ∧ V a * x % V m = 1 % V m) := by
  by_cases hc : Can m ∧ ∀ s, s ∈ [a] → Can s
  · have ha : Can a := hc.2 a (by simp)
    by_cases h0 : m.size = 0
    · have hz : ∀ c, ChkP m [a] c → c = 11 := fun c h => h.zero hc h0
      exact ⟨_, 11, fun w => minv_err a m 11 w hz (by decide), fun w => rinverse_err a m 11 w hz (by decide), .inl ⟨by decide, rfl⟩⟩
    · have h0 : 0 < m.size := by omega
      by_cases hg : Nat.gcd (V a % V m) (V m) = 1
      · have hmp := can_pos hc.1 h0
        obtain ⟨x, hx1, hx2⟩ : ∃ x, x < V m ∧ V a * x % V m = 1 % V m := by
          obtain ⟨g, x, y, hP⟩ := ext_exists (a := V a % V m) (b := V m) (Nat.lt_trans (Nat.mod_lt _ hmp) (V_lim hc.1)) (V_lim hc.1)
          have hf := inv_of_ext hP hmp (hP.1.trans hg)
          exact ⟨_, hf.2⟩
        refine ⟨E x, 0, fun w => (minv_yes a m w ha hc.1 h0 hg).mono ?_, fun w => (rinv_yes a m w ha hc.1 h0 h hg).mono ?_, .inr ⟨rfl, ha, hc.1, h0, x, rfl, hx1, hx2⟩⟩
        · rintro e w' ⟨⟨x', rfl, h1, h2⟩, hb⟩
          rw [inv_unique h1 hx1 h2 hx2]
          exact ⟨rfl, hb⟩
        · rintro e w' ⟨⟨x', rfl, h1, h2⟩, hb⟩
          rw [inv_unique h1 hx1 h2 hx2]
          exact ⟨rfl, hb⟩
      · exact ⟨_, 9, fun w => minv_no a m w ha hc.1 h0 hg, fun w => rinv_no a m w ha hc.1 h0 h hg, .inl ⟨by decide, rfl⟩⟩
  · have hz : ∀ c, ChkP m [a] c → c = 3 := fun c h => h.form hc
    exact ⟨_, 3, fun w => minv_err a m 3 w hz (by decide), fun w => rinverse_err a m 3 w hz (by decide), .inl ⟨by decide, rfl⟩⟩
theorem power_agree (a s m : ByteArray) (g : Bool) (h : m.size ≤ 60) : ∃ (S : ByteArray) (v : Int),
    (∀ w, Calls Tryz.prog 20 #[.string a, .agg #[.bool g, .string s], .string m] w fun e w' => e = .returned (.tuple #[.string S, .int .i64 v]) ∧ Below w.heap.size w w') ∧
    (∀ w, Calls Tryz.prog 21 #[.string a, .agg #[.bool g, .string s], .string m] w fun e w' => e = .returned (.tuple #[.string S, .int .i64 v]) ∧ Below w.heap.size w w') := by
  by_cases hi : IVal g s
  · by_cases ha : Can a
    · by_cases hm : Can m
      · by_cases h0 : m.size = 0
        · refine ⟨_, 11, fun w => ?_, fun w => rpower_zero a s m g w ha hi hm h0⟩
          cases g
          · exact mpower_pos a s m _ 11 w hi (fun w => mexp_err a s m 11 w (fun c h => h.zero ⟨hm, by intro x hx; simp at hx; rcases hx with rfl | rfl; exact ha; exact hi.1⟩ h0) (by decide))
          · exact mpower_negerr a s m _ 11 w hi (by decide) (fun w => minv_err a m 11 w (fun c h => h.zero ⟨hm, by intro x hx; simp at hx; subst hx; exact ha⟩ h0) (by decide))
        · have h0 : 0 < m.size := by omega
          cases g
          · exact ⟨_, 0, fun w => mpower_pos a s m _ 0 w hi (fun w => mexp_ok a s m w ha hi.1 hm h0), fun w => rpower_pos a s m w ha hi hi.1 hm h0 (by omega)⟩
          · obtain ⟨S, v, h1, h2, h3⟩ := inv_agree a m h
            rcases h3 with ⟨hv, rfl⟩ | ⟨rfl, -, -, -, x, rfl, hx, -⟩
            · exact ⟨_, v, fun w => mpower_negerr a s m _ v w hi hv h1, fun w => rpower_negerr a s m _ v w ha hi hm h0 hv h2⟩
            · have cx : Can (E x) := can_E' (Nat.lt_trans hx (V_lim hm))
              exact ⟨_, 0, fun w => mpower_neg a s m (E x) _ 0 w hi h1 (fun w => mexp_ok (E x) s m w cx hi.1 hm h0), fun w => rpower_neg a s m (E x) w ha hi hi.1 hm h0 (by omega) cx h2⟩
      · refine ⟨_, 3, fun w => ?_, fun w => rpower_bad3 a s m g w ha hi hm⟩
        cases g
        · exact mpower_pos a s m _ 3 w hi (fun w => mexp_err a s m 3 w (fun c h => h.form (fun q => hm q.1)) (by decide))
        · exact mpower_negerr a s m _ 3 w hi (by decide) (fun w => minv_err a m 3 w (fun c h => h.form (fun q => hm q.1)) (by decide))
    · refine ⟨_, 3, fun w => ?_, fun w => rpower_bad1 a s m g w ha⟩
      cases g
      · exact mpower_pos a s m _ 3 w hi (fun w => mexp_err a s m 3 w (fun c h => h.form (fun q => ha (q.2 a (by simp)))) (by decide))
      · exact mpower_negerr a s m _ 3 w hi (by decide) (fun w => minv_err a m 3 w (fun c h => h.form (fun q => ha (q.2 a (by simp)))) (by decide))
  · refine ⟨_, 3, fun w => mpower_bad a s m g w hi, fun w => ?_⟩
    by_cases ha : Can a
    · exact rpower_bad2 a s m g w ha hi
    · exact rpower_bad1 a s m g w ha

set_option maxHeartbeats 1000000 in
set_option maxRecDepth 20000 in
theorem modularraises_skip (a b : ByteArray) (g : Bool) (e m : ByteArray) (w : World) (xa : a.size ≤ 9223372036854775807) (xb : b.size ≤ 9223372036854775807) (xe : e.size ≤ 9223372036854775807) (xm : m.size ≤ 9223372036854775807) (h : ¬ Few3 a b e m) :
    Calls Tryz.prog 4 #[.agg #[.string a, .string b, .bool g, .string e, .string m]] w fun r w' => r = .returned (.bool true) ∧ Below w.heap.size w w' := by
  have HF := Lib.hid h; clear h
  have k0 : Below w.heap.size w (w.alloc (.cells #[.string a, .string b, .bool g, .string e, .string m] 26)) := (Below.refl _ _).alloc (Nat.le_refl _) _
  obtain ⟨q0, q1, q2, q3, q4, q5⟩ := Num5.new w a b g e m 26
  go_enter Tryz.func4, Tryz.ntmps4
  go_wp2_with fail
  refine (few3_no a b g e m _ xa xb xe xm HF.out).mono ?_; rintro r w1 ⟨rfl, b1⟩
  have B1 := Lib.hid (bnext k0 b1); clear b1
  go_wp2_with fail
  refine (awake3 _).mono ?_; rintro r w2 ⟨rfl, b2⟩
  have B2 := Lib.hid (bnext B1.out b2); clear b2
  go_wp2
  go_ret
  exact ⟨rfl, B2.out⟩

set_option maxHeartbeats 2000000 in
set_option maxRecDepth 20000 in
theorem modularraises_yes (a b : ByteArray) (g : Bool) (e m : ByteArray) (S1 S2 : ByteArray) (v1 v2 : Int) (w : World) (h : Few3 a b e m)
    (c1 : ∀ w, Calls Tryz.prog 18 #[.string a, .string e, .string m] w fun e w' => e = .returned (.tuple #[.string S1, .int .i64 v1]) ∧ Below w.heap.size w w')
    (r1 : ∀ w, Calls Tryz.prog 19 #[.string a, .string e, .string m] w fun e w' => e = .returned (.tuple #[.string S1, .int .i64 v1]) ∧ Below w.heap.size w w')
    (c2 : ∀ w, Calls Tryz.prog 20 #[.string a, .agg #[.bool g, .string e], .string m] w fun e w' => e = .returned (.tuple #[.string S2, .int .i64 v2]) ∧ Below w.heap.size w w')
    (r2 : ∀ w, Calls Tryz.prog 21 #[.string a, .agg #[.bool g, .string e], .string m] w fun e w' => e = .returned (.tuple #[.string S2, .int .i64 v2]) ∧ Below w.heap.size w w') :
    Calls Tryz.prog 4 #[.agg #[.string a, .string b, .bool g, .string e, .string m]] w fun r w' => r = .returned (.bool true) ∧ Below w.heap.size w w' := by
  have HF := Lib.hid h; clear h
  have H_c1 := Lib.hid c1; clear c1
  have H_r1 := Lib.hid r1; clear r1
  have H_c2 := Lib.hid c2; clear c2
  have H_r2 := Lib.hid r2; clear r2
  have k0 : Below w.heap.size w (w.alloc (.cells #[.string a, .string b, .bool g, .string e, .string m] 26)) := (Below.refl _ _).alloc (Nat.le_refl _) _
  have T0 := Num5.new w a b g e m 26
  have T0h := Lib.hid T0
  obtain ⟨q0, q1, q2, q3, q4, q5⟩ := T0
  go_enter Tryz.func4, Tryz.ntmps4
  go_wp2_with fail
  refine (few3_yes a b g e m _ HF.out).mono ?_; rintro r w1 ⟨rfl, b1⟩
  have T1 := Lib.hid (T0h.out.below b1); clear T0h q0 q1 q2 q3 q4 q5
  have B1 := Lib.hid (bnext k0 b1); clear b1
  obtain ⟨q0, q1, q2, q3, q4, q5⟩ := T1.out
  go_wp2_with fail
  refine (H_c1.out _).mono ?_; rintro r w2 ⟨rfl, b2⟩
  have T2 := Lib.hid (T1.out.below b2); clear T1 q0 q1 q2 q3 q4 q5
  have B2 := Lib.hid (bnext B1.out b2); clear b2 B1
  obtain ⟨q0, q1, q2, q3, q4, q5⟩ := T2.out
  go_wp2_with fail
  refine (H_r1.out _).mono ?_; rintro r w3 ⟨rfl, b3⟩
  have T3 := Lib.hid (T2.out.below b3); clear T2 q0 q1 q2 q3 q4 q5
  have B3 := Lib.hid (bnext B2.out b3); clear b3 B2
  obtain ⟨q0, q1, q2, q3, q4, q5⟩ := T3.out
  go_wp2_with fail
  refine (H_c2.out _).mono ?_; rintro r w4 ⟨rfl, b4⟩
  have T4 := Lib.hid (T3.out.below b4); clear T3 q0 q1 q2 q3 q4 q5
  have B4 := Lib.hid (bnext B3.out b4); clear b4 B3
  obtain ⟨q0, q1, q2, q3, q4, q5⟩ := T4.out
  go_wp2_with fail
  refine (H_r2.out _).mono ?_; rintro r w5 ⟨rfl, b5⟩
  have T5 := Lib.hid (T4.out.below b5); clear T4 q0 q1 q2 q3 q4 q5
  have B5 := Lib.hid (bnext B4.out b5); clear b5 B4
  go_wp2_with fail
  refine (awake3 _).mono ?_; rintro r w6 ⟨rfl, b6⟩
  have B6 := Lib.hid (bnext B5.out b6); clear b6 B5
  go_wp2
  go_ret
  exact ⟨rfl, B6.out⟩

theorem law_ModularRaises (a b : ByteArray) (g : Bool) (e m : ByteArray) (l1 : a.size ≤ maxLen) (l2 : b.size ≤ maxLen) (l3 : e.size ≤ maxLen) (l4 : m.size ≤ maxLen) (w : World) :
    Calls Tryz.prog 4 #[.agg #[.string a, .string b, .bool g, .string e, .string m]] w fun r w' => r = .returned (.bool true) ∧ Below w.heap.size w w' := by
  unfold maxLen at l1 l2 l3 l4
  by_cases h : Few3 a b e m
  · obtain ⟨S1, v1, h1, h2⟩ := exp_agree a e m (by have := h.2.2.2; omega)
    obtain ⟨S2, v2, h3, h4⟩ := power_agree a e m g (by have := h.2.2.2; omega)
    exact modularraises_yes a b g e m S1 S2 v1 v2 w h h1 h2 h3 h4
  · exact modularraises_skip a b g e m w (by omega) (by omega) (by omega) (by omega) h
end Go.Proofs.YtjbcicgbemepbaaGreatDoor


/-
  Layer 3's statements: Inverts.
-/
namespace Go.Proofs.YtjbcicgbemepbaaGreatDoor
open Go.RowKit
set_option linter.unusedVariables false

/-- What a drawn region keeps of a variable of the struct Numbers. -/
abbrev NumS (w : World) (p : Nat) (a b : ByteArray) (g : Bool) (e m : ByteArray) (w' : World) : Prop :=
  w'.cell? ⟨p, 0, none⟩ = some (.string a) ∧ w'.cell? ⟨p, 1, none⟩ = some (.string b) ∧ w'.cell? ⟨p, 2, none⟩ = some (.bool g) ∧ w'.cell? ⟨p, 3, none⟩ = some (.string e) ∧ w'.cell? ⟨p, 4, none⟩ = some (.string m) ∧ p < w'.heap.size ∧ Below w.heap.size w w'
theorem numS_next {w w1 w2 : World} {p : Nat} {a b e m : ByteArray} {g : Bool} (hb : Below w1.heap.size w1 w2) (h : NumS w p a b g e m w1) : NumS w p a b g e m w2 := by
  obtain ⟨h0, h1, h2, h3, h4, h5, h6⟩ := h
  obtain ⟨k0, k1, k2, k3, k4, k5⟩ := Num5.below ⟨h0, h1, h2, h3, h4, h5⟩ hb
  exact ⟨k0, k1, k2, k3, k4, k5, bnext h6 hb⟩
theorem numS_drew {w w1 : World} {p : Nat} {a b e m : ByteArray} {g : Bool} (h : NumS w p a b g e m w1) : NumS w p a b g e m w1.drew := numS_next (Below.refl _ _).drew h
theorem numS_below {w w1 : World} {p : Nat} {a b e m : ByteArray} {g : Bool} (h : NumS w p a b g e m w1) : Below w.heap.size w w1 := h.2.2.2.2.2.2
theorem gcd_of_inv {a x m : Nat} (h : a * x % m = 1 % m) : Nat.gcd (x % m) m = 1 := by
  rw [← Nat.gcd_rec, Nat.gcd_comm]
  have h1 : Nat.gcd x m ∣ a * x % m := by
    have d1 : Nat.gcd x m ∣ a * x := Nat.dvd_trans (Nat.gcd_dvd_left x m) (Nat.dvd_mul_left x a)
    exact (Nat.dvd_mod_iff (Nat.gcd_dvd_right x m)).2 d1
  rw [h] at h1
  have h2 : Nat.gcd x m ∣ 1 := (Nat.dvd_mod_iff (Nat.gcd_dvd_right x m)).1 h1
  exact Nat.dvd_one.1 h2

set_option maxHeartbeats 1000000 in
set_option maxRecDepth 20000 in
theorem modularinverts_skip (a b : ByteArray) (g : Bool) (e m : ByteArray) (w : World) (xa : a.size ≤ 9223372036854775807) (xb : b.size ≤ 9223372036854775807) (xe : e.size ≤ 9223372036854775807) (xm : m.size ≤ 9223372036854775807) (h : ¬ Few3 a b e m) :
    Calls Tryz.prog 5 #[.agg #[.string a, .string b, .bool g, .string e, .string m]] w fun r w' => r = .returned (.bool true) ∧ Below w.heap.size w w' := by
  have HF := Lib.hid h; clear h
  have k0 : Below w.heap.size w (w.alloc (.cells #[.string a, .string b, .bool g, .string e, .string m] 26)) := (Below.refl _ _).alloc (Nat.le_refl _) _
  obtain ⟨q0, q1, q2, q3, q4, q5⟩ := Num5.new w a b g e m 26
  go_enter Tryz.func5, Tryz.ntmps5
  go_wp2_with fail
  refine (few3_no a b g e m _ xa xb xe xm HF.out).mono ?_; rintro r w1 ⟨rfl, b1⟩
  have B1 := Lib.hid (bnext k0 b1); clear b1
  go_wp2_with fail
  refine (awake3 _).mono ?_; rintro r w2 ⟨rfl, b2⟩
  have B2 := Lib.hid (bnext B1.out b2); clear b2
  go_wp2
  go_ret
  exact ⟨rfl, B2.out⟩

set_option maxHeartbeats 2000000 in
set_option maxRecDepth 20000 in
theorem inverts_err (a b : ByteArray) (g : Bool) (e m : ByteArray) (S : ByteArray) (v : Int) (w : World) (h : Few3 a b e m)
    (h1 : ∀ w, Calls Tryz.prog 22 #[.string a, .string m] w fun r w' => r = .returned (.tuple #[.string S, .int .i64 v]) ∧ Below w.heap.size w w')
    (h2 : ∀ w, Calls Tryz.prog 23 #[.string a, .string m] w fun r w' => r = .returned (.tuple #[.string S, .int .i64 v]) ∧ Below w.heap.size w w')
    (Khv : (v != 0) = true) :
    Calls Tryz.prog 5 #[.agg #[.string a, .string b, .bool g, .string e, .string m]] w fun r w' => r = .returned (.bool true) ∧ Below w.heap.size w w' := by
  have H_h := Lib.hid h; clear h
  have H_h1 := Lib.hid h1; clear h1
  have H_h2 := Lib.hid h2; clear h2
  have k0 : Below w.heap.size w (w.alloc (.cells #[.string a, .string b, .bool g, .string e, .string m] 26)) := (Below.refl _ _).alloc (Nat.le_refl _) _
  have T0 := Num5.new w a b g e m 26
  have T0h := Lib.hid T0
  obtain ⟨q0, q1, q2, q3, q4, q5⟩ := T0
  go_enter Tryz.func5, Tryz.ntmps5
  go_wp2_with fail
  refine (few3_yes a b g e m _ H_h.out).mono ?_; rintro r w1 ⟨rfl, b1⟩
  have T1 := Lib.hid (T0h.out.below b1); clear T0h q0 q1 q2 q3 q4 q5
  have B1 := Lib.hid (bnext k0 b1); clear b1
  obtain ⟨q0, q1, q2, q3, q4, q5⟩ := T1.out
  go_wp2_with fail
  refine (H_h1.out _).mono ?_; rintro r w2 ⟨rfl, b2⟩
  have T2 := Lib.hid (T1.out.below b2); clear T1 q0 q1 q2 q3 q4 q5
  have B2 := Lib.hid (bnext B1.out b2); clear b2 B1
  obtain ⟨q0, q1, q2, q3, q4, q5⟩ := T2.out
  go_wp2_with fail
  refine (H_h2.out _).mono ?_; rintro r w3 ⟨rfl, b3⟩
  have T3 := Lib.hid (T2.out.below b3); clear T2 q0 q1 q2 q3 q4 q5
  have B3 := Lib.hid (bnext B2.out b3); clear b3 B2
  obtain ⟨q0, q1, q2, q3, q4, q5⟩ := T3.out
  go_wp2_with fail
  refine (awake3 _).mono ?_; rintro r w4 ⟨rfl, b4⟩
  have T4 := Lib.hid (T3.out.below b4); clear T3 q0 q1 q2 q3 q4 q5
  have B4 := Lib.hid (bnext B3.out b4); clear b4 B3
  go_wp2
  go_ret
  exact ⟨rfl, B4.out⟩

set_option maxHeartbeats 2000000 in
set_option maxRecDepth 20000 in
theorem inverts_yes (a b : ByteArray) (g : Bool) (e m : ByteArray) (S R one M1 M2 : ByteArray) (w : World) (h : Few3 a b e m)
    (h1 : ∀ w, Calls Tryz.prog 22 #[.string a, .string m] w fun r w' => r = .returned (.tuple #[.string S, .int .i64 0]) ∧ Below w.heap.size w w')
    (h2 : ∀ w, Calls Tryz.prog 23 #[.string a, .string m] w fun r w' => r = .returned (.tuple #[.string S, .int .i64 0]) ∧ Below w.heap.size w w')
    (h3 : ∀ w, Calls Tryz.prog 17 #[.string a, .string S, .string m] w fun r w' => r = .returned (.tuple #[.string M1, .int .i64 0]) ∧ Below w.heap.size w w')
    (h4 : ∀ w, Calls Tryz.prog 22 #[.string S, .string m] w fun r w' => r = .returned (.tuple #[.string M2, .int .i64 0]) ∧ Below w.heap.size w w')
    (h5 : ∀ w, Calls Tryz.prog 25 #[.int .u64 1] w fun r w' => r = .returned (.string one) ∧ Below w.heap.size w w')
    (h6 : ∀ w, Calls Tryz.prog 24 #[.string one, .string m] w fun r w' => r = .returned (.string M1) ∧ Below w.heap.size w w')
    (h7 : ∀ w, Calls Tryz.prog 24 #[.string a, .string m] w fun r w' => r = .returned (.string M2) ∧ Below w.heap.size w w') :
    Calls Tryz.prog 5 #[.agg #[.string a, .string b, .bool g, .string e, .string m]] w fun r w' => r = .returned (.bool true) ∧ Below w.heap.size w w' := by
  have H_h := Lib.hid h; clear h
  have H_h1 := Lib.hid h1; clear h1
  have H_h2 := Lib.hid h2; clear h2
  have H_h3 := Lib.hid h3; clear h3
  have H_h4 := Lib.hid h4; clear h4
  have H_h5 := Lib.hid h5; clear h5
  have H_h6 := Lib.hid h6; clear h6
  have H_h7 := Lib.hid h7; clear h7
  have k0 : Below w.heap.size w (w.alloc (.cells #[.string a, .string b, .bool g, .string e, .string m] 26)) := (Below.refl _ _).alloc (Nat.le_refl _) _
  have T0 := Num5.new w a b g e m 26
  have T0h := Lib.hid T0
  obtain ⟨q0, q1, q2, q3, q4, q5⟩ := T0
  go_enter Tryz.func5, Tryz.ntmps5
  go_wp2_with fail
  refine (few3_yes a b g e m _ H_h.out).mono ?_; rintro r w1 ⟨rfl, b1⟩
  have T1 := Lib.hid (T0h.out.below b1); clear T0h q0 q1 q2 q3 q4 q5
  have B1 := Lib.hid (bnext k0 b1); clear b1
  obtain ⟨q0, q1, q2, q3, q4, q5⟩ := T1.out
  go_wp2_with fail
  refine (H_h1.out _).mono ?_; rintro r w2 ⟨rfl, b2⟩
  have T2 := Lib.hid (T1.out.below b2); clear T1 q0 q1 q2 q3 q4 q5
  have B2 := Lib.hid (bnext B1.out b2); clear b2 B1
  obtain ⟨q0, q1, q2, q3, q4, q5⟩ := T2.out
  go_wp2_with fail
  refine (H_h2.out _).mono ?_; rintro r w3 ⟨rfl, b3⟩
  have T3 := Lib.hid (T2.out.below b3); clear T2 q0 q1 q2 q3 q4 q5
  have B3 := Lib.hid (bnext B2.out b3); clear b3 B2
  obtain ⟨q0, q1, q2, q3, q4, q5⟩ := T3.out
  go_wp2_with fail
  refine (H_h3.out _).mono ?_; rintro r w4 ⟨rfl, b4⟩
  have T4 := Lib.hid (T3.out.below b4); clear T3 q0 q1 q2 q3 q4 q5
  have B4 := Lib.hid (bnext B3.out b4); clear b4 B3
  obtain ⟨q0, q1, q2, q3, q4, q5⟩ := T4.out
  go_wp2_with fail
  refine (H_h4.out _).mono ?_; rintro r w5 ⟨rfl, b5⟩
  have T5 := Lib.hid (T4.out.below b5); clear T4 q0 q1 q2 q3 q4 q5
  have B5 := Lib.hid (bnext B4.out b5); clear b5 B4
  have NS0 : NumS w w.heap.size a b g e m w5 := ⟨T5.out.1, T5.out.2.1, T5.out.2.2.1, T5.out.2.2.2.1, T5.out.2.2.2.2.1, T5.out.2.2.2.2.2, B5.out⟩
  have NS0h := Lib.hid NS0; clear NS0
  go_wp2_with fail
  go_region_held3 (fun w' => w'.cell? ⟨w.heap.size, 0, none⟩ = some (.string a) ∧ w'.cell? ⟨w.heap.size, 1, none⟩ = some (.string b) ∧ w'.cell? ⟨w.heap.size, 2, none⟩ = some (.bool g) ∧ w'.cell? ⟨w.heap.size, 3, none⟩ = some (.string e) ∧ w'.cell? ⟨w.heap.size, 4, none⟩ = some (.string m) ∧ w.heap.size < w'.heap.size ∧ Below w.heap.size w w') (first | exact numS_drew NS0h.out | exact NS0h.out | exact numS_next b99 (by assumption) | assumption)
    (first
    | (go_at_call 11; ((with_reducible refine (awake3 _).mono ?_); rintro r w99 ⟨rfl, b99⟩))
    | (go_at_call 25; ((with_reducible refine (H_h5.out _).mono ?_); rintro r w99 ⟨rfl, b99⟩))
    | (go_at_call 24; ((with_reducible refine (H_h6.out _).mono ?_); rintro r w99 ⟨rfl, b99⟩))
    | (go_at_call 24; ((with_reducible refine (H_h7.out _).mono ?_); rintro r w99 ⟨rfl, b99⟩)))
  all_goals go_wp2
  all_goals go_ret
  all_goals exact ⟨rfl, numS_below (w := w) (by assumption)⟩

theorem law_ModularInverts (a b : ByteArray) (g : Bool) (e m : ByteArray) (l1 : a.size ≤ maxLen) (l2 : b.size ≤ maxLen) (l3 : e.size ≤ maxLen) (l4 : m.size ≤ maxLen) (w : World) :
    Calls Tryz.prog 5 #[.agg #[.string a, .string b, .bool g, .string e, .string m]] w fun r w' => r = .returned (.bool true) ∧ Below w.heap.size w w' := by
  unfold maxLen at l1 l2 l3 l4
  by_cases h : Few3 a b e m
  · have hm8 := h.2.2.2
    obtain ⟨S, v, h1, h2, h3⟩ := inv_agree a m (by omega)
    rcases h3 with ⟨hv, -⟩ | ⟨rfl, ha, hm, h0, x, rfl, hx1, hx2⟩
    · exact inverts_err a b g e m S v w h h1 h2 hv
    · have hmp := can_pos hm h0
      have cx : Can (E x) := can_E' (Nat.lt_trans hx1 (V_lim hm))
      have hg := gcd_of_inv hx2
      have h3 := fun w => rmul_m a (E x) m w ha cx hm h0 (by omega)
      rw [V_E, hx2] at h3
      have h4 : ∀ w, Calls Tryz.prog 22 #[.string (E x), .string m] w fun r w' => r = .returned (.tuple #[.string (E (V a % V m)), .int .i64 0]) ∧ Below w.heap.size w w' := fun w => by
        refine (minv_yes (E x) m w cx hm h0 (by rw [V_E]; exact hg)).mono ?_
        rintro r w' ⟨⟨y, rfl, hy1, hy2⟩, hb⟩
        rw [V_E] at hy2
        have e1 : x * (V a % V m) % V m = 1 % V m := by rw [Nat.mul_mod, Nat.mod_mod, ← Nat.mul_mod, Nat.mul_comm]; exact hx2
        rw [inv_unique hy1 (Nat.mod_lt _ hmp) hy2 e1]
        exact ⟨rfl, hb⟩
      have h6 := fun w => rmod_any (E 1) m w (cs 1 (by omega)) hm hmp
      rw [V_E] at h6
      exact inverts_yes a b g e m _ ⟨#[]⟩ _ _ _ w h h1 h2 h3 h4 (fun w => num3 1 w (by omega)) h6 (fun w => rmod_any a m w ha hm hmp)
  · exact modularinverts_skip a b g e m w (by omega) (by omega) (by omega) (by omega) h
end Go.Proofs.YtjbcicgbemepbaaGreatDoor


/-
  Layer 3's statements: Joins.
-/
namespace Go.Proofs.YtjbcicgbemepbaaGreatDoor
open Go.RowKit
set_option linter.unusedVariables false

/-- The four cells of a variable of the struct Pair. -/
def Pair4 (w : World) (p : Nat) (a m b n : ByteArray) : Prop :=
  w.cell? ⟨p, 0, none⟩ = some (.string a) ∧ w.cell? ⟨p, 1, none⟩ = some (.string m) ∧ w.cell? ⟨p, 2, none⟩ = some (.string b) ∧ w.cell? ⟨p, 3, none⟩ = some (.string n) ∧ p < w.heap.size
theorem Pair4.new (w : World) (a m b n : ByteArray) (t : TypeId) : Pair4 (w.alloc (.cells #[.string a, .string m, .string b, .string n] t)) w.heap.size a m b n := by
  have hr : (w.alloc (.cells #[.string a, .string m, .string b, .string n] t)).rowIs w.heap.size t 4 (fun i => (#[.string a, .string m, .string b, .string n] : Array Value)[i]?.getD (.bool false)) :=
    World.rowIs_alloc w _ _ _ (fun i hi => by simp at hi ⊢; simp [hi])
  exact ⟨hr.cell (by omega), hr.cell (by omega), hr.cell (by omega), hr.cell (by omega), by simp⟩
theorem Pair4.below {w w' : World} {p : Nat} {a m b n : ByteArray} (h : Pair4 w p a m b n) (hb : Below w.heap.size w w') : Pair4 w' p a m b n := by
  obtain ⟨h0, h1, h2, h3, h5⟩ := h
  exact ⟨(hb.cell (p := ⟨p, 0, none⟩) h5).trans h0, (hb.cell (p := ⟨p, 1, none⟩) h5).trans h1, (hb.cell (p := ⟨p, 2, none⟩) h5).trans h2, (hb.cell (p := ⟨p, 3, none⟩) h5).trans h3, Nat.lt_of_lt_of_le h5 hb.size⟩
/-- A number without a common divisor has an inverse. -/
theorem unit_of_gcd {a n : Nat} (hn : 0 < n) (hl : n < Lim) (h : Nat.gcd (a % n) n = 1) : ∃ u, a * u % n = 1 % n := by
  obtain ⟨g, x, y, hP⟩ := ext_exists (a := a % n) (b := n) (Nat.lt_trans (Nat.mod_lt _ hn) hl) hl
  exact ⟨_, (inv_of_ext hP hn (hP.1.trans h)).2.2⟩
theorem join_exists {A M B N : Nat} (hM : 0 < M) (hN : 0 < N) (hNl : N < Lim) (hAB : A % Nat.gcd M N = B % Nat.gcd M N) :
    ∃ x, x % M = A % M ∧ x % N = B % N ∧ x < M * (N / Nat.gcd M N) := by
  have hg0 : 0 < Nat.gcd M N := Nat.gcd_pos_of_pos_left _ hM
  have hnp0 : 0 < N / Nat.gcd M N := Nat.div_pos (Nat.le_of_dvd hN (Nat.gcd_dvd_right _ _)) hg0
  have hcop := gcd_parts (N := N) hM rfl
  obtain ⟨u, hu⟩ := unit_of_gcd hnp0 (Nat.lt_of_le_of_lt (Nat.div_le_self _ _) hNl) hcop
  exact ⟨_, join_num hM hN rfl rfl rfl hAB rfl rfl hu rfl⟩
theorem pow24 : 256 ^ 12 * 256 ^ 12 ≤ Lim := by rw [lim_eq]; decide +kernel
theorem join_agree (a m b n : ByteArray) (hm12 : m.size ≤ 12) (hn12 : n.size ≤ 12) : ∃ (S1 S2 : ByteArray) (v : Int),
    (∀ w, Calls Tryz.prog 26 #[.string a, .string m, .string b, .string n] w fun e w' => e = .returned (.tuple #[.string S1, .string S2, .int .i64 v]) ∧ Below w.heap.size w w') ∧
    (∀ w, Calls Tryz.prog 27 #[.string a, .string m, .string b, .string n] w fun e w' => e = .returned (.tuple #[.string S1, .string S2, .int .i64 v]) ∧ Below w.heap.size w w') := by
  by_cases hc : Can m ∧ ∀ s, s ∈ [a, b, n] → Can s
  · have ha : Can a := hc.2 a (by simp)
    have hb : Can b := hc.2 b (by simp)
    have hn : Can n := hc.2 n (by simp)
    have hm : Can m := hc.1
    by_cases h0 : m.size = 0
    · exact ⟨_, _, 11, fun w => mjoin_err a m b n 11 w (fun c h => h.zero hc h0) (by decide), fun w => rjoin_zero1 a m b n w ha hm hb hn h0⟩
    · by_cases h1 : n.size = 0
      · exact ⟨_, _, 11, fun w => mjoin_zero a m b n w (fun c h => h.ok hc.1 (by omega) hc.2) h1, fun w => rjoin_zero2 a m b n w ha hm hb hn h0 h1⟩
      · have h0 : 0 < m.size := by omega
        have h1 : 0 < n.size := by omega
        by_cases hAB : V a % Nat.gcd (V m) (V n) = V b % Nat.gcd (V m) (V n)
        · have e1 : V m < 256 ^ 12 := (can_lt hm 12).2 hm12
          have e2 : V n < 256 ^ 12 := (can_lt hn 12).2 hn12
          have hl : V m * (V n / Nat.gcd (V m) (V n)) < Lim :=
            Nat.lt_of_lt_of_le (Nat.mul_lt_mul'' e1 (Nat.lt_of_le_of_lt (Nat.div_le_self _ _) e2)) pow24
          have hmp := can_pos hm h0
          have hnp := can_pos hn h1
          have hex : ∃ x, x % V m = V a % V m ∧ x % V n = V b % V n ∧ x < V m * (V n / Nat.gcd (V m) (V n)) := join_exists hmp hnp (V_lim hn) hAB
          obtain ⟨x, hx1, hx2, hx3⟩ := hex
          have both : ∀ e, JoinP (V a) (V m) (V b) (V n) e → e = .returned (.tuple #[.string (E x), .string (E (V m * (V n / Nat.gcd (V m) (V n)))), .int .i64 0]) := by
            rintro e ⟨y, rfl, hy1, hy2, hy3⟩
            rw [join_one hmp hy3 hx3 (hy1.trans hx1.symm) (hy2.trans hx2.symm)]
          exact ⟨_, _, 0, fun w => (mjoin_ok a m b n w ha hm hb hn h0 h1 hAB hl).mono (fun e w' h => ⟨both e h.1, h.2⟩), fun w => (rjoin_ok a m b n w ha hm hb hn h0 h1 (by omega) hAB hl).mono (fun e w' h => ⟨both e h.1, h.2⟩)⟩
        · exact ⟨_, _, 9, fun w => mjoin_none a m b n w ha hm hb hn h0 h1 hAB, fun w => rjoin_none a m b n w ha hm hb hn h0 h1 hAB⟩
  · refine ⟨_, _, 3, fun w => mjoin_err a m b n 3 w (fun c h => h.form hc) (by decide), fun w => ?_⟩
    by_cases ha : Can a
    · by_cases hm : Can m
      · by_cases hb : Can b
        · exact rjoin_bad3 a m b n w ha hm hb (fun hn => hc ⟨hm, by intro s hs; simp at hs; rcases hs with rfl | rfl | rfl; exact ha; exact hb; exact hn⟩)
        · exact rjoin_bad2 a m b n w ha hm hb
      · exact rjoin_bad1 a m b n w ha hm
    · exact rjoin_bad0 a m b n w ha

set_option maxHeartbeats 1000000 in
set_option maxRecDepth 20000 in
theorem joins_skip0 (a m b n : ByteArray) (w : World) (xa : a.size ≤ 9223372036854775807) (xm : m.size ≤ 9223372036854775807) (xb : b.size ≤ 9223372036854775807) (xn : n.size ≤ 9223372036854775807) (ha : (16 : Int) < a.size) :
    Calls Tryz.prog 6 #[.agg #[.string a, .string m, .string b, .string n]] w fun r w' => r = .returned (.bool true) ∧ Below w.heap.size w w' := by
  have k0 : Below w.heap.size w (w.alloc (.cells #[.string a, .string m, .string b, .string n] 42)) := (Below.refl _ _).alloc (Nat.le_refl _) _
  have T0 := Pair4.new w a m b n 42
  have T0h := Lib.hid T0
  obtain ⟨q0, q1, q2, q3, q4⟩ := T0
  go_enter Tryz.func6, Tryz.ntmps6
  go_wp2_with fail
  refine (awake3 _).mono ?_; rintro r w1 ⟨rfl, b1⟩
  have B1 := Lib.hid (bnext k0 b1); clear b1
  go_wp2
  go_ret
  exact ⟨rfl, B1.out⟩

set_option maxHeartbeats 1000000 in
set_option maxRecDepth 20000 in
theorem joins_skip1 (a m b n : ByteArray) (w : World) (xa : a.size ≤ 9223372036854775807) (xm : m.size ≤ 9223372036854775807) (xb : b.size ≤ 9223372036854775807) (xn : n.size ≤ 9223372036854775807) (ha : ¬ (16 : Int) < a.size) (hb : (16 : Int) < b.size) :
    Calls Tryz.prog 6 #[.agg #[.string a, .string m, .string b, .string n]] w fun r w' => r = .returned (.bool true) ∧ Below w.heap.size w w' := by
  have k0 : Below w.heap.size w (w.alloc (.cells #[.string a, .string m, .string b, .string n] 42)) := (Below.refl _ _).alloc (Nat.le_refl _) _
  have T0 := Pair4.new w a m b n 42
  have T0h := Lib.hid T0
  obtain ⟨q0, q1, q2, q3, q4⟩ := T0
  go_enter Tryz.func6, Tryz.ntmps6
  go_wp2_with fail
  refine (awake3 _).mono ?_; rintro r w1 ⟨rfl, b1⟩
  have B1 := Lib.hid (bnext k0 b1); clear b1
  go_wp2
  go_ret
  exact ⟨rfl, B1.out⟩

set_option maxHeartbeats 1000000 in
set_option maxRecDepth 20000 in
theorem joins_skip2 (a m b n : ByteArray) (w : World) (xa : a.size ≤ 9223372036854775807) (xm : m.size ≤ 9223372036854775807) (xb : b.size ≤ 9223372036854775807) (xn : n.size ≤ 9223372036854775807) (ha : ¬ (16 : Int) < a.size) (hb : ¬ (16 : Int) < b.size) (hm : (12 : Int) < m.size) :
    Calls Tryz.prog 6 #[.agg #[.string a, .string m, .string b, .string n]] w fun r w' => r = .returned (.bool true) ∧ Below w.heap.size w w' := by
  have k0 : Below w.heap.size w (w.alloc (.cells #[.string a, .string m, .string b, .string n] 42)) := (Below.refl _ _).alloc (Nat.le_refl _) _
  have T0 := Pair4.new w a m b n 42
  have T0h := Lib.hid T0
  obtain ⟨q0, q1, q2, q3, q4⟩ := T0
  go_enter Tryz.func6, Tryz.ntmps6
  go_wp2_with fail
  refine (awake3 _).mono ?_; rintro r w1 ⟨rfl, b1⟩
  have B1 := Lib.hid (bnext k0 b1); clear b1
  go_wp2
  go_ret
  exact ⟨rfl, B1.out⟩

set_option maxHeartbeats 1000000 in
set_option maxRecDepth 20000 in
theorem joins_skip3 (a m b n : ByteArray) (w : World) (xa : a.size ≤ 9223372036854775807) (xm : m.size ≤ 9223372036854775807) (xb : b.size ≤ 9223372036854775807) (xn : n.size ≤ 9223372036854775807) (ha : ¬ (16 : Int) < a.size) (hb : ¬ (16 : Int) < b.size) (hm : ¬ (12 : Int) < m.size) (hn : (12 : Int) < n.size) :
    Calls Tryz.prog 6 #[.agg #[.string a, .string m, .string b, .string n]] w fun r w' => r = .returned (.bool true) ∧ Below w.heap.size w w' := by
  have k0 : Below w.heap.size w (w.alloc (.cells #[.string a, .string m, .string b, .string n] 42)) := (Below.refl _ _).alloc (Nat.le_refl _) _
  have T0 := Pair4.new w a m b n 42
  have T0h := Lib.hid T0
  obtain ⟨q0, q1, q2, q3, q4⟩ := T0
  go_enter Tryz.func6, Tryz.ntmps6
  go_wp2_with fail
  refine (awake3 _).mono ?_; rintro r w1 ⟨rfl, b1⟩
  have B1 := Lib.hid (bnext k0 b1); clear b1
  go_wp2
  go_ret
  exact ⟨rfl, B1.out⟩

set_option maxHeartbeats 1000000 in
set_option maxRecDepth 20000 in
theorem joins_yes (a m b n : ByteArray) (S1 S2 : ByteArray) (v : Int) (w : World) (xa : a.size ≤ 9223372036854775807) (xm : m.size ≤ 9223372036854775807) (xb : b.size ≤ 9223372036854775807) (xn : n.size ≤ 9223372036854775807) (ha : ¬ (16 : Int) < a.size) (hb : ¬ (16 : Int) < b.size) (hm : ¬ (12 : Int) < m.size) (hn : ¬ (12 : Int) < n.size)
    (h1 : ∀ w, Calls Tryz.prog 26 #[.string a, .string m, .string b, .string n] w fun e w' => e = .returned (.tuple #[.string S1, .string S2, .int .i64 v]) ∧ Below w.heap.size w w')
    (h2 : ∀ w, Calls Tryz.prog 27 #[.string a, .string m, .string b, .string n] w fun e w' => e = .returned (.tuple #[.string S1, .string S2, .int .i64 v]) ∧ Below w.heap.size w w') :
    Calls Tryz.prog 6 #[.agg #[.string a, .string m, .string b, .string n]] w fun r w' => r = .returned (.bool true) ∧ Below w.heap.size w w' := by
  have H1 := Lib.hid h1; clear h1
  have H2 := Lib.hid h2; clear h2
  have k0 : Below w.heap.size w (w.alloc (.cells #[.string a, .string m, .string b, .string n] 42)) := (Below.refl _ _).alloc (Nat.le_refl _) _
  have T0 := Pair4.new w a m b n 42
  have T0h := Lib.hid T0
  obtain ⟨q0, q1, q2, q3, q4⟩ := T0
  go_enter Tryz.func6, Tryz.ntmps6
  go_wp2_with fail
  refine (H1.out _).mono ?_; rintro r w1 ⟨rfl, b1⟩
  have T1 := Lib.hid (T0h.out.below b1); clear T0h q0 q1 q2 q3 q4
  have B1 := Lib.hid (bnext k0 b1); clear b1
  obtain ⟨q0, q1, q2, q3, q4⟩ := T1.out
  go_wp2_with fail
  refine (H2.out _).mono ?_; rintro r w2 ⟨rfl, b2⟩
  have B2 := Lib.hid (bnext B1.out b2); clear b2 q0 q1 q2 q3 q4
  go_wp2_with fail
  refine (awake3 _).mono ?_; rintro r w3 ⟨rfl, b3⟩
  have B3 := Lib.hid (bnext B2.out b3); clear b3
  go_wp2
  go_ret
  exact ⟨rfl, B3.out⟩

theorem law_ModularJoins (a m b n : ByteArray) (l1 : a.size ≤ maxLen) (l2 : m.size ≤ maxLen) (l3 : b.size ≤ maxLen) (l4 : n.size ≤ maxLen) (w : World) :
    Calls Tryz.prog 6 #[.agg #[.string a, .string m, .string b, .string n]] w fun r w' => r = .returned (.bool true) ∧ Below w.heap.size w w' := by
  unfold maxLen at l1 l2 l3 l4
  by_cases ha : (16 : Int) < a.size
  · exact joins_skip0 a m b n w (by omega) (by omega) (by omega) (by omega) ha
  · by_cases hb : (16 : Int) < b.size
    · exact joins_skip1 a m b n w (by omega) (by omega) (by omega) (by omega) ha hb
    · by_cases hm : (12 : Int) < m.size
      · exact joins_skip2 a m b n w (by omega) (by omega) (by omega) (by omega) ha hb hm
      · by_cases hn : (12 : Int) < n.size
        · exact joins_skip3 a m b n w (by omega) (by omega) (by omega) (by omega) ha hb hm hn
        · obtain ⟨S1, S2, v, h1, h2⟩ := join_agree a m b n (by omega) (by omega)
          exact joins_yes a m b n S1 S2 v w (by omega) (by omega) (by omega) (by omega) ha hb hm hn h1 h2
end Go.Proofs.YtjbcicgbemepbaaGreatDoor


/-
  Layer 3's statements: Exponents.
-/
namespace Go.Proofs.YtjbcicgbemepbaaGreatDoor
open Go.RowKit
set_option linter.unusedVariables false

set_option maxHeartbeats 4000000 in
set_option maxRecDepth 100000 in
theorem exps_skip (a b : ByteArray) (g : Bool) (e m : ByteArray) (k1 k2 : Int) (w : World) (xa : a.size ≤ 9223372036854775807) (xb : b.size ≤ 9223372036854775807) (xe : e.size ≤ 9223372036854775807) (xm : m.size ≤ 9223372036854775807) (h : ¬ Few3 a b e m) :
    Calls Tryz.prog 9 #[.agg #[.string a, .string b, .bool g, .string e, .string m], .int .u16 k1, .int .u16 k2] w fun r w' => r = .returned (.bool true) ∧ Below w.heap.size w w' := by
  have H_h := Lib.hid h; clear h
  have k0 : Below w.heap.size w (w.alloc (.cells #[.string a, .string b, .bool g, .string e, .string m] 26)) := (Below.refl _ _).alloc (Nat.le_refl _) _
  have T0 := Num5.new w a b g e m 26
  have T0h := Lib.hid T0
  obtain ⟨q0, q1, q2, q3, q4, q5⟩ := T0
  go_enter Tryz.func9, Tryz.ntmps9
  go_wp2_with fail
  refine (few3_no a b g e m _ xa xb xe xm H_h.out).mono ?_; rintro r w1 ⟨rfl, b1⟩
  have T1 := Lib.hid (T0h.out.below b1); clear T0h q0 q1 q2 q3 q4 q5
  have B1 := Lib.hid (bnext k0 b1); clear b1
  obtain ⟨q0, q1, q2, q3, q4, q5⟩ := T1.out
  go_wp2_with fail
  refine (awake3 _).mono ?_; rintro r w2 ⟨rfl, b2⟩
  have T2 := Lib.hid (T1.out.below b2); clear T1 q0 q1 q2 q3 q4 q5
  have B2 := Lib.hid (bnext B1.out b2); clear b2 B1
  obtain ⟨q0, q1, q2, q3, q4, q5⟩ := T2.out
  go_wp2
  go_ret
  exact ⟨rfl, B2.out⟩

set_option maxHeartbeats 4000000 in
set_option maxRecDepth 100000 in
theorem exps_bad1 (a b : ByteArray) (g : Bool) (e m : ByteArray) (k1 k2 : Int) (w : World) (xa : a.size ≤ 9223372036854775807) (xb : b.size ≤ 9223372036854775807) (xe : e.size ≤ 9223372036854775807) (xm : m.size ≤ 9223372036854775807) (h : Few3 a b e m) (ca : ¬ Can a) :
    Calls Tryz.prog 9 #[.agg #[.string a, .string b, .bool g, .string e, .string m], .int .u16 k1, .int .u16 k2] w fun r w' => r = .returned (.bool true) ∧ Below w.heap.size w w' := by
  have H_h := Lib.hid h; clear h
  have H_ca := Lib.hid ca; clear ca
  have k0 : Below w.heap.size w (w.alloc (.cells #[.string a, .string b, .bool g, .string e, .string m] 26)) := (Below.refl _ _).alloc (Nat.le_refl _) _
  have T0 := Num5.new w a b g e m 26
  have T0h := Lib.hid T0
  obtain ⟨q0, q1, q2, q3, q4, q5⟩ := T0
  go_enter Tryz.func9, Tryz.ntmps9
  go_wp2_with fail
  refine (few3_yes a b g e m _ H_h.out).mono ?_; rintro r w1 ⟨rfl, b1⟩
  have T1 := Lib.hid (T0h.out.below b1); clear T0h q0 q1 q2 q3 q4 q5
  have B1 := Lib.hid (bnext k0 b1); clear b1
  obtain ⟨q0, q1, q2, q3, q4, q5⟩ := T1.out
  go_wp2_with fail
  refine (rvalid_no a _ H_ca.out).mono ?_; rintro r wx ⟨rfl, rfl⟩
  go_wp2_with fail
  refine (awake3 _).mono ?_; rintro r w2 ⟨rfl, b2⟩
  have T2 := Lib.hid (T1.out.below b2); clear T1 q0 q1 q2 q3 q4 q5
  have B2 := Lib.hid (bnext B1.out b2); clear b2 B1
  obtain ⟨q0, q1, q2, q3, q4, q5⟩ := T2.out
  go_wp2
  go_ret
  exact ⟨rfl, B2.out⟩

set_option maxHeartbeats 4000000 in
set_option maxRecDepth 100000 in
theorem exps_bad2 (a b : ByteArray) (g : Bool) (e m : ByteArray) (k1 k2 : Int) (w : World) (xa : a.size ≤ 9223372036854775807) (xb : b.size ≤ 9223372036854775807) (xe : e.size ≤ 9223372036854775807) (xm : m.size ≤ 9223372036854775807) (h : Few3 a b e m) (ca : Can a) (cm : ¬ Can m) :
    Calls Tryz.prog 9 #[.agg #[.string a, .string b, .bool g, .string e, .string m], .int .u16 k1, .int .u16 k2] w fun r w' => r = .returned (.bool true) ∧ Below w.heap.size w w' := by
  have H_h := Lib.hid h; clear h
  have H_ca := Lib.hid ca; clear ca
  have H_cm := Lib.hid cm; clear cm
  have k0 : Below w.heap.size w (w.alloc (.cells #[.string a, .string b, .bool g, .string e, .string m] 26)) := (Below.refl _ _).alloc (Nat.le_refl _) _
  have T0 := Num5.new w a b g e m 26
  have T0h := Lib.hid T0
  obtain ⟨q0, q1, q2, q3, q4, q5⟩ := T0
  go_enter Tryz.func9, Tryz.ntmps9
  go_wp2_with fail
  refine (few3_yes a b g e m _ H_h.out).mono ?_; rintro r w1 ⟨rfl, b1⟩
  have T1 := Lib.hid (T0h.out.below b1); clear T0h q0 q1 q2 q3 q4 q5
  have B1 := Lib.hid (bnext k0 b1); clear b1
  obtain ⟨q0, q1, q2, q3, q4, q5⟩ := T1.out
  go_wp2_with fail
  refine (rvalid_yes a _ H_ca.out).mono ?_; rintro r wx ⟨rfl, rfl⟩
  go_wp2_with fail
  refine (rvalid_no m _ H_cm.out).mono ?_; rintro r wx ⟨rfl, rfl⟩
  go_wp2_with fail
  refine (awake3 _).mono ?_; rintro r w2 ⟨rfl, b2⟩
  have T2 := Lib.hid (T1.out.below b2); clear T1 q0 q1 q2 q3 q4 q5
  have B2 := Lib.hid (bnext B1.out b2); clear b2 B1
  obtain ⟨q0, q1, q2, q3, q4, q5⟩ := T2.out
  go_wp2
  go_ret
  exact ⟨rfl, B2.out⟩

set_option maxHeartbeats 4000000 in
set_option maxRecDepth 100000 in
theorem exps_zero (a b : ByteArray) (g : Bool) (e m : ByteArray) (k1 k2 : Int) (w : World) (xa : a.size ≤ 9223372036854775807) (xb : b.size ≤ 9223372036854775807) (xe : e.size ≤ 9223372036854775807) (xm : m.size ≤ 9223372036854775807) (h : Few3 a b e m) (ca : Can a) (cm : Can m) (hE : m.toList.isEmpty = true) :
    Calls Tryz.prog 9 #[.agg #[.string a, .string b, .bool g, .string e, .string m], .int .u16 k1, .int .u16 k2] w fun r w' => r = .returned (.bool true) ∧ Below w.heap.size w w' := by
  have H_h := Lib.hid h; clear h
  have H_ca := Lib.hid ca; clear ca
  have H_cm := Lib.hid cm; clear cm
  have k0 : Below w.heap.size w (w.alloc (.cells #[.string a, .string b, .bool g, .string e, .string m] 26)) := (Below.refl _ _).alloc (Nat.le_refl _) _
  have T0 := Num5.new w a b g e m 26
  have T0h := Lib.hid T0
  obtain ⟨q0, q1, q2, q3, q4, q5⟩ := T0
  go_enter Tryz.func9, Tryz.ntmps9
  go_wp2_with fail
  refine (few3_yes a b g e m _ H_h.out).mono ?_; rintro r w1 ⟨rfl, b1⟩
  have T1 := Lib.hid (T0h.out.below b1); clear T0h q0 q1 q2 q3 q4 q5
  have B1 := Lib.hid (bnext k0 b1); clear b1
  obtain ⟨q0, q1, q2, q3, q4, q5⟩ := T1.out
  go_wp2_with fail
  refine (rvalid_yes a _ H_ca.out).mono ?_; rintro r wx ⟨rfl, rfl⟩
  go_wp2_with fail
  refine (rvalid_yes m _ H_cm.out).mono ?_; rintro r wx ⟨rfl, rfl⟩
  go_wp2_with fail
  refine (awake3 _).mono ?_; rintro r w2 ⟨rfl, b2⟩
  have T2 := Lib.hid (T1.out.below b2); clear T1 q0 q1 q2 q3 q4 q5
  have B2 := Lib.hid (bnext B1.out b2); clear b2 B1
  obtain ⟨q0, q1, q2, q3, q4, q5⟩ := T2.out
  go_wp2
  go_ret
  exact ⟨rfl, B2.out⟩

set_option maxHeartbeats 4000000 in
set_option maxRecDepth 100000 in
theorem exps_none (a b : ByteArray) (g : Bool) (e m : ByteArray) (k1 k2 : Int) (s p z : Int) (N1 N2 N3 N4 A1 A2 A3 A4 SZ : ByteArray) (GZ : Bool) (w : World) (xa : a.size ≤ 9223372036854775807) (xb : b.size ≤ 9223372036854775807) (xe : e.size ≤ 9223372036854775807) (xm : m.size ≤ 9223372036854775807) (h : Few3 a b e m) (ca : Can a) (cm : Can m) (hE : m.toList.isEmpty = false)
    (u1 : IntKind.u64.wrap k1 = k1) (u2 : IntKind.u64.wrap k2 = k2) (u3 : IntKind.u64.wrap (k1 + k2) = s) (u4 : IntKind.u64.wrap (k1 * k2) = p) (u5 : IntKind.i64.wrap k1 = k1) (u6 : IntKind.i64.wrap (-k1) = z) (u7 : wrap64 (-k1) = z) (u8 : wrap64 k1 = k1) (hk : 0 < k1)
    (n1 : ∀ w, Calls Tryz.prog 25 #[.int .u64 k1] w fun r w' => r = .returned (.string N1) ∧ Below w.heap.size w w')
    (n2 : ∀ w, Calls Tryz.prog 25 #[.int .u64 k2] w fun r w' => r = .returned (.string N2) ∧ Below w.heap.size w w')
    (n3 : ∀ w, Calls Tryz.prog 25 #[.int .u64 s] w fun r w' => r = .returned (.string N3) ∧ Below w.heap.size w w')
    (n4 : ∀ w, Calls Tryz.prog 25 #[.int .u64 p] w fun r w' => r = .returned (.string N4) ∧ Below w.heap.size w w')
    (e1 : ∀ w, Calls Tryz.prog 18 #[.string a, .string N1, .string m] w fun r w' => r = .returned (.tuple #[.string A1, .int .i64 0]) ∧ Below w.heap.size w w')
    (e2 : ∀ w, Calls Tryz.prog 18 #[.string a, .string N2, .string m] w fun r w' => r = .returned (.tuple #[.string A2, .int .i64 0]) ∧ Below w.heap.size w w')
    (e3 : ∀ w, Calls Tryz.prog 18 #[.string a, .string N3, .string m] w fun r w' => r = .returned (.tuple #[.string A3, .int .i64 0]) ∧ Below w.heap.size w w')
    (mu : ∀ w, Calls Tryz.prog 16 #[.string A1, .string A2, .string m] w fun r w' => r = .returned (.tuple #[.string A3, .int .i64 0]) ∧ Below w.heap.size w w')
    (e4 : ∀ w, Calls Tryz.prog 18 #[.string a, .string N4, .string m] w fun r w' => r = .returned (.tuple #[.string A4, .int .i64 0]) ∧ Below w.heap.size w w')
    (e5 : ∀ w, Calls Tryz.prog 18 #[.string A1, .string N2, .string m] w fun r w' => r = .returned (.tuple #[.string A4, .int .i64 0]) ∧ Below w.heap.size w w')
    (of : ∀ w, Calls Tryz.prog 31 #[.int .i64 z] w fun r w' => r = .returned (.agg #[.bool GZ, .string SZ]) ∧ Below w.heap.size w w')
    (po : ∀ w, Calls Tryz.prog 20 #[.string a, .agg #[.bool GZ, .string SZ], .string m] w fun r w' => r = .returned (.tuple #[.string ⟨#[]⟩, .int .i64 9]) ∧ Below w.heap.size w w') :
    Calls Tryz.prog 9 #[.agg #[.string a, .string b, .bool g, .string e, .string m], .int .u16 k1, .int .u16 k2] w fun r w' => r = .returned (.bool true) ∧ Below w.heap.size w w' := by
  have H_h := Lib.hid h; clear h
  have H_ca := Lib.hid ca; clear ca
  have H_cm := Lib.hid cm; clear cm
  have H_n1 := Lib.hid n1; clear n1
  have H_n2 := Lib.hid n2; clear n2
  have H_n3 := Lib.hid n3; clear n3
  have H_n4 := Lib.hid n4; clear n4
  have H_e1 := Lib.hid e1; clear e1
  have H_e2 := Lib.hid e2; clear e2
  have H_e3 := Lib.hid e3; clear e3
  have H_mu := Lib.hid mu; clear mu
  have H_e4 := Lib.hid e4; clear e4
  have H_e5 := Lib.hid e5; clear e5
  have H_of := Lib.hid of; clear of
  have H_po := Lib.hid po; clear po
  have k0 : Below w.heap.size w (w.alloc (.cells #[.string a, .string b, .bool g, .string e, .string m] 26)) := (Below.refl _ _).alloc (Nat.le_refl _) _
  have T0 := Num5.new w a b g e m 26
  have T0h := Lib.hid T0
  obtain ⟨q0, q1, q2, q3, q4, q5⟩ := T0
  go_enter Tryz.func9, Tryz.ntmps9
  go_wp2_with fail
  refine (few3_yes a b g e m _ H_h.out).mono ?_; rintro r w1 ⟨rfl, b1⟩
  have T1 := Lib.hid (T0h.out.below b1); clear T0h q0 q1 q2 q3 q4 q5
  have B1 := Lib.hid (bnext k0 b1); clear b1
  obtain ⟨q0, q1, q2, q3, q4, q5⟩ := T1.out
  go_wp2_with fail
  refine (rvalid_yes a _ H_ca.out).mono ?_; rintro r wx ⟨rfl, rfl⟩
  go_wp2_with fail
  refine (rvalid_yes m _ H_cm.out).mono ?_; rintro r wx ⟨rfl, rfl⟩
  have NS0 : NumS w w.heap.size a b g e m w1 := ⟨q0, q1, q2, q3, q4, q5, B1.out⟩
  have NS0h := Lib.hid NS0; clear NS0 T1 B1
  go_upto_region 4 with fail
  go_cut [8, 9] (fun v8 v9 wx => v8 = .string A1 ∧ v9 = .int .i64 0 ∧ NumS w w.heap.size a b g e m wx)
  case first =>
    obtain ⟨q0, q1, q2, q3, q4, q5, q6⟩ := NS0h.out
    go_region_held3 (fun w' => w'.cell? ⟨w.heap.size, 0, none⟩ = some (.string a) ∧ w'.cell? ⟨w.heap.size, 1, none⟩ = some (.string b) ∧ w'.cell? ⟨w.heap.size, 2, none⟩ = some (.bool g) ∧ w'.cell? ⟨w.heap.size, 3, none⟩ = some (.string e) ∧ w'.cell? ⟨w.heap.size, 4, none⟩ = some (.string m) ∧ w.heap.size < w'.heap.size ∧ Below w.heap.size w w') (first | exact numS_drew NS0h.out | exact NS0h.out | exact numS_next b99 (by assumption) | assumption)
      (first
      | (go_at_call 25; ((with_reducible refine (H_n1.out _).mono ?_); rintro r w99 ⟨rfl, b99⟩))
      | (go_at_call 18; ((with_reducible refine (H_e1.out _).mono ?_); rintro r w99 ⟨rfl, b99⟩)))
    all_goals go_wp2_with fail
    all_goals go_meet
    all_goals exact ⟨rfl, rfl, by assumption⟩
  case rest =>
  clear NS0h
  obtain ⟨rfl, rfl, NS0⟩ := hcut
  have NS0h := Lib.hid NS0; clear NS0
  go_upto_region 5 with fail
  go_cut [10, 11] (fun v10 v11 wx => v10 = .string A2 ∧ v11 = .int .i64 0 ∧ NumS w w.heap.size a b g e m wx)
  case first =>
    obtain ⟨q0, q1, q2, q3, q4, q5, q6⟩ := NS0h.out
    go_region_held3 (fun w' => w'.cell? ⟨w.heap.size, 0, none⟩ = some (.string a) ∧ w'.cell? ⟨w.heap.size, 1, none⟩ = some (.string b) ∧ w'.cell? ⟨w.heap.size, 2, none⟩ = some (.bool g) ∧ w'.cell? ⟨w.heap.size, 3, none⟩ = some (.string e) ∧ w'.cell? ⟨w.heap.size, 4, none⟩ = some (.string m) ∧ w.heap.size < w'.heap.size ∧ Below w.heap.size w w') (first | exact numS_drew NS0h.out | exact NS0h.out | exact numS_next b99 (by assumption) | assumption)
      (first
      | (go_at_call 25; ((with_reducible refine (H_n2.out _).mono ?_); rintro r w99 ⟨rfl, b99⟩))
      | (go_at_call 18; ((with_reducible refine (H_e2.out _).mono ?_); rintro r w99 ⟨rfl, b99⟩)))
    all_goals go_wp2_with fail
    all_goals go_meet
    all_goals exact ⟨rfl, rfl, by assumption⟩
  case rest =>
  clear NS0h
  obtain ⟨rfl, rfl, NS0⟩ := hcut
  have NS0h := Lib.hid NS0; clear NS0
  go_upto_region 6 with fail
  go_cut [12, 13] (fun v12 v13 wx => v12 = .string A3 ∧ v13 = .int .i64 0 ∧ NumS w w.heap.size a b g e m wx)
  case first =>
    obtain ⟨q0, q1, q2, q3, q4, q5, q6⟩ := NS0h.out
    go_region_held3 (fun w' => w'.cell? ⟨w.heap.size, 0, none⟩ = some (.string a) ∧ w'.cell? ⟨w.heap.size, 1, none⟩ = some (.string b) ∧ w'.cell? ⟨w.heap.size, 2, none⟩ = some (.bool g) ∧ w'.cell? ⟨w.heap.size, 3, none⟩ = some (.string e) ∧ w'.cell? ⟨w.heap.size, 4, none⟩ = some (.string m) ∧ w.heap.size < w'.heap.size ∧ Below w.heap.size w w') (first | exact numS_drew NS0h.out | exact NS0h.out | exact numS_next b99 (by assumption) | assumption)
      (first
      | (go_at_call 25; ((with_reducible refine (H_n3.out _).mono ?_); rintro r w99 ⟨rfl, b99⟩))
      | (go_at_call 18; ((with_reducible refine (H_e3.out _).mono ?_); rintro r w99 ⟨rfl, b99⟩)))
    all_goals go_wp2_with fail
    all_goals go_meet
    all_goals exact ⟨rfl, rfl, by assumption⟩
  case rest =>
  clear NS0h
  obtain ⟨rfl, rfl, NS0⟩ := hcut
  have NS0h := Lib.hid NS0; clear NS0
  obtain ⟨q0, q1, q2, q3, q4, q5, q6⟩ := NS0h.out
  go_wp2_with fail
  refine (H_mu.out _).mono ?_; rintro r w9 ⟨rfl, b9⟩
  have NS1h := Lib.hid (numS_next b9 NS0h.out); clear NS0h b9 q0 q1 q2 q3 q4 q5 q6
  have NS0h := NS1h; clear NS1h
  go_upto_region 8 with fail
  go_cut [16, 17] (fun v16 v17 wx => v16 = .string A4 ∧ v17 = .int .i64 0 ∧ NumS w w.heap.size a b g e m wx)
  case first =>
    obtain ⟨q0, q1, q2, q3, q4, q5, q6⟩ := NS0h.out
    go_region_held3 (fun w' => w'.cell? ⟨w.heap.size, 0, none⟩ = some (.string a) ∧ w'.cell? ⟨w.heap.size, 1, none⟩ = some (.string b) ∧ w'.cell? ⟨w.heap.size, 2, none⟩ = some (.bool g) ∧ w'.cell? ⟨w.heap.size, 3, none⟩ = some (.string e) ∧ w'.cell? ⟨w.heap.size, 4, none⟩ = some (.string m) ∧ w.heap.size < w'.heap.size ∧ Below w.heap.size w w') (first | exact numS_drew NS0h.out | exact NS0h.out | exact numS_next b99 (by assumption) | assumption)
      (first
      | (go_at_call 25; ((with_reducible refine (H_n4.out _).mono ?_); rintro r w99 ⟨rfl, b99⟩))
      | (go_at_call 18; ((with_reducible refine (H_e4.out _).mono ?_); rintro r w99 ⟨rfl, b99⟩)))
    all_goals go_wp2_with fail
    all_goals go_meet
    all_goals exact ⟨rfl, rfl, by assumption⟩
  case rest =>
  clear NS0h
  obtain ⟨rfl, rfl, NS0⟩ := hcut
  have NS0h := Lib.hid NS0; clear NS0
  obtain ⟨q0, q1, q2, q3, q4, q5, q6⟩ := NS0h.out
  go_wp2_with fail
  refine (H_n2.out _).mono ?_; rintro r w9 ⟨rfl, b9⟩
  have NS1h := Lib.hid (numS_next b9 NS0h.out); clear NS0h b9 q0 q1 q2 q3 q4 q5 q6
  have NS0h := NS1h; clear NS1h
  obtain ⟨q0, q1, q2, q3, q4, q5, q6⟩ := NS0h.out
  go_wp2_with fail
  refine (H_e5.out _).mono ?_; rintro r w9 ⟨rfl, b9⟩
  have NS1h := Lib.hid (numS_next b9 NS0h.out); clear NS0h b9 q0 q1 q2 q3 q4 q5 q6
  have NS0h := NS1h; clear NS1h
  go_upto_region 12 with fail
  go_cut [20, 21] (fun v20 v21 wx => v20 = .string ⟨#[]⟩ ∧ v21 = .int .i64 9 ∧ NumS w w.heap.size a b g e m wx)
  case first =>
    obtain ⟨q0, q1, q2, q3, q4, q5, q6⟩ := NS0h.out
    go_region_held3 (fun w' => w'.cell? ⟨w.heap.size, 0, none⟩ = some (.string a) ∧ w'.cell? ⟨w.heap.size, 1, none⟩ = some (.string b) ∧ w'.cell? ⟨w.heap.size, 2, none⟩ = some (.bool g) ∧ w'.cell? ⟨w.heap.size, 3, none⟩ = some (.string e) ∧ w'.cell? ⟨w.heap.size, 4, none⟩ = some (.string m) ∧ w.heap.size < w'.heap.size ∧ Below w.heap.size w w') (first | exact numS_drew NS0h.out | exact NS0h.out | exact numS_next b99 (by assumption) | assumption)
      (first
      | (go_at_call 31; ((with_reducible refine (H_of.out _).mono ?_); rintro r w99 ⟨rfl, b99⟩))
      | (go_at_call 20; ((with_reducible refine (H_po.out _).mono ?_); rintro r w99 ⟨rfl, b99⟩)))
    all_goals go_wp2_with fail
    all_goals go_meet
    all_goals exact ⟨rfl, rfl, by assumption⟩
  case rest =>
  clear NS0h
  obtain ⟨rfl, rfl, NS0⟩ := hcut
  have NS0h := Lib.hid NS0; clear NS0
  obtain ⟨q0, q1, q2, q3, q4, q5, q6⟩ := NS0h.out
  go_wp2_with fail
  refine (awake3 _).mono ?_; rintro r w9 ⟨rfl, b9⟩
  have NS1h := Lib.hid (numS_next b9 NS0h.out); clear NS0h b9 q0 q1 q2 q3 q4 q5 q6
  have NS0h := NS1h; clear NS1h
  go_wp2
  go_ret
  exact ⟨rfl, numS_below NS0h.out⟩

set_option maxHeartbeats 4000000 in
set_option maxRecDepth 100000 in
theorem exps_ok (a b : ByteArray) (g : Bool) (e m : ByteArray) (k1 k2 : Int) (s p z : Int) (N1 N2 N3 N4 A1 A2 A3 A4 SZ : ByteArray) (GZ : Bool) (D O ON : ByteArray) (w : World) (xa : a.size ≤ 9223372036854775807) (xb : b.size ≤ 9223372036854775807) (xe : e.size ≤ 9223372036854775807) (xm : m.size ≤ 9223372036854775807) (h : Few3 a b e m) (ca : Can a) (cm : Can m) (hE : m.toList.isEmpty = false)
    (u1 : IntKind.u64.wrap k1 = k1) (u2 : IntKind.u64.wrap k2 = k2) (u3 : IntKind.u64.wrap (k1 + k2) = s) (u4 : IntKind.u64.wrap (k1 * k2) = p) (u5 : IntKind.i64.wrap k1 = k1) (u6 : IntKind.i64.wrap (-k1) = z) (u7 : wrap64 (-k1) = z) (u8 : wrap64 k1 = k1)
    (n1 : ∀ w, Calls Tryz.prog 25 #[.int .u64 k1] w fun r w' => r = .returned (.string N1) ∧ Below w.heap.size w w')
    (n2 : ∀ w, Calls Tryz.prog 25 #[.int .u64 k2] w fun r w' => r = .returned (.string N2) ∧ Below w.heap.size w w')
    (n3 : ∀ w, Calls Tryz.prog 25 #[.int .u64 s] w fun r w' => r = .returned (.string N3) ∧ Below w.heap.size w w')
    (n4 : ∀ w, Calls Tryz.prog 25 #[.int .u64 p] w fun r w' => r = .returned (.string N4) ∧ Below w.heap.size w w')
    (e1 : ∀ w, Calls Tryz.prog 18 #[.string a, .string N1, .string m] w fun r w' => r = .returned (.tuple #[.string A1, .int .i64 0]) ∧ Below w.heap.size w w')
    (e2 : ∀ w, Calls Tryz.prog 18 #[.string a, .string N2, .string m] w fun r w' => r = .returned (.tuple #[.string A2, .int .i64 0]) ∧ Below w.heap.size w w')
    (e3 : ∀ w, Calls Tryz.prog 18 #[.string a, .string N3, .string m] w fun r w' => r = .returned (.tuple #[.string A3, .int .i64 0]) ∧ Below w.heap.size w w')
    (mu : ∀ w, Calls Tryz.prog 16 #[.string A1, .string A2, .string m] w fun r w' => r = .returned (.tuple #[.string A3, .int .i64 0]) ∧ Below w.heap.size w w')
    (e4 : ∀ w, Calls Tryz.prog 18 #[.string a, .string N4, .string m] w fun r w' => r = .returned (.tuple #[.string A4, .int .i64 0]) ∧ Below w.heap.size w w')
    (e5 : ∀ w, Calls Tryz.prog 18 #[.string A1, .string N2, .string m] w fun r w' => r = .returned (.tuple #[.string A4, .int .i64 0]) ∧ Below w.heap.size w w')
    (of : ∀ w, Calls Tryz.prog 31 #[.int .i64 z] w fun r w' => r = .returned (.agg #[.bool GZ, .string SZ]) ∧ Below w.heap.size w w')
    (po : ∀ w, Calls Tryz.prog 20 #[.string a, .agg #[.bool GZ, .string SZ], .string m] w fun r w' => r = .returned (.tuple #[.string D, .int .i64 0]) ∧ Below w.heap.size w w')
    (mo : ∀ w, Calls Tryz.prog 16 #[.string A1, .string D, .string m] w fun r w' => r = .returned (.tuple #[.string O, .int .i64 0]) ∧ Below w.heap.size w w')
    (on : ∀ w, Calls Tryz.prog 25 #[.int .u64 1] w fun r w' => r = .returned (.string ON) ∧ Below w.heap.size w w')
    (md : ∀ w, Calls Tryz.prog 24 #[.string ON, .string m] w fun r w' => r = .returned (.string O) ∧ Below w.heap.size w w') :
    Calls Tryz.prog 9 #[.agg #[.string a, .string b, .bool g, .string e, .string m], .int .u16 k1, .int .u16 k2] w fun r w' => r = .returned (.bool true) ∧ Below w.heap.size w w' := by
  have H_h := Lib.hid h; clear h
  have H_ca := Lib.hid ca; clear ca
  have H_cm := Lib.hid cm; clear cm
  have H_n1 := Lib.hid n1; clear n1
  have H_n2 := Lib.hid n2; clear n2
  have H_n3 := Lib.hid n3; clear n3
  have H_n4 := Lib.hid n4; clear n4
  have H_e1 := Lib.hid e1; clear e1
  have H_e2 := Lib.hid e2; clear e2
  have H_e3 := Lib.hid e3; clear e3
  have H_mu := Lib.hid mu; clear mu
  have H_e4 := Lib.hid e4; clear e4
  have H_e5 := Lib.hid e5; clear e5
  have H_of := Lib.hid of; clear of
  have H_po := Lib.hid po; clear po
  have H_mo := Lib.hid mo; clear mo
  have H_on := Lib.hid on; clear on
  have H_md := Lib.hid md; clear md
  have k0 : Below w.heap.size w (w.alloc (.cells #[.string a, .string b, .bool g, .string e, .string m] 26)) := (Below.refl _ _).alloc (Nat.le_refl _) _
  have T0 := Num5.new w a b g e m 26
  have T0h := Lib.hid T0
  obtain ⟨q0, q1, q2, q3, q4, q5⟩ := T0
  go_enter Tryz.func9, Tryz.ntmps9
  go_wp2_with fail
  refine (few3_yes a b g e m _ H_h.out).mono ?_; rintro r w1 ⟨rfl, b1⟩
  have T1 := Lib.hid (T0h.out.below b1); clear T0h q0 q1 q2 q3 q4 q5
  have B1 := Lib.hid (bnext k0 b1); clear b1
  obtain ⟨q0, q1, q2, q3, q4, q5⟩ := T1.out
  go_wp2_with fail
  refine (rvalid_yes a _ H_ca.out).mono ?_; rintro r wx ⟨rfl, rfl⟩
  go_wp2_with fail
  refine (rvalid_yes m _ H_cm.out).mono ?_; rintro r wx ⟨rfl, rfl⟩
  have NS0 : NumS w w.heap.size a b g e m w1 := ⟨q0, q1, q2, q3, q4, q5, B1.out⟩
  have NS0h := Lib.hid NS0; clear NS0 T1 B1
  go_upto_region 4 with fail
  go_cut [8, 9] (fun v8 v9 wx => v8 = .string A1 ∧ v9 = .int .i64 0 ∧ NumS w w.heap.size a b g e m wx)
  case first =>
    obtain ⟨q0, q1, q2, q3, q4, q5, q6⟩ := NS0h.out
    go_region_held3 (fun w' => w'.cell? ⟨w.heap.size, 0, none⟩ = some (.string a) ∧ w'.cell? ⟨w.heap.size, 1, none⟩ = some (.string b) ∧ w'.cell? ⟨w.heap.size, 2, none⟩ = some (.bool g) ∧ w'.cell? ⟨w.heap.size, 3, none⟩ = some (.string e) ∧ w'.cell? ⟨w.heap.size, 4, none⟩ = some (.string m) ∧ w.heap.size < w'.heap.size ∧ Below w.heap.size w w') (first | exact numS_drew NS0h.out | exact NS0h.out | exact numS_next b99 (by assumption) | assumption)
      (first
      | (go_at_call 25; ((with_reducible refine (H_n1.out _).mono ?_); rintro r w99 ⟨rfl, b99⟩))
      | (go_at_call 18; ((with_reducible refine (H_e1.out _).mono ?_); rintro r w99 ⟨rfl, b99⟩)))
    all_goals go_wp2_with fail
    all_goals go_meet
    all_goals exact ⟨rfl, rfl, by assumption⟩
  case rest =>
  clear NS0h
  obtain ⟨rfl, rfl, NS0⟩ := hcut
  have NS0h := Lib.hid NS0; clear NS0
  go_upto_region 5 with fail
  go_cut [10, 11] (fun v10 v11 wx => v10 = .string A2 ∧ v11 = .int .i64 0 ∧ NumS w w.heap.size a b g e m wx)
  case first =>
    obtain ⟨q0, q1, q2, q3, q4, q5, q6⟩ := NS0h.out
    go_region_held3 (fun w' => w'.cell? ⟨w.heap.size, 0, none⟩ = some (.string a) ∧ w'.cell? ⟨w.heap.size, 1, none⟩ = some (.string b) ∧ w'.cell? ⟨w.heap.size, 2, none⟩ = some (.bool g) ∧ w'.cell? ⟨w.heap.size, 3, none⟩ = some (.string e) ∧ w'.cell? ⟨w.heap.size, 4, none⟩ = some (.string m) ∧ w.heap.size < w'.heap.size ∧ Below w.heap.size w w') (first | exact numS_drew NS0h.out | exact NS0h.out | exact numS_next b99 (by assumption) | assumption)
      (first
      | (go_at_call 25; ((with_reducible refine (H_n2.out _).mono ?_); rintro r w99 ⟨rfl, b99⟩))
      | (go_at_call 18; ((with_reducible refine (H_e2.out _).mono ?_); rintro r w99 ⟨rfl, b99⟩)))
    all_goals go_wp2_with fail
    all_goals go_meet
    all_goals exact ⟨rfl, rfl, by assumption⟩
  case rest =>
  clear NS0h
  obtain ⟨rfl, rfl, NS0⟩ := hcut
  have NS0h := Lib.hid NS0; clear NS0
  go_upto_region 6 with fail
  go_cut [12, 13] (fun v12 v13 wx => v12 = .string A3 ∧ v13 = .int .i64 0 ∧ NumS w w.heap.size a b g e m wx)
  case first =>
    obtain ⟨q0, q1, q2, q3, q4, q5, q6⟩ := NS0h.out
    go_region_held3 (fun w' => w'.cell? ⟨w.heap.size, 0, none⟩ = some (.string a) ∧ w'.cell? ⟨w.heap.size, 1, none⟩ = some (.string b) ∧ w'.cell? ⟨w.heap.size, 2, none⟩ = some (.bool g) ∧ w'.cell? ⟨w.heap.size, 3, none⟩ = some (.string e) ∧ w'.cell? ⟨w.heap.size, 4, none⟩ = some (.string m) ∧ w.heap.size < w'.heap.size ∧ Below w.heap.size w w') (first | exact numS_drew NS0h.out | exact NS0h.out | exact numS_next b99 (by assumption) | assumption)
      (first
      | (go_at_call 25; ((with_reducible refine (H_n3.out _).mono ?_); rintro r w99 ⟨rfl, b99⟩))
      | (go_at_call 18; ((with_reducible refine (H_e3.out _).mono ?_); rintro r w99 ⟨rfl, b99⟩)))
    all_goals go_wp2_with fail
    all_goals go_meet
    all_goals exact ⟨rfl, rfl, by assumption⟩
  case rest =>
  clear NS0h
  obtain ⟨rfl, rfl, NS0⟩ := hcut
  have NS0h := Lib.hid NS0; clear NS0
  obtain ⟨q0, q1, q2, q3, q4, q5, q6⟩ := NS0h.out
  go_wp2_with fail
  refine (H_mu.out _).mono ?_; rintro r w9 ⟨rfl, b9⟩
  have NS1h := Lib.hid (numS_next b9 NS0h.out); clear NS0h b9 q0 q1 q2 q3 q4 q5 q6
  have NS0h := NS1h; clear NS1h
  go_upto_region 8 with fail
  go_cut [16, 17] (fun v16 v17 wx => v16 = .string A4 ∧ v17 = .int .i64 0 ∧ NumS w w.heap.size a b g e m wx)
  case first =>
    obtain ⟨q0, q1, q2, q3, q4, q5, q6⟩ := NS0h.out
    go_region_held3 (fun w' => w'.cell? ⟨w.heap.size, 0, none⟩ = some (.string a) ∧ w'.cell? ⟨w.heap.size, 1, none⟩ = some (.string b) ∧ w'.cell? ⟨w.heap.size, 2, none⟩ = some (.bool g) ∧ w'.cell? ⟨w.heap.size, 3, none⟩ = some (.string e) ∧ w'.cell? ⟨w.heap.size, 4, none⟩ = some (.string m) ∧ w.heap.size < w'.heap.size ∧ Below w.heap.size w w') (first | exact numS_drew NS0h.out | exact NS0h.out | exact numS_next b99 (by assumption) | assumption)
      (first
      | (go_at_call 25; ((with_reducible refine (H_n4.out _).mono ?_); rintro r w99 ⟨rfl, b99⟩))
      | (go_at_call 18; ((with_reducible refine (H_e4.out _).mono ?_); rintro r w99 ⟨rfl, b99⟩)))
    all_goals go_wp2_with fail
    all_goals go_meet
    all_goals exact ⟨rfl, rfl, by assumption⟩
  case rest =>
  clear NS0h
  obtain ⟨rfl, rfl, NS0⟩ := hcut
  have NS0h := Lib.hid NS0; clear NS0
  obtain ⟨q0, q1, q2, q3, q4, q5, q6⟩ := NS0h.out
  go_wp2_with fail
  refine (H_n2.out _).mono ?_; rintro r w9 ⟨rfl, b9⟩
  have NS1h := Lib.hid (numS_next b9 NS0h.out); clear NS0h b9 q0 q1 q2 q3 q4 q5 q6
  have NS0h := NS1h; clear NS1h
  obtain ⟨q0, q1, q2, q3, q4, q5, q6⟩ := NS0h.out
  go_wp2_with fail
  refine (H_e5.out _).mono ?_; rintro r w9 ⟨rfl, b9⟩
  have NS1h := Lib.hid (numS_next b9 NS0h.out); clear NS0h b9 q0 q1 q2 q3 q4 q5 q6
  have NS0h := NS1h; clear NS1h
  go_upto_region 12 with fail
  go_cut [20, 21] (fun v20 v21 wx => v20 = .string D ∧ v21 = .int .i64 0 ∧ NumS w w.heap.size a b g e m wx)
  case first =>
    obtain ⟨q0, q1, q2, q3, q4, q5, q6⟩ := NS0h.out
    go_region_held3 (fun w' => w'.cell? ⟨w.heap.size, 0, none⟩ = some (.string a) ∧ w'.cell? ⟨w.heap.size, 1, none⟩ = some (.string b) ∧ w'.cell? ⟨w.heap.size, 2, none⟩ = some (.bool g) ∧ w'.cell? ⟨w.heap.size, 3, none⟩ = some (.string e) ∧ w'.cell? ⟨w.heap.size, 4, none⟩ = some (.string m) ∧ w.heap.size < w'.heap.size ∧ Below w.heap.size w w') (first | exact numS_drew NS0h.out | exact NS0h.out | exact numS_next b99 (by assumption) | assumption)
      (first
      | (go_at_call 31; ((with_reducible refine (H_of.out _).mono ?_); rintro r w99 ⟨rfl, b99⟩))
      | (go_at_call 20; ((with_reducible refine (H_po.out _).mono ?_); rintro r w99 ⟨rfl, b99⟩)))
    all_goals go_wp2_with fail
    all_goals go_meet
    all_goals exact ⟨rfl, rfl, by assumption⟩
  case rest =>
  clear NS0h
  obtain ⟨rfl, rfl, NS0⟩ := hcut
  have NS0h := Lib.hid NS0; clear NS0
  obtain ⟨q0, q1, q2, q3, q4, q5, q6⟩ := NS0h.out
  go_wp2_with fail
  refine (H_mo.out _).mono ?_; rintro r w9 ⟨rfl, b9⟩
  have NS1h := Lib.hid (numS_next b9 NS0h.out); clear NS0h b9 q0 q1 q2 q3 q4 q5 q6
  have NS0h := NS1h; clear NS1h
  obtain ⟨q0, q1, q2, q3, q4, q5, q6⟩ := NS0h.out
  go_wp2_with fail
  refine (awake3 _).mono ?_; rintro r w9 ⟨rfl, b9⟩
  have NS1h := Lib.hid (numS_next b9 NS0h.out); clear NS0h b9 q0 q1 q2 q3 q4 q5 q6
  have NS0h := NS1h; clear NS1h
  obtain ⟨q0, q1, q2, q3, q4, q5, q6⟩ := NS0h.out
  go_wp2_with fail
  refine (H_on.out _).mono ?_; rintro r w9 ⟨rfl, b9⟩
  have NS1h := Lib.hid (numS_next b9 NS0h.out); clear NS0h b9 q0 q1 q2 q3 q4 q5 q6
  have NS0h := NS1h; clear NS1h
  obtain ⟨q0, q1, q2, q3, q4, q5, q6⟩ := NS0h.out
  go_wp2_with fail
  refine (H_md.out _).mono ?_; rintro r w9 ⟨rfl, b9⟩
  have NS1h := Lib.hid (numS_next b9 NS0h.out); clear NS0h b9 q0 q1 q2 q3 q4 q5 q6
  have NS0h := NS1h; clear NS1h
  go_wp2
  go_ret
  exact ⟨rfl, numS_below NS0h.out⟩
end Go.Proofs.YtjbcicgbemepbaaGreatDoor


/-
  Layer 3's statements: Exponents, the law.
-/
namespace Go.Proofs.YtjbcicgbemepbaaGreatDoor
open Go.RowKit
set_option linter.unusedVariables false

theorem minv_fix (a m : ByteArray) (ha : Can a) (hm : Can m) (h0 : 0 < m.size) (hg : Nat.gcd (V a % V m) (V m) = 1) : ∃ x, x < V m ∧ V a * x % V m = 1 % V m ∧
    ∀ w, Calls Tryz.prog 22 #[.string a, .string m] w fun e w' => e = .returned (.tuple #[.string (E x), .int .i64 0]) ∧ Below w.heap.size w w' := by
  have hmp := can_pos hm h0
  obtain ⟨g, x, y, hP⟩ := ext_exists (a := V a % V m) (b := V m) (Nat.lt_trans (Nat.mod_lt _ hmp) (V_lim hm)) (V_lim hm)
  have hf := inv_of_ext hP hmp (hP.1.trans hg)
  refine ⟨_, hf.2.1, hf.2.2, fun w => (minv_yes a m w ha hm h0 hg).mono ?_⟩
  rintro e w' ⟨⟨x', rfl, h1, h2⟩, hb⟩
  rw [inv_unique h1 hf.2.1 h2 hf.2.2]
  exact ⟨rfl, hb⟩
theorem exps_num {a x n m : Nat} (h : a * x % m = 1 % m) : a ^ n % m * (x ^ n % m) % m = 1 % m := by
  rw [← Nat.mul_mod, ← Nat.mul_pow, Nat.pow_mod, h, ← Nat.pow_mod, Nat.one_pow]
set_option maxHeartbeats 1000000 in
theorem law_ModularExponents (a b : ByteArray) (g : Bool) (e m : ByteArray) (k1 k2 : Int) (l1 : a.size ≤ maxLen) (l2 : b.size ≤ maxLen) (l3 : e.size ≤ maxLen) (l4 : m.size ≤ maxLen) (l5 : (Lit.int .u16 k1).wf = true) (l6 : (Lit.int .u16 k2).wf = true) (w : World) :
    Calls Tryz.prog 9 #[.agg #[.string a, .string b, .bool g, .string e, .string m], .int .u16 k1, .int .u16 k2] w fun r w' => r = .returned (.bool true) ∧ Below w.heap.size w w' := by
  unfold maxLen at l1 l2 l3 l4
  have q1 : a.size ≤ 9223372036854775807 := by omega
  have q2 : b.size ≤ 9223372036854775807 := by omega
  have q3 : e.size ≤ 9223372036854775807 := by omega
  have q4 : m.size ≤ 9223372036854775807 := by omega
  have hb1 := bounds_u16 l5
  have hb2 := bounds_u16 l6
  by_cases h : Few3 a b e m
  · by_cases ca : Can a
    · by_cases cm : Can m
      · by_cases h0 : m.size = 0
        · exact exps_zero a b g e m k1 k2 w q1 q2 q3 q4 h ca cm (empty_of h0)
        · have hE := not_empty_of h0
          have h0 : 0 < m.size := by omega
          have hmp := can_pos cm h0
          obtain ⟨n1, rfl⟩ := Int.eq_ofNat_of_zero_le hb1.1
          obtain ⟨n2, rfl⟩ := Int.eq_ofNat_of_zero_le hb2.1
          have c1 : n1 < 65536 := by omega
          have c2 : n2 < 65536 := by omega
          have hp : n1 * n2 < 4294967296 := by
            have : n1 * n2 < 65536 * 65536 := Nat.mul_lt_mul'' c1 c2
            omega
          have d1 : n1 < 18446744073709551616 := by omega
          have d2 : n2 < 18446744073709551616 := by omega
          have d3 : n1 + n2 < 18446744073709551616 := by omega
          have d4 : n1 * n2 < 18446744073709551616 := by omega
          have z1 : -9223372036854775808 ≤ -(n1 : Int) := by omega
          have z2 : -(n1 : Int) ≤ 9223372036854775807 := by omega
          have z3 : (-(n1 : Int)).natAbs = n1 := by omega
          have hlt : ∀ x, Can (E (x % V m)) := fun x => can_E' (Nat.lt_trans (Nat.mod_lt _ hmp) (V_lim cm))
          have u1 : IntKind.u64.wrap (n1 : Int) = n1 := IntWalk.u64_in _ (by clear hE; omega)
          have u2 : IntKind.u64.wrap (n2 : Int) = n2 := IntWalk.u64_in _ (by clear hE; omega)
          have u3 : IntKind.u64.wrap ((n1 : Int) + n2) = ((n1 + n2 : Nat) : Int) := by rw [← Int.natCast_add]; exact IntWalk.u64_in _ (by clear hE; omega)
          have u4 : IntKind.u64.wrap ((n1 : Int) * n2) = ((n1 * n2 : Nat) : Int) := by rw [← Int.natCast_mul]; exact IntWalk.u64_in _ (by clear hE; omega)
          have u5 : IntKind.i64.wrap (n1 : Int) = n1 := IntWalk.i64_in _ (by omega)
          have u6 : IntKind.i64.wrap (-(n1 : Int)) = -(n1 : Int) := IntWalk.i64_in _ (by omega)
          have u7 : wrap64 (-(n1 : Int)) = -(n1 : Int) := by unfold wrap64; omega
          have u8 : wrap64 (n1 : Int) = n1 := by unfold wrap64; omega
          have f1 := fun w => mexp_ok a (E n1) m w ca (cs n1 d1) cm h0
          have f2 := fun w => mexp_ok a (E n2) m w ca (cs n2 d2) cm h0
          have f3 := fun w => mexp_ok a (E (n1 + n2)) m w ca (cs _ d3) cm h0
          have f4 := fun w => mexp_ok a (E (n1 * n2)) m w ca (cs _ d4) cm h0
          rw [V_E] at f1 f2 f3 f4
          have fm := fun w => mmul_ok (E (V a ^ n1 % V m)) (E (V a ^ n2 % V m)) m w (hlt _) (hlt _) cm h0
          rw [V_E, V_E, ← Nat.mul_mod, ← Nat.pow_add] at fm
          have f5 := fun w => mexp_ok (E (V a ^ n1 % V m)) (E n2) m w (hlt _) (cs n2 d2) cm h0
          rw [V_E, V_E, ← Nat.pow_mod, ← Nat.pow_mul] at f5
          have fo := fun w => riof_any (-(n1 : Int)) w z1 z2
          have hz : IVal (ZG (-(n1 : Int))) (ZS (-(n1 : Int))) := ival_Z _ (by rw [z3]; exact small_lim d1)
          have hzs : ZS (-(n1 : Int)) = E n1 := by unfold ZS; rw [z3]
          have fon := fun w => num3 1 w (by decide)
          have fmd := fun w => rmod_any (E 1) m w (cs 1 (by decide)) cm hmp
          rw [V_E] at fmd
          have gok : ∀ D : Nat, (∀ w, Calls Tryz.prog 20 #[.string a, .agg #[.bool (ZG (-(n1 : Int))), .string (ZS (-(n1 : Int)))], .string m] w fun r w' => r = .returned (.tuple #[.string (E (D % V m)), .int .i64 0]) ∧ Below w.heap.size w w') →
              V a ^ n1 % V m * (D % V m) % V m = 1 % V m →
              Calls Tryz.prog 9 #[.agg #[.string a, .string b, .bool g, .string e, .string m], .int .u16 (n1 : Nat), .int .u16 (n2 : Nat)] w fun r w' => r = .returned (.bool true) ∧ Below w.heap.size w w' := by
            intro D hpo hD
            have fmo := fun w => mmul_ok (E (V a ^ n1 % V m)) (E (D % V m)) m w (hlt _) (hlt _) cm h0
            rw [V_E, V_E, hD] at fmo
            exact exps_ok a b g e m n1 n2 _ _ _ _ _ _ _ _ _ _ _ _ _ _ _ _ w q1 q2 q3 q4 h ca cm hE u1 u2 u3 u4 u5 u6 u7 u8 (fun w => num3 n1 w d1) (fun w => num3 n2 w d2) (fun w => num3 (n1 + n2) w d3) (fun w => num3 (n1 * n2) w d4) f1 f2 f3 fm f4 f5 fo hpo fmo fon fmd
          by_cases hk : n1 = 0
          · subst hk
            have hg0 : ZG (-((0 : Nat) : Int)) = false := by decide
            refine gok 1 (fun w => ?_) (by rw [Nat.pow_zero, ← Nat.mul_mod])
            rw [hg0] at hz ⊢
            have hs0 : ZS (-((0 : Nat) : Int)) = E 0 := hzs
            rw [hs0] at hz ⊢
            have he := fun w => mexp_ok a (E 0) m w ca (cs 0 (by decide)) cm h0
            rw [V_E, Nat.pow_zero] at he
            exact mpower_pos a (E 0) m _ 0 w hz he
          · have hkp : (0 : Int) < n1 := Int.natCast_pos.2 (Nat.pos_of_ne_zero hk)
            have hg1 : ZG (-(n1 : Int)) = true := by unfold ZG; exact decide_eq_true (Int.neg_neg_of_pos hkp)
            by_cases hg : Nat.gcd (V a % V m) (V m) = 1
            · obtain ⟨x, hx1, hx2, hx3⟩ := minv_fix a m ca cm h0 hg
              have cx : Can (E x) := can_E' (Nat.lt_trans hx1 (V_lim cm))
              refine gok (x ^ n1) (fun w => ?_) (exps_num hx2)
              rw [hg1, hzs] at hz ⊢
              have he := fun w => mexp_ok (E x) (E n1) m w cx (cs n1 d1) cm h0
              rw [V_E, V_E] at he
              exact mpower_neg a (E n1) m (E x) _ 0 w hz hx3 he
            · have hpo : ∀ w, Calls Tryz.prog 20 #[.string a, .agg #[.bool (ZG (-(n1 : Int))), .string (ZS (-(n1 : Int)))], .string m] w fun r w' => r = .returned (.tuple #[.string ⟨#[]⟩, .int .i64 9]) ∧ Below w.heap.size w w' := by
                intro w
                rw [hg1, hzs] at hz ⊢
                exact mpower_negerr a (E n1) m ⟨#[]⟩ 9 w hz (by decide) (fun w => minv_no a m w ca cm h0 hg)
              exact exps_none a b g e m n1 n2 _ _ _ _ _ _ _ _ _ _ _ _ _ w q1 q2 q3 q4 h ca cm hE u1 u2 u3 u4 u5 u6 u7 u8 hkp (fun w => num3 n1 w d1) (fun w => num3 n2 w d2) (fun w => num3 (n1 + n2) w d3) (fun w => num3 (n1 * n2) w d4) f1 f2 f3 fm f4 f5 fo hpo
      · exact exps_bad2 a b g e m k1 k2 w q1 q2 q3 q4 h ca cm
    · exact exps_bad1 a b g e m k1 k2 w q1 q2 q3 q4 h ca
  · exact exps_skip a b g e m k1 k2 w q1 q2 q3 q4 h
end Go.Proofs.YtjbcicgbemepbaaGreatDoor

