/-
  Several parts in one text (LB).
-/
import Derived.Test.YtogmgfdihmacpaaGreatDoorRA
import Derived.Test.YtogmgfdihmacpaaGreatDoorInt20
import Derived.Test.YtogmgfdihmacpaaGreatDoorInt18
import Derived.Test.YtogmgfdihmacpaaGreatDoorIB
import Derived.Test.YtogmgfdihmacpaaGreatDoorMC
import Derived.Test.YtogmgfdihmacpaaGreatDoorLaw3c
import Derived.Test.YtogmgfdihmacpaaGreatDoorMD
import Derived.Deep.RegionHeld3
import Derived.Deep.DeepCutAuto
/-
  Contracts of the reference of layer 3, the fifth part: Inverse, Power.
-/
namespace Go.Proofs.YtogmgfdihmacpaaGreatDoor
open Go.RowKit
set_option linter.unusedVariables false

theorem lim60m : 256 ^ 60 * 256 ^ 60 + 256 ^ 60 + 256 ^ 60 + 256 ^ 60 < Lim := by rw [lim_eq]; decide +kernel
theorem quot_lem (a : Int) {b : Int} (hb : b ≠ 0) : (a / b).natAbs ≤ a.natAbs + 1 := by
  have h0 := Int.emod_nonneg a hb
  have h1 := Int.emod_lt a hb
  have e := Int.mul_ediv_add_emod a b
  have h2 : (b * (a / b)).natAbs ≤ a.natAbs + b.natAbs := by omega
  rw [Int.natAbs_mul] at h2
  have hB : 0 < b.natAbs := by omega
  have h3 : b.natAbs * (a / b).natAbs < b.natAbs * (a.natAbs + 2) := by
    rw [Nat.mul_add]
    have : a.natAbs ≤ b.natAbs * a.natAbs := Nat.le_mul_of_pos_left _ hB
    omega
  have := Nat.lt_of_mul_lt_mul_left h3
  omega
theorem bez_extm {a b g m k : Nat} {x y : Int} (hg : g = Nat.gcd a b) (hb : b ≠ 0) (hm : b = g * m) (hk : a = g * k) (h : (a : Int) * x + b * y = g) :
    (a : Int) * (x % m) + b * (y + x / m * k) = g ∧ 0 ≤ x % m ∧ x % m < (b / g : Nat) := by
  have hgp : 0 < g := by rw [hg]; exact Nat.gcd_pos_of_pos_right _ (Nat.pos_of_ne_zero hb)
  have hm0 : m ≠ 0 := by intro q; rw [q, Nat.mul_zero] at hm; exact hb hm
  have em : b / g = m := by rw [hm]; exact Nat.mul_div_cancel_left _ hgp
  rw [em]
  refine ⟨?_, Int.emod_nonneg _ (by omega), Int.emod_lt_of_pos _ (by omega)⟩
  have e := Int.mul_ediv_add_emod x m
  have er : x % m = x - m * (x / m) := by omega
  have ham : (a : Int) * (m * (x / m)) = b * (x / m * k) := by
    rw [hm, hk, Int.natCast_mul, Int.natCast_mul]
    simp only [Int.mul_assoc, Int.mul_left_comm, Int.mul_comm]
  rw [er, Int.mul_sub, Int.mul_add, ham]
  omega
theorem riext_fix (s t : ByteArray) (k1 : s.size ≤ 60) (k2 : t.size ≤ 60) (h : Can s) (h2 : Can t) (hb : ¬ V t = 0) : ∃ (g : Nat) (x y : Int), ExtP (V s) (V t) g x y ∧
    ∀ w, Calls Tryz.prog 130 #[.string s, .string t] w fun e w' => e = .returned (.tuple #[.string (E g), .agg #[.bool (ZG x), .string (ZS x)], .agg #[.bool (ZG y), .string (ZS y)], .int .i64 0]) ∧ Below w.heap.size w w' := by
  have l1 : V s < 256 ^ 60 := Nat.lt_of_lt_of_le (V_lt s) (Nat.pow_le_pow_right (by omega) k1)
  have l2 : V t < 256 ^ 60 := Nat.lt_of_lt_of_le (V_lt t) (Nat.pow_le_pow_right (by omega) k2)
  have hlim := lim60m
  obtain ⟨x0, y0, e1, e2, e3, _, hc⟩ := rbez_any (V t) (V s) (V t) (Nat.le_refl _) (V_lim h) (V_lim h2)
  rw [E_V h, E_V h2] at hc
  generalize hM : 256 ^ 60 = M at *
  have hM0 : 0 < M := by omega
  obtain ⟨g0, hg0⟩ : ∃ g0, g0 = Nat.gcd (V s) (V t) := ⟨_, rfl⟩
  rw [← hg0] at e1 hc
  have hgp : 0 < g0 := by rw [hg0]; exact Nat.gcd_pos_of_pos_right _ (Nat.pos_of_ne_zero hb)
  obtain ⟨m, hm⟩ : g0 ∣ V t := by rw [hg0]; exact Nat.gcd_dvd_right _ _
  obtain ⟨k, hk⟩ : g0 ∣ V s := by rw [hg0]; exact Nat.gcd_dvd_left _ _
  have hb2 := bez_extm hg0 hb hm hk e1
  have em : V t / g0 = m := by rw [hm]; exact Nat.mul_div_cancel_left _ hgp
  have ek : V s / g0 = k := by rw [hk]; exact Nat.mul_div_cancel_left _ hgp
  have hm1 : m ≤ V t := by rw [← em]; exact Nat.div_le_self _ _
  have hk1 : k ≤ V s := by rw [← ek]; exact Nat.div_le_self _ _
  have hm0 : m ≠ 0 := by intro q; rw [q, Nat.mul_zero] at hm; exact hb hm
  have hgl : g0 ≤ V t := by rw [hg0]; exact Nat.gcd_le_right _ (Nat.pos_of_ne_zero hb)
  rw [em] at hb2
  have hq := quot_lem x0 (b := (m : Int)) (by omega)
  have hqk : (x0 / m * k).natAbs ≤ M * M + M := by
    rw [Int.natAbs_mul, Int.natAbs_natCast]
    have h3 : (x0 / (m : Int)).natAbs * k ≤ (M + 1) * M := Nat.mul_le_mul (by omega) (by omega)
    rw [Nat.add_mul, Nat.one_mul] at h3
    exact h3
  have hxr : (x0 % (m : Int)).natAbs < Lim := by omega
  have hyr : (y0 + x0 / m * k).natAbs < Lim := by omega
  have hext : ExtP (V s) (V t) g0 (x0 % m) (y0 + x0 / m * k) := ⟨hg0, hb2.1, fun q => absurd q hb, fun _ => by rw [em]; exact hb2.2, hxr, hyr⟩
  refine ⟨g0, _, _, hext, ?_⟩
  intro w
  have cg : Can (E g0) := can_E' (by omega)
  have hdm := fun w => rdivMod_yes t (E g0) w h2 cg
  rw [V_E, divN_pos hgp, em] at hdm
  have hdk := fun w => rdivMod_yes s (E g0) w h cg
  rw [V_E, divN_pos hgp, ek] at hdk
  have hfm := fun w => rfrom_yes (E m) w (can_E' (by omega))
  rw [V_E] at hfm
  have hfk := fun w => rfrom_yes (E k) w (can_E' (by omega))
  rw [V_E] at hfk
  have vx0 := ival_Z x0 (by omega)
  have vy0 := ival_Z y0 (by omega)
  have vm := ival_Z (m : Nat) (by rw [Int.natAbs_natCast]; omega)
  have vk := ival_Z (k : Nat) (by rw [Int.natAbs_natCast]; omega)
  have hd := fun w => ridiv_yes (ZG x0) (ZG (m : Nat)) (ZS x0) (ZS (m : Nat)) w vx0 vm
  rw [IZ_Z, IZ_Z] at hd
  unfold zdivN at hd
  rw [if_neg (by omega)] at hd
  have vq := ival_Z (x0 / m) (by omega)
  have hp := fun w => rimul_yes (ZG (x0 / m)) (ZG (k : Nat)) (ZS (x0 / m)) (ZS (k : Nat)) w vq vk
  rw [IZ_Z, IZ_Z, zokN_yes (by omega)] at hp
  have vp := ival_Z (x0 / m * k) (by omega)
  have ha := fun w => riadd_yes (ZG y0) (ZG (x0 / m * k)) (ZS y0) (ZS (x0 / m * k)) w vy0 vp
  rw [IZ_Z, IZ_Z, zokN_yes hyr] at ha
  have er : (((x0 % m).toNat : Nat) : Int) = x0 % m := by omega
  have hfr := fun w => rfrom_yes (E (x0 % m).toNat) w (can_E' (by omega))
  rw [V_E, er] at hfr
  exact riext_core s t (E g0) (E m) _ (E k) _ _ _ _ _ _ _ _ _ _ _ _ _ _ _ _ _ _ w h h2 (by rw [← E_V h2, E_empty]; simp [hb]) hc hdm hdk hfm hd hfk hp ha hfr

theorem rimod_z (z : Int) (m : ByteArray) (w : World) (hz : z.natAbs < Lim) (hm : Can m) (h0 : 0 < V m) (h1 : 0 ≤ z) (h2 : z < V m) :
    Calls Tryz.prog 131 #[.agg #[.bool (ZG z), .string (ZS z)], .string m] w fun e w' => e = .returned (.tuple #[.string (E z.natAbs), .int .i64 0]) ∧ Below w.heap.size w w' := by
  have hv : IVal (ZG (V m : Nat)) (ZS (V m : Nat)) := ival_Z _ (by simpa using V_lim hm)
  have hvz : IVal (ZG z) (ZS z) := ival_Z z hz
  have hd := fun w => ridiv_yes (ZG z) (ZG (V m : Nat)) (ZS z) (ZS (V m : Nat)) w hvz hv
  rw [IZ_Z, IZ_Z] at hd
  unfold zdivN at hd
  rw [if_neg (by omega)] at hd
  have e : (z % ((V m : Nat) : Int)).toNat = z.natAbs := by rw [Int.emod_eq_of_lt h1 h2]; omega
  rw [e] at hd
  exact rimod_core _ _ _ _ m _ _ (E z.natAbs) 0 w hm hvz (fun w => rfrom_yes m w hm) hd
theorem inv_unique {a m x y : Nat} (hx : x < m) (hy : y < m) (h1 : a * x % m = 1 % m) (h2 : a * y % m = 1 % m) : x = y := by
  have e1 : x * (a * y) % m = x % m := by rw [Nat.mul_mod, h2, ← Nat.mul_mod, Nat.mul_one]
  have e2 : y * (a * x) % m = y % m := by rw [Nat.mul_mod, h1, ← Nat.mul_mod, Nat.mul_one]
  have e3 : x * (a * y) = y * (a * x) := by simp only [Nat.mul_left_comm, Nat.mul_comm]
  rw [e3, e2, Nat.mod_eq_of_lt hx, Nat.mod_eq_of_lt hy] at e1
  exact e1.symm

set_option maxHeartbeats 1000000 in
set_option maxRecDepth 20000 in
theorem rinv_yes (a m : ByteArray) (w : World) (ha : Can a) (hm : Can m) (h0 : 0 < m.size) (h60 : m.size ≤ 60) (hg : Nat.gcd (V a % V m) (V m) = 1) :
    Calls Tryz.prog 107 #[.string a, .string m] w fun e w' => (∃ x : Nat, e = .returned (.tuple #[.string (E x), .int .i64 0]) ∧ x < V m ∧ V a * x % V m = 1 % V m) ∧ Below w.heap.size w w' := by
  have hmp := can_pos hm h0
  have hml : V m < Lim := V_lt128 hm
  have hx := Nat.mod_lt (V a) hmp
  have cx : Can (E (V a % V m)) := can_E' (Nat.lt_trans hx hml)
  have sx : (E (V a % V m)).size ≤ 60 := by
    rw [E_size_le]
    exact Nat.lt_trans hx ((can_lt hm 60).2 h60)
  obtain ⟨g, x, y, hP, hE⟩ := riext_fix (E (V a % V m)) m sx h60 cx hm (by omega)
  rw [V_E] at hP
  have hg1 : g = 1 := hP.1.trans hg
  have hfin := inv_of_ext hP hmp hg1
  have hzm := fun w => rimod_z x m w hP.2.2.2.2.1 hm hmp (by omega) (by omega)
  subst hg1
  have HF := Lib.hid hfin; clear hfin
  have HZM := Lib.hid hzm; clear hzm
  have HE := Lib.hid hE; clear hE
  clear hP hg sx
  have CX := Lib.hid cx; clear cx
  have HA := Lib.hid ha; clear ha
  have HM := Lib.hid hm; clear hm
  have H0 := Lib.hid hmp; clear hmp hml hx
  go_enter Tryz.func107, Tryz.ntmps107
  go_wp2_with fail
  have b0 : Below w.heap.size w (w.alloc (.cells #[.string a, .string m] 22)) := (Below.refl _ _).alloc (Nat.le_refl _) _
  refine (rcheck_new m [a] ([a] ++ [m]) 2 22 #[.string a, .string m] w rfl rfl rfl (by omega)).mono ?_
  rintro e w1 ⟨⟨v, rfl, hv⟩, rfl⟩
  obtain rfl := hv.ok HM.out h0 (by intro s hs; simp at hs; subst hs; exact HA.out)
  have B0 := Lib.hid b0; clear b0 hv
  generalize w.alloc _ = w1 at *
  go_wp2_with fail
  refine (rmod_any a m _ HA.out HM.out H0.out).mono ?_
  rintro e w2 ⟨rfl, b2⟩
  have B2 := Lib.hid (bnext B0.out b2); clear b2
  go_wp2_with fail
  refine (HE.out _).mono ?_
  rintro e w3 ⟨rfl, b3⟩
  have B3 := Lib.hid (bnext B2.out b3); clear b3
  go_wp2_with fail
  have T1 := (Two.new w3 (.bool (ZG x)) (.string (ZS x)) 37 w3.heap.size rfl).alloc (.cells #[.bool (ZG y), .string (ZS y)] 37)
  have B4 : Below w.heap.size w ((w3.alloc (.cells #[.bool (ZG x), .string (ZS x)] 37)).alloc (.cells #[.bool (ZG y), .string (ZS y)] 37)) := (B3.out.alloc B3.out.size _).alloc (by have := B3.out.size; simp; omega) _
  have B4 := Lib.hid B4
  generalize (w3.alloc _).alloc _ = w4 at *
  refine (rof_any 1 _ (by omega)).mono ?_
  rintro e w5 ⟨rfl, b5⟩
  obtain ⟨q1, q2, q3, q4, q5⟩ := T1.below b5 rfl
  have B5 := Lib.hid (bnext B4.out b5); clear b5 B4 B3 B2 B0
  go_wp2_with fail
  refine (HZM.out _).mono ?_
  rintro e w6 ⟨rfl, b6⟩
  have B6 := Lib.hid (bnext B5.out b6); clear b6
  go_wp2
  go_ret2
  exact ⟨⟨x.natAbs, rfl, HF.out.2⟩, B6.out⟩

set_option maxHeartbeats 1000000 in
set_option maxRecDepth 20000 in
theorem rinv_no (a m : ByteArray) (w : World) (ha : Can a) (hm : Can m) (h0 : 0 < m.size) (h60 : m.size ≤ 60) (hg : Nat.gcd (V a % V m) (V m) ≠ 1) :
    Calls Tryz.prog 107 #[.string a, .string m] w fun e w' => e = .returned (.tuple #[.string ⟨#[]⟩, .int .i64 9]) ∧ Below w.heap.size w w' := by
  have hmp := can_pos hm h0
  have hml : V m < Lim := V_lt128 hm
  have hx := Nat.mod_lt (V a) hmp
  have cx : Can (E (V a % V m)) := can_E' (Nat.lt_trans hx hml)
  have sx : (E (V a % V m)).size ≤ 60 := by
    rw [E_size_le]
    exact Nat.lt_trans hx ((can_lt hm 60).2 h60)
  obtain ⟨g, x, y, hP, hE⟩ := riext_fix (E (V a % V m)) m sx h60 cx hm (by omega)
  rw [V_E] at hP
  have hg1 : g ≠ 1 := fun h => hg (hP.1.symm.trans h)
  have hbe := E_bne hg1
  clear hg1
  have HE := Lib.hid hE; clear hE
  clear hP hg sx
  have CX := Lib.hid cx; clear cx
  have HA := Lib.hid ha; clear ha
  have HM := Lib.hid hm; clear hm
  have H0 := Lib.hid hmp; clear hmp hml hx
  go_enter Tryz.func107, Tryz.ntmps107
  go_wp2_with fail
  have b0 : Below w.heap.size w (w.alloc (.cells #[.string a, .string m] 22)) := (Below.refl _ _).alloc (Nat.le_refl _) _
  refine (rcheck_new m [a] ([a] ++ [m]) 2 22 #[.string a, .string m] w rfl rfl rfl (by omega)).mono ?_
  rintro e w1 ⟨⟨v, rfl, hv⟩, rfl⟩
  obtain rfl := hv.ok HM.out h0 (by intro s hs; simp at hs; subst hs; exact HA.out)
  have B0 := Lib.hid b0; clear b0 hv
  generalize w.alloc _ = w1 at *
  go_wp2_with fail
  refine (rmod_any a m _ HA.out HM.out H0.out).mono ?_
  rintro e w2 ⟨rfl, b2⟩
  have B2 := Lib.hid (bnext B0.out b2); clear b2
  go_wp2_with fail
  refine (HE.out _).mono ?_
  rintro e w3 ⟨rfl, b3⟩
  have B3 := Lib.hid (bnext B2.out b3); clear b3
  go_wp2_with fail
  have T1 := (Two.new w3 (.bool (ZG x)) (.string (ZS x)) 37 w3.heap.size rfl).alloc (.cells #[.bool (ZG y), .string (ZS y)] 37)
  have B4 : Below w.heap.size w ((w3.alloc (.cells #[.bool (ZG x), .string (ZS x)] 37)).alloc (.cells #[.bool (ZG y), .string (ZS y)] 37)) := (B3.out.alloc B3.out.size _).alloc (by have := B3.out.size; simp; omega) _
  have B4 := Lib.hid B4
  generalize (w3.alloc _).alloc _ = w4 at *
  refine (rof_any 1 _ (by omega)).mono ?_
  rintro e w5 ⟨rfl, b5⟩
  obtain ⟨q1, q2, q3, q4, q5⟩ := T1.below b5 rfl
  have B5 := Lib.hid (bnext B4.out b5); clear b5 B4 B3 B2 B0
  go_wp2
  go_ret2
  exact ⟨rfl, B5.out⟩

set_option maxHeartbeats 600000 in
set_option maxRecDepth 20000 in
theorem rpower_bad1 (a s m : ByteArray) (g : Bool) (w : World) (ha : ¬ Can a) :
    Calls Tryz.prog 86 #[.string a, .agg #[.bool g, .string s], .string m] w fun e w' => e = .returned (.tuple #[.string ⟨#[]⟩, .int .i64 3]) ∧ Below w.heap.size w w' := by
  have HA := Lib.hid ha; clear ha
  go_enter Tryz.func86, Tryz.ntmps86
  go_wp2_with fail
  refine (rvalid_no a _ HA.out).mono ?_; rintro e wx ⟨rfl, rfl⟩
  go_wp2
  go_ret2
  exact ⟨rfl, (Below.refl _ _).alloc (Nat.le_refl _) _⟩

set_option maxHeartbeats 600000 in
set_option maxRecDepth 20000 in
theorem rpower_bad2 (a s m : ByteArray) (g : Bool) (w : World) (ha : Can a) (hi : ¬ IVal g s) :
    Calls Tryz.prog 86 #[.string a, .agg #[.bool g, .string s], .string m] w fun e w' => e = .returned (.tuple #[.string ⟨#[]⟩, .int .i64 3]) ∧ Below w.heap.size w w' := by
  have HA := Lib.hid ha; clear ha
  have HI := Lib.hid hi; clear hi
  go_enter Tryz.func86, Tryz.ntmps86
  go_wp2_with fail
  refine (rvalid_yes a _ HA.out).mono ?_; rintro e wx ⟨rfl, rfl⟩
  go_wp2_with fail
  refine (rivalid_f g s _ HI.out).mono ?_; rintro e w1 ⟨rfl, b1⟩
  obtain ⟨T1, k1⟩ := after1 b1
  go_wp2
  go_ret2
  exact ⟨rfl, k1⟩

set_option maxHeartbeats 600000 in
set_option maxRecDepth 20000 in
theorem rpower_bad3 (a s m : ByteArray) (g : Bool) (w : World) (ha : Can a) (hi : IVal g s) (hm : ¬ Can m) :
    Calls Tryz.prog 86 #[.string a, .agg #[.bool g, .string s], .string m] w fun e w' => e = .returned (.tuple #[.string ⟨#[]⟩, .int .i64 3]) ∧ Below w.heap.size w w' := by
  have HA := Lib.hid ha; clear ha
  have HI := Lib.hid hi; clear hi
  have HM := Lib.hid hm; clear hm
  go_enter Tryz.func86, Tryz.ntmps86
  go_wp2_with fail
  refine (rvalid_yes a _ HA.out).mono ?_; rintro e wx ⟨rfl, rfl⟩
  go_wp2_with fail
  refine (rivalid_t g s _ HI.out).mono ?_; rintro e w1 ⟨rfl, b1⟩
  obtain ⟨T1, k1⟩ := after1 b1
  go_wp2_with fail
  refine (rvalid_no m _ HM.out).mono ?_; rintro e wx ⟨rfl, rfl⟩
  go_wp2
  go_ret2
  exact ⟨rfl, k1⟩

set_option maxHeartbeats 600000 in
set_option maxRecDepth 20000 in
theorem rpower_zero (a s m : ByteArray) (g : Bool) (w : World) (ha : Can a) (hi : IVal g s) (hm : Can m) (h0 : m.size = 0) :
    Calls Tryz.prog 86 #[.string a, .agg #[.bool g, .string s], .string m] w fun e w' => e = .returned (.tuple #[.string ⟨#[]⟩, .int .i64 11]) ∧ Below w.heap.size w w' := by
  have hE := empty_of h0
  have HA := Lib.hid ha; clear ha
  have HI := Lib.hid hi; clear hi
  have HM := Lib.hid hm; clear hm
  go_enter Tryz.func86, Tryz.ntmps86
  go_wp2_with fail
  refine (rvalid_yes a _ HA.out).mono ?_; rintro e wx ⟨rfl, rfl⟩
  go_wp2_with fail
  refine (rivalid_t g s _ HI.out).mono ?_; rintro e w1 ⟨rfl, b1⟩
  obtain ⟨T1, k1⟩ := after1 b1
  go_wp2_with fail
  refine (rvalid_yes m _ HM.out).mono ?_; rintro e wx ⟨rfl, rfl⟩
  go_wp2
  go_ret2
  exact ⟨rfl, k1⟩

set_option maxHeartbeats 600000 in
set_option maxRecDepth 20000 in
theorem rpower_pos (a s m : ByteArray) (w : World) (ha : Can a) (hi : IVal false s) (hs : Can s) (hm : Can m) (h0 : 0 < m.size) (h64 : m.size ≤ 64) :
    Calls Tryz.prog 86 #[.string a, .agg #[.bool false, .string s], .string m] w fun e w' => e = .returned (.tuple #[.string (E (V a ^ V s % V m)), .int .i64 0]) ∧ Below w.heap.size w w' := by
  have hE := not_empty_of (show m.size ≠ 0 by omega)
  have hmp := can_pos hm h0
  have HMP := Lib.hid hmp; clear hmp
  have HA := Lib.hid ha; clear ha
  have HI := Lib.hid hi; clear hi
  have HM := Lib.hid hm; clear hm
  have HS := Lib.hid hs; clear hs
  go_enter Tryz.func86, Tryz.ntmps86
  go_wp2_with fail
  refine (rvalid_yes a _ HA.out).mono ?_; rintro e wx ⟨rfl, rfl⟩
  go_wp2_with fail
  refine (rivalid_t false s _ HI.out).mono ?_; rintro e w1 ⟨rfl, b1⟩
  obtain ⟨T1, k1⟩ := after1 b1
  obtain ⟨q1, q2, q3, q4, q5⟩ := T1
  go_wp2_with fail
  refine (rvalid_yes m _ HM.out).mono ?_; rintro e wx ⟨rfl, rfl⟩
  go_wp2_with fail
  refine (rraise_m a s m _ HA.out HS.out HM.out HMP.out h64).mono ?_; rintro e w2 ⟨rfl, b2⟩
  have k2 := bnext k1 b2
  go_wp2
  go_ret2
  exact ⟨rfl, k2⟩

set_option maxHeartbeats 600000 in
set_option maxRecDepth 20000 in
theorem rpower_negerr (a s m S : ByteArray) (v : Int) (w : World) (ha : Can a) (hi : IVal true s) (hm : Can m) (h0 : 0 < m.size) (hv : (v != 0) = true)
    (hI : ∀ w, Calls Tryz.prog 107 #[.string a, .string m] w fun e w' => e = .returned (.tuple #[.string S, .int .i64 v]) ∧ Below w.heap.size w w') :
    Calls Tryz.prog 86 #[.string a, .agg #[.bool true, .string s], .string m] w fun e w' => e = .returned (.tuple #[.string ⟨#[]⟩, .int .i64 v]) ∧ Below w.heap.size w w' := by
  have hE := not_empty_of (show m.size ≠ 0 by omega)
  have hmp := can_pos hm h0
  have HMP := Lib.hid hmp; clear hmp
  have HA := Lib.hid ha; clear ha
  have HI := Lib.hid hi; clear hi
  have HM := Lib.hid hm; clear hm
  have HV := Lib.hid hI; clear hI
  go_enter Tryz.func86, Tryz.ntmps86
  go_wp2_with fail
  refine (rvalid_yes a _ HA.out).mono ?_; rintro e wx ⟨rfl, rfl⟩
  go_wp2_with fail
  refine (rivalid_t true s _ HI.out).mono ?_; rintro e w1 ⟨rfl, b1⟩
  obtain ⟨T1, k1⟩ := after1 b1
  obtain ⟨q1, q2, q3, q4, q5⟩ := T1
  go_wp2_with fail
  refine (rvalid_yes m _ HM.out).mono ?_; rintro e wx ⟨rfl, rfl⟩
  go_wp2_with fail
  refine (HV.out _).mono ?_; rintro e w2 ⟨rfl, b2⟩
  have k2 := bnext k1 b2
  go_wp2
  go_ret2
  exact ⟨rfl, k2⟩

set_option maxHeartbeats 600000 in
set_option maxRecDepth 20000 in
theorem rpower_neg (a s m x : ByteArray) (w : World) (ha : Can a) (hi : IVal true s) (hs : Can s) (hm : Can m) (h0 : 0 < m.size) (h64 : m.size ≤ 64) (hx : Can x)
    (hI : ∀ w, Calls Tryz.prog 107 #[.string a, .string m] w fun e w' => e = .returned (.tuple #[.string x, .int .i64 0]) ∧ Below w.heap.size w w') :
    Calls Tryz.prog 86 #[.string a, .agg #[.bool true, .string s], .string m] w fun e w' => e = .returned (.tuple #[.string (E (V x ^ V s % V m)), .int .i64 0]) ∧ Below w.heap.size w w' := by
  have hE := not_empty_of (show m.size ≠ 0 by omega)
  have hmp := can_pos hm h0
  have HMP := Lib.hid hmp; clear hmp
  have HA := Lib.hid ha; clear ha
  have HI := Lib.hid hi; clear hi
  have HM := Lib.hid hm; clear hm
  have HS := Lib.hid hs; clear hs
  have HV := Lib.hid hI; clear hI
  have HX := Lib.hid hx; clear hx
  go_enter Tryz.func86, Tryz.ntmps86
  go_wp2_with fail
  refine (rvalid_yes a _ HA.out).mono ?_; rintro e wx ⟨rfl, rfl⟩
  go_wp2_with fail
  refine (rivalid_t true s _ HI.out).mono ?_; rintro e w1 ⟨rfl, b1⟩
  obtain ⟨T1, k1⟩ := after1 b1
  have T1' := Lib.hid T1
  obtain ⟨q1, q2, q3, q4, q5⟩ := T1
  go_wp2_with fail
  refine (rvalid_yes m _ HM.out).mono ?_; rintro e wx ⟨rfl, rfl⟩
  go_wp2_with fail
  refine (HV.out _).mono ?_; rintro e w2 ⟨rfl, b2⟩
  have k2 := bnext k1 b2
  obtain ⟨q1, q2, q3, q4, q5⟩ := T1'.out.below b2 rfl
  go_wp2_with fail
  refine (rraise_m x s m _ HX.out HS.out HM.out HMP.out h64).mono ?_; rintro e w3 ⟨rfl, b3⟩
  have k3 := bnext k2 b3
  go_wp2
  go_ret2
  exact ⟨rfl, k3⟩
end Go.Proofs.YtogmgfdihmacpaaGreatDoor


/-
  Contracts of the reference of layer 3, the sixth part: Join.
-/
namespace Go.Proofs.YtogmgfdihmacpaaGreatDoor
open Go.RowKit
set_option linter.unusedVariables false

theorem E_size12 {x y k : Nat} (h : x ≤ y) (hy : y < 256 ^ k) : (E x).size ≤ k := by
  rw [E_size_le]; exact Nat.lt_of_le_of_lt h hy

/-- Two numbers below the least common multiple with the same remainders are one. -/
theorem join_one {M N x y : Nat} (hM : 0 < M) (hx : x < M * (N / Nat.gcd M N)) (hy : y < M * (N / Nat.gcd M N)) (h1 : x % M = y % M) (h2 : x % N = y % N) : x = y := by
  have e : M * (N / Nat.gcd M N) = Nat.lcm M N := by
    rw [Nat.lcm, Nat.mul_div_assoc _ (Nat.gcd_dvd_right M N)]
  rw [e] at hx hy
  have d : ∀ u v : Nat, v ≤ u → u % M = v % M → u % N = v % N → u < Nat.lcm M N → u = v := by
    intro u v hle q1 q2 hu
    have d1 : M ∣ u - v := Nat.dvd_of_mod_eq_zero (Nat.sub_mod_eq_zero_of_mod_eq q1)
    have d2 : N ∣ u - v := Nat.dvd_of_mod_eq_zero (Nat.sub_mod_eq_zero_of_mod_eq q2)
    have d3 : Nat.lcm M N ∣ u - v := Nat.lcm_dvd d1 d2
    rcases Nat.eq_zero_or_pos (u - v) with h | h
    · omega
    · have := Nat.le_of_dvd h d3; omega
  rcases Nat.le_total x y with h | h
  · exact (d y x h h1.symm h2.symm hy).symm
  · exact d x y h h1 h2 hx
end Go.Proofs.YtogmgfdihmacpaaGreatDoor


/-
  Layer 3's statements: Raises.
-/
namespace Go.Proofs.YtogmgfdihmacpaaGreatDoor
open Go.RowKit
set_option linter.unusedVariables false

set_option maxHeartbeats 800000 in
set_option maxRecDepth 20000 in
theorem rexp_m (a b m : ByteArray) (w : World) (ha : Can a) (hb : Can b) (hm : Can m) (h0 : 0 < m.size) (h64 : m.size ≤ 64) :
    Calls Tryz.prog 95 #[.string a, .string b, .string m] w fun e w' => e = .returned (.tuple #[.string (E (V a ^ V b % V m)), .int .i64 0]) ∧ Below w.heap.size w w' := by
  have hmp := can_pos hm h0
  have H0 := Lib.hid hmp; clear hmp
  have HA := Lib.hid ha; clear ha
  have HB := Lib.hid hb; clear hb
  have HM := Lib.hid hm; clear hm
  go_enter Tryz.func95, Tryz.ntmps95
  go_wp2_with fail
  have b0 : Below w.heap.size w (w.alloc (.cells #[.string a, .string b, .string m] 22)) := (Below.refl _ _).alloc (Nat.le_refl _) _
  refine (rcheck_new m [a, b] ([a, b] ++ [m]) 3 22 #[.string a, .string b, .string m] w rfl rfl rfl (by omega)).mono ?_
  rintro e w1 ⟨⟨v, rfl, hv⟩, rfl⟩
  obtain rfl := hv.ok HM.out h0 (by intro s hs; simp at hs; rcases hs with rfl | rfl; exact HA.out; exact HB.out)
  have B0 := Lib.hid b0; clear b0 hv
  generalize w.alloc _ = w1 at *
  go_wp2_with fail
  refine (rraise_m a b m _ HA.out HB.out HM.out H0.out h64).mono ?_; rintro e w2 ⟨rfl, b2⟩
  have B2 := Lib.hid (bnext B0.out b2); clear b2
  go_wp2
  go_ret2
  exact ⟨rfl, B2.out⟩
theorem exp_agree (a b m : ByteArray) (h : m.size ≤ 64) : ∃ (S : ByteArray) (v : Int),
    (∀ w, Calls Tryz.prog 48 #[.string a, .string b, .string m] w fun e w' => e = .returned (.tuple #[.string S, .int .i64 v]) ∧ Below w.heap.size w w') ∧
    (∀ w, Calls Tryz.prog 95 #[.string a, .string b, .string m] w fun e w' => e = .returned (.tuple #[.string S, .int .i64 v]) ∧ Below w.heap.size w w') := by
  by_cases hc : Can m ∧ ∀ s, s ∈ [a, b] → Can s
  · have ha : Can a := hc.2 a (by simp)
    have hb : Can b := hc.2 b (by simp)
    by_cases h0 : m.size = 0
    · have hz : ∀ c, ChkP m [a, b] c → c = 11 := fun c h => h.zero hc h0
      exact ⟨_, 11, fun w => mexp_err a b m 11 w hz (by decide), fun w => rexp_err a b m 11 w hz (by decide)⟩
    · exact ⟨_, 0, fun w => mexp_ok a b m w ha hb hc.1 (by omega), fun w => rexp_m a b m w ha hb hc.1 (by omega) h⟩
  · have hz : ∀ c, ChkP m [a, b] c → c = 3 := fun c h => h.form hc
    exact ⟨_, 3, fun w => mexp_err a b m 3 w hz (by decide), fun w => rexp_err a b m 3 w hz (by decide)⟩
/-- Inverse: both sides answer the same; what it is where there is no error. -/
theorem inv_agree (a m : ByteArray) (h : m.size ≤ 60) : ∃ (S : ByteArray) (v : Int),
    (∀ w, Calls Tryz.prog 84 #[.string a, .string m] w fun e w' => e = .returned (.tuple #[.string S, .int .i64 v]) ∧ Below w.heap.size w w') ∧
    (∀ w, Calls Tryz.prog 107 #[.string a, .string m] w fun e w' => e = .returned (.tuple #[.string S, .int .i64 v]) ∧ Below w.heap.size w w') ∧
    ((v != 0) = true ∧ S = ⟨#[]⟩ ∨ v = 0 ∧ Can a ∧ Can m ∧ 0 < m.size ∧ ∃ x, S = E x ∧ x < V m ∧ V a * x % V m = 1 % V m) := by
  by_cases hc : Can m ∧ ∀ s, s ∈ [a] → Can s
  · have ha : Can a := hc.2 a (by simp)
    by_cases h0 : m.size = 0
    · have hz : ∀ c, ChkP m [a] c → c = 11 := fun c h => h.zero hc h0
      exact ⟨_, 11, fun w => minv_err a m 11 w hz (by decide), fun w => rinverse_err a m 11 w hz (by decide), .inl ⟨by decide, rfl⟩⟩
    · have h0 : 0 < m.size := by omega
      by_cases hg : Nat.gcd (V a % V m) (V m) = 1
      · have hmp := can_pos hc.1 h0
        obtain ⟨x, hx1, hx2⟩ : ∃ x, x < V m ∧ V a * x % V m = 1 % V m := by
          obtain ⟨g, x, y, hP⟩ := ext_exists (a := V a % V m) (b := V m) (Nat.lt_trans (Nat.mod_lt _ hmp) (V_lim hc.1)) (V_lim hc.1)
          have hf := inv_of_ext hP hmp (hP.1.trans hg)
          exact ⟨_, hf.2⟩
        refine ⟨E x, 0, fun w => (minv_yes a m w ha hc.1 h0 hg).mono ?_, fun w => (rinv_yes a m w ha hc.1 h0 h hg).mono ?_, .inr ⟨rfl, ha, hc.1, h0, x, rfl, hx1, hx2⟩⟩
        · rintro e w' ⟨⟨x', rfl, h1, h2⟩, hb⟩
          rw [inv_unique h1 hx1 h2 hx2]
          exact ⟨rfl, hb⟩
        · rintro e w' ⟨⟨x', rfl, h1, h2⟩, hb⟩
          rw [inv_unique h1 hx1 h2 hx2]
          exact ⟨rfl, hb⟩
      · exact ⟨_, 9, fun w => minv_no a m w ha hc.1 h0 hg, fun w => rinv_no a m w ha hc.1 h0 h hg, .inl ⟨by decide, rfl⟩⟩
  · have hz : ∀ c, ChkP m [a] c → c = 3 := fun c h => h.form hc
    exact ⟨_, 3, fun w => minv_err a m 3 w hz (by decide), fun w => rinverse_err a m 3 w hz (by decide), .inl ⟨by decide, rfl⟩⟩
end Go.Proofs.YtogmgfdihmacpaaGreatDoor


/-
  Layer 3's statements: Inverts.
-/
namespace Go.Proofs.YtogmgfdihmacpaaGreatDoor
open Go.RowKit
set_option linter.unusedVariables false

/-- What a drawn region keeps of a variable of the struct Numbers. -/
abbrev NumS (w : World) (p : Nat) (a b : ByteArray) (g : Bool) (e m : ByteArray) (w' : World) : Prop :=
  w'.cell? ⟨p, 0, none⟩ = some (.string a) ∧ w'.cell? ⟨p, 1, none⟩ = some (.string b) ∧ w'.cell? ⟨p, 2, none⟩ = some (.bool g) ∧ w'.cell? ⟨p, 3, none⟩ = some (.string e) ∧ w'.cell? ⟨p, 4, none⟩ = some (.string m) ∧ p < w'.heap.size ∧ Below w.heap.size w w'
theorem numS_next {w w1 w2 : World} {p : Nat} {a b e m : ByteArray} {g : Bool} (hb : Below w1.heap.size w1 w2) (h : NumS w p a b g e m w1) : NumS w p a b g e m w2 := by
  obtain ⟨h0, h1, h2, h3, h4, h5, h6⟩ := h
  obtain ⟨k0, k1, k2, k3, k4, k5⟩ := Num5.below ⟨h0, h1, h2, h3, h4, h5⟩ hb
  exact ⟨k0, k1, k2, k3, k4, k5, bnext h6 hb⟩
theorem numS_drew {w w1 : World} {p : Nat} {a b e m : ByteArray} {g : Bool} (h : NumS w p a b g e m w1) : NumS w p a b g e m w1.drew := numS_next (Below.refl _ _).drew h
theorem numS_below {w w1 : World} {p : Nat} {a b e m : ByteArray} {g : Bool} (h : NumS w p a b g e m w1) : Below w.heap.size w w1 := h.2.2.2.2.2.2
theorem gcd_of_inv {a x m : Nat} (h : a * x % m = 1 % m) : Nat.gcd (x % m) m = 1 := by
  rw [← Nat.gcd_rec, Nat.gcd_comm]
  have h1 : Nat.gcd x m ∣ a * x % m := by
    have d1 : Nat.gcd x m ∣ a * x := Nat.dvd_trans (Nat.gcd_dvd_left x m) (Nat.dvd_mul_left x a)
    exact (Nat.dvd_mod_iff (Nat.gcd_dvd_right x m)).2 d1
  rw [h] at h1
  have h2 : Nat.gcd x m ∣ 1 := (Nat.dvd_mod_iff (Nat.gcd_dvd_right x m)).1 h1
  exact Nat.dvd_one.1 h2

end Go.Proofs.YtogmgfdihmacpaaGreatDoor


/-
  Layer 3's statements: Joins.
-/
namespace Go.Proofs.YtogmgfdihmacpaaGreatDoor
open Go.RowKit
set_option linter.unusedVariables false

/-- The four cells of a variable of the struct Pair. -/
def Pair4 (w : World) (p : Nat) (a m b n : ByteArray) : Prop :=
  w.cell? ⟨p, 0, none⟩ = some (.string a) ∧ w.cell? ⟨p, 1, none⟩ = some (.string m) ∧ w.cell? ⟨p, 2, none⟩ = some (.string b) ∧ w.cell? ⟨p, 3, none⟩ = some (.string n) ∧ p < w.heap.size
theorem Pair4.new (w : World) (a m b n : ByteArray) (t : TypeId) : Pair4 (w.alloc (.cells #[.string a, .string m, .string b, .string n] t)) w.heap.size a m b n := by
  have hr : (w.alloc (.cells #[.string a, .string m, .string b, .string n] t)).rowIs w.heap.size t 4 (fun i => (#[.string a, .string m, .string b, .string n] : Array Value)[i]?.getD (.bool false)) :=
    World.rowIs_alloc w _ _ _ (fun i hi => by simp at hi ⊢; simp [hi])
  exact ⟨hr.cell (by omega), hr.cell (by omega), hr.cell (by omega), hr.cell (by omega), by simp⟩
theorem Pair4.below {w w' : World} {p : Nat} {a m b n : ByteArray} (h : Pair4 w p a m b n) (hb : Below w.heap.size w w') : Pair4 w' p a m b n := by
  obtain ⟨h0, h1, h2, h3, h5⟩ := h
  exact ⟨(hb.cell (p := ⟨p, 0, none⟩) h5).trans h0, (hb.cell (p := ⟨p, 1, none⟩) h5).trans h1, (hb.cell (p := ⟨p, 2, none⟩) h5).trans h2, (hb.cell (p := ⟨p, 3, none⟩) h5).trans h3, Nat.lt_of_lt_of_le h5 hb.size⟩
/-- A number without a common divisor has an inverse. -/
theorem unit_of_gcd {a n : Nat} (hn : 0 < n) (hl : n < Lim) (h : Nat.gcd (a % n) n = 1) : ∃ u, a * u % n = 1 % n := by
  obtain ⟨g, x, y, hP⟩ := ext_exists (a := a % n) (b := n) (Nat.lt_trans (Nat.mod_lt _ hn) hl) hl
  exact ⟨_, (inv_of_ext hP hn (hP.1.trans h)).2.2⟩
theorem join_exists {A M B N : Nat} (hM : 0 < M) (hN : 0 < N) (hNl : N < Lim) (hAB : A % Nat.gcd M N = B % Nat.gcd M N) :
    ∃ x, x % M = A % M ∧ x % N = B % N ∧ x < M * (N / Nat.gcd M N) := by
  have hg0 : 0 < Nat.gcd M N := Nat.gcd_pos_of_pos_left _ hM
  have hnp0 : 0 < N / Nat.gcd M N := Nat.div_pos (Nat.le_of_dvd hN (Nat.gcd_dvd_right _ _)) hg0
  have hcop := gcd_parts (N := N) hM rfl
  obtain ⟨u, hu⟩ := unit_of_gcd hnp0 (Nat.lt_of_le_of_lt (Nat.div_le_self _ _) hNl) hcop
  exact ⟨_, join_num hM hN rfl rfl rfl hAB rfl rfl hu rfl⟩
theorem pow24 : 256 ^ 12 * 256 ^ 12 ≤ Lim := by rw [lim_eq]; decide +kernel
end Go.Proofs.YtogmgfdihmacpaaGreatDoor


/-
  Layer 3's statements: Exponents.
-/
namespace Go.Proofs.YtogmgfdihmacpaaGreatDoor
open Go.RowKit
set_option linter.unusedVariables false
end Go.Proofs.YtogmgfdihmacpaaGreatDoor


/-
  Layer 3's statements: Exponents, the law.
-/
namespace Go.Proofs.YtogmgfdihmacpaaGreatDoor
open Go.RowKit
set_option linter.unusedVariables false

theorem minv_fix (a m : ByteArray) (ha : Can a) (hm : Can m) (h0 : 0 < m.size) (hg : Nat.gcd (V a % V m) (V m) = 1) : ∃ x, x < V m ∧ V a * x % V m = 1 % V m ∧
    ∀ w, Calls Tryz.prog 84 #[.string a, .string m] w fun e w' => e = .returned (.tuple #[.string (E x), .int .i64 0]) ∧ Below w.heap.size w w' := by
  have hmp := can_pos hm h0
  obtain ⟨g, x, y, hP⟩ := ext_exists (a := V a % V m) (b := V m) (Nat.lt_trans (Nat.mod_lt _ hmp) (V_lim hm)) (V_lim hm)
  have hf := inv_of_ext hP hmp (hP.1.trans hg)
  refine ⟨_, hf.2.1, hf.2.2, fun w => (minv_yes a m w ha hm h0 hg).mono ?_⟩
  rintro e w' ⟨⟨x', rfl, h1, h2⟩, hb⟩
  rw [inv_unique h1 hf.2.1 h2 hf.2.2]
  exact ⟨rfl, hb⟩
theorem exps_num {a x n m : Nat} (h : a * x % m = 1 % m) : a ^ n % m * (x ^ n % m) % m = 1 % m := by
  rw [← Nat.mul_mod, ← Nat.mul_pow, Nat.pow_mod, h, ← Nat.pow_mod, Nat.one_pow]
end Go.Proofs.YtogmgfdihmacpaaGreatDoor

