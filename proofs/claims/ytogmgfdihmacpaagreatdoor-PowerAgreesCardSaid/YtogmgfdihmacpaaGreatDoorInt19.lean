/-
  The reference's bezout.
-/
import Derived.Test.YtogmgfdihmacpaaGreatDoorInt18
import Derived.Test.YtogmgfdihmacpaaGreatDoorIB
namespace Go.Proofs.YtogmgfdihmacpaaGreatDoor
open Go.RowKit
set_option linter.unusedVariables false

theorem riof_1 (w : World) : Calls Tryz.prog 148 #[.int .i64 1] w fun e w' => e = .returned (.agg #[.bool false, .string ⟨#[1]⟩]) ∧ Below w.heap.size w w' := riof_any 1 w (by omega) (by omega)
theorem riof_0 (w : World) : Calls Tryz.prog 148 #[.int .i64 0] w fun e w' => e = .returned (.agg #[.bool false, .string ⟨#[]⟩]) ∧ Below w.heap.size w w' := riof_any 0 w (by omega) (by omega)
set_option maxHeartbeats 4000000 in
set_option maxRecDepth 20000 in
theorem rbez_base (s t : ByteArray) (w : World) (h : t.toList.isEmpty = true) :
    Calls Tryz.prog 149 #[.string s, .string t] w fun e w' => e = .returned (.tuple #[.string s, .agg #[.bool false, .string ⟨#[1]⟩], .agg #[.bool false, .string ⟨#[]⟩]]) ∧ Below w.heap.size w w' := by
  have k := Below.refl w.heap.size w
  have R := Two.new w (.bool false) (.string ⟨#[]⟩) 37 (w.heap.size) (by first | (simp; done) | (simp; omega) | omega)
  have k := k.alloc (by first | (simp; done) | (simp; omega) | omega) (.cells #[.bool false, .string ⟨#[]⟩] 37)
  have R := R.alloc (.cells #[.bool false, .string ⟨#[]⟩] 37)
  have S := Two.new (w.alloc (.cells #[.bool false, .string ⟨#[]⟩] 37)) (.bool false) (.string ⟨#[]⟩) 37 (w.heap.size + 1) (by first | (simp; done) | (simp; omega) | omega)
  have k := k.alloc (by first | (simp; done) | (simp; omega) | omega) (.cells #[.bool false, .string ⟨#[]⟩] 37)
  go_enter Tryz.func149, Tryz.ntmps149
  go_wp2_with fail
  refine (riof_1 _).mono ?_; rintro e w1 ⟨rfl, b1⟩
  have R := R.below b1 rfl
  have S := S.below b1 rfl
  have lR := R.2.2.2.2
  have lS := S.2.2.2.2
  have k := bnextW k b1 (by first | (simp; done) | (simp; omega) | omega)
  have z1 := k.size
  go_wp2_with fail
  refine (riof_0 _).mono ?_; rintro e w2 ⟨rfl, b2⟩
  have R := R.below b2 rfl
  have S := S.below b2 rfl
  have lR := R.2.2.2.2
  have lS := S.2.2.2.2
  have k := bnextW k b2 (by first | (simp; done) | (simp; omega) | omega)
  have z2 := k.size
  obtain ⟨m1, m2⟩ := ((R.set (.bool false) (.string ⟨#[1]⟩)).set_ne (w.heap.size + 1) (.bool false) (.string ⟨#[]⟩) (by omega)).out
  obtain ⟨m3, m4⟩ := ((S.set_ne (w.heap.size) (.bool false) (.string ⟨#[1]⟩) (by omega)).set (.bool false) (.string ⟨#[]⟩)).out
  obtain ⟨r1, r2, r3, r4, r5⟩ := id R
  obtain ⟨u1, u2, u3, u4, u5⟩ := id S
  go_wp2
  refine bodyPost_ret (v := .tuple #[.string s, .agg #[.bool false, .string ⟨#[1]⟩], .agg #[.bool false, .string ⟨#[]⟩]]) (by simp [results, Tryz.results149, go_sem, m1, m2, m3, m4]) rfl ⟨rfl, ?_⟩
  exact bset (bset k (by omega)) (by omega)

set_option maxHeartbeats 16000000 in
set_option maxRecDepth 100000 in
theorem rbez_step (s t q r g SX SY SQ SP SZ : ByteArray) (GX GY GQ GP GZ : Bool) (w : World) (h : t.toList.isEmpty = false)
    (h_d : (∀ w, Calls Tryz.prog 123 #[.string s, .string t] w fun e w' => e = .returned (.tuple #[.string q, .string r, .int .i64 0]) ∧ Below w.heap.size w w'))
    (h_b : (∀ w, Calls Tryz.prog 149 #[.string t, .string r] w fun e w' => e = .returned (.tuple #[.string g, .agg #[.bool GX, .string SX], .agg #[.bool GY, .string SY]]) ∧ Below w.heap.size w w'))
    (h_f : (∀ w, Calls Tryz.prog 151 #[.string q] w fun e w' => e = .returned (.agg #[.bool GQ, .string SQ]) ∧ Below w.heap.size w w'))
    (h_m : (∀ w, Calls Tryz.prog 152 #[.agg #[.bool GQ, .string SQ], .agg #[.bool GY, .string SY]] w fun e w' => e = .returned (.tuple #[.agg #[.bool GP, .string SP], .int .i64 0]) ∧ Below w.heap.size w w'))
    (h_s : (∀ w, Calls Tryz.prog 160 #[.agg #[.bool GX, .string SX], .agg #[.bool GP, .string SP]] w fun e w' => e = .returned (.tuple #[.agg #[.bool GZ, .string SZ], .int .i64 0]) ∧ Below w.heap.size w w')) :
    Calls Tryz.prog 149 #[.string s, .string t] w fun e w' => e = .returned (.tuple #[.string g, .agg #[.bool GY, .string SY], .agg #[.bool GZ, .string SZ]]) ∧ Below w.heap.size w w' := by
  have H_d := Lib.hid h_d; clear h_d
  have H_b := Lib.hid h_b; clear h_b
  have H_f := Lib.hid h_f; clear h_f
  have H_m := Lib.hid h_m; clear h_m
  have H_s := Lib.hid h_s; clear h_s
  have k := Below.refl w.heap.size w
  have R := Two.new w (.bool false) (.string ⟨#[]⟩) 37 (w.heap.size) (by first | (simp; done) | (simp; omega) | omega)
  have k := k.alloc (by first | (simp; done) | (simp; omega) | omega) (.cells #[.bool false, .string ⟨#[]⟩] 37)
  have R := R.alloc (.cells #[.bool false, .string ⟨#[]⟩] 37)
  have S := Two.new (w.alloc (.cells #[.bool false, .string ⟨#[]⟩] 37)) (.bool false) (.string ⟨#[]⟩) 37 (w.heap.size + 1) (by first | (simp; done) | (simp; omega) | omega)
  have k := k.alloc (by first | (simp; done) | (simp; omega) | omega) (.cells #[.bool false, .string ⟨#[]⟩] 37)
  go_enter Tryz.func149, Tryz.ntmps149
  go_wp2_with fail
  refine (H_d.out _).mono ?_; rintro e w1 ⟨rfl, b1⟩
  have R := R.below b1 rfl
  have S := S.below b1 rfl
  have lR := R.2.2.2.2
  have lS := S.2.2.2.2
  have k := bnextW k b1 (by first | (simp; done) | (simp; omega) | omega)
  have z1 := k.size
  go_wp2_with fail
  refine (H_b.out _).mono ?_; rintro e w2 ⟨rfl, b2⟩
  have R := R.below b2 rfl
  have S := S.below b2 rfl
  have lR := R.2.2.2.2
  have lS := S.2.2.2.2
  have k := bnextW k b2 (by first | (simp; done) | (simp; omega) | omega)
  have z2 := k.size
  have R := R.alloc (.cells #[.bool GX, .string SX] 37)
  have S := S.alloc (.cells #[.bool GX, .string SX] 37)
  have X := Two.new w2 (.bool GX) (.string SX) 37 (w2.heap.size) (by first | (simp; done) | (simp; omega) | omega)
  have k := k.alloc (by first | (simp; done) | (simp; omega) | omega) (.cells #[.bool GX, .string SX] 37)
  have R := R.alloc (.cells #[.bool GY, .string SY] 37)
  have S := S.alloc (.cells #[.bool GY, .string SY] 37)
  have X := X.alloc (.cells #[.bool GY, .string SY] 37)
  have Y := Two.new (w2.alloc (.cells #[.bool GX, .string SX] 37)) (.bool GY) (.string SY) 37 (w2.heap.size + 1) (by first | (simp; done) | (simp; omega) | omega)
  have k := k.alloc (by first | (simp; done) | (simp; omega) | omega) (.cells #[.bool GY, .string SY] 37)
  have z1R := R.2.2.2.2
  have z1S := S.2.2.2.2
  have z1X := X.2.2.2.2
  have z1Y := Y.2.2.2.2
  go_upto_region 5 with fail
  go_cut [13, 14] (fun va vb0 wx => ∃ g : Nat, va = .pointer (some ⟨g, 0, none⟩) ∧ vb0 = .int .i64 0 ∧ Two wx g (.bool GP) (.string SP) ∧ Two wx (w.heap.size) (.bool false) (.string ⟨#[]⟩) ∧ Two wx (w.heap.size + 1) (.bool false) (.string ⟨#[]⟩) ∧ Two wx (w2.heap.size) (.bool GX) (.string SX) ∧ Two wx (w2.heap.size + 1) (.bool GY) (.string SY) ∧ Below w.heap.size w wx ∧ w.heap.size < g ∧ w.heap.size + 1 < g ∧ w2.heap.size < g ∧ w2.heap.size + 1 < g)
  case first =>
    have qpa := Y.1
    have qpb := Y.2.1
    go_region_with (first
      | (go_at_call 151; refine (H_f.out _).mono ?_; rintro e x12 ⟨rfl, b912⟩; have R : Two x12 (w.heap.size) (.bool false) (.string ⟨#[]⟩) := Two.below (by first | with_reducible exact R | with_reducible exact R.drewD | with_reducible exact Two.alloc R _ | with_reducible exact Two.allocD R _) b912 rfl; have S : Two x12 (w.heap.size + 1) (.bool false) (.string ⟨#[]⟩) := Two.below (by first | with_reducible exact S | with_reducible exact S.drewD | with_reducible exact Two.alloc S _ | with_reducible exact Two.allocD S _) b912 rfl; have X : Two x12 (w2.heap.size) (.bool GX) (.string SX) := Two.below (by first | with_reducible exact X | with_reducible exact X.drewD | with_reducible exact Two.alloc X _ | with_reducible exact Two.allocD X _) b912 rfl; have Y : Two x12 (w2.heap.size + 1) (.bool GY) (.string SY) := Two.below (by first | with_reducible exact Y | with_reducible exact Y.drewD | with_reducible exact Two.alloc Y _ | with_reducible exact Two.allocD Y _) b912 rfl; have k : Below w.heap.size w x12 := bnextW (by repeat' (first | assumption | exact Below.refl _ _ | refine Below.drew ?_ | refine Below.setCell ?_ ?_ _ | refine Below.alloc ?_ ?_ _ | (simp; done) | (simp; omega) | omega)) b912 (by first | (simp; done) | (simp; omega) | omega); have z92 := k.size; have y92R := R.2.2.2.2; have y92S := S.2.2.2.2; have y92X := X.2.2.2.2; have y92Y := Y.2.2.2.2; have qpa := Y.1; have qpb := Y.2.1; first | (have T9 : Two x12 (w2.heap.size + 1 + 1) (.bool false) (.string ⟨#[]⟩) := Two.below (Two.newD _ _ _ _ _ (by first | (simp; done) | (simp; omega) | omega)) b912 rfl; have z99 := T9.2.2.2.2) | skip)
      | (go_at_call 152; refine (H_m.out _).mono ?_; rintro e x13 ⟨rfl, b913⟩; have R : Two x13 (w.heap.size) (.bool false) (.string ⟨#[]⟩) := Two.below (by first | with_reducible exact R | with_reducible exact R.drewD | with_reducible exact Two.alloc R _ | with_reducible exact Two.allocD R _) b913 rfl; have S : Two x13 (w.heap.size + 1) (.bool false) (.string ⟨#[]⟩) := Two.below (by first | with_reducible exact S | with_reducible exact S.drewD | with_reducible exact Two.alloc S _ | with_reducible exact Two.allocD S _) b913 rfl; have X : Two x13 (w2.heap.size) (.bool GX) (.string SX) := Two.below (by first | with_reducible exact X | with_reducible exact X.drewD | with_reducible exact Two.alloc X _ | with_reducible exact Two.allocD X _) b913 rfl; have Y : Two x13 (w2.heap.size + 1) (.bool GY) (.string SY) := Two.below (by first | with_reducible exact Y | with_reducible exact Y.drewD | with_reducible exact Two.alloc Y _ | with_reducible exact Two.allocD Y _) b913 rfl; have k : Below w.heap.size w x13 := bnextW (by repeat' (first | assumption | exact Below.refl _ _ | refine Below.drew ?_ | refine Below.setCell ?_ ?_ _ | refine Below.alloc ?_ ?_ _ | (simp; done) | (simp; omega) | omega)) b913 (by first | (simp; done) | (simp; omega) | omega); have z93 := k.size; have y93R := R.2.2.2.2; have y93S := S.2.2.2.2; have y93X := X.2.2.2.2; have y93Y := Y.2.2.2.2; first | (have T9 : Two x13 (w2.heap.size + 1 + 1) (.bool false) (.string ⟨#[]⟩) := Two.below T9 b913 rfl; have T8 := T9; obtain ⟨t1, t2, t3, t4, t5⟩ := T9) | (have T9 : Two x13 x12.heap.size (.bool false) (.string ⟨#[]⟩) := Two.below (by first | with_reducible exact Two.new _ _ _ _ _ rfl | with_reducible exact Two.newD _ _ _ _ _ rfl) b913 rfl; have T8 := T9; obtain ⟨t1, t2, t3, t4, t5⟩ := T9) | skip))
    all_goals go_wp2_with fail
    all_goals go_meet
    all_goals refine ⟨_, rfl, rfl, ?_, ?_, ?_, ?_, ?_, (by repeat' (first | assumption | exact Below.refl _ _ | refine Below.drew ?_ | refine Below.setCell ?_ ?_ _ | refine Below.alloc ?_ ?_ _ | (simp; done) | (simp; omega) | omega)), by omega, by omega, by omega, by omega⟩
    all_goals first | exact Two.new _ _ _ _ _ rfl | exact Two.set T8 _ _ | exact R.set_ne _ _ _ (by omega) | exact R.alloc _ | exact S.set_ne _ _ _ (by omega) | exact S.alloc _ | exact X.set_ne _ _ _ (by omega) | exact X.alloc _ | exact Y.set_ne _ _ _ (by omega) | exact Y.alloc _
  case rest =>
    obtain ⟨g1, rfl, rfl, P, R, S, X, Y, k, i1R, i1S, i1X, i1Y⟩ := hcut
    have zc := k.size
    have c1P := P.2.2.2.2
    have c1R := R.2.2.2.2
    have c1S := S.2.2.2.2
    have c1X := X.2.2.2.2
    have c1Y := Y.2.2.2.2
    have q1a := X.1
    have q1b := X.2.1
    have q2a := P.1
    have q2b := P.2.1
    go_wp2_with fail
    refine (H_s.out _).mono ?_; rintro e w3 ⟨rfl, b3⟩
    clear q1a q1b q2a q2b
    have R := R.below b3 rfl
    have S := S.below b3 rfl
    have X := X.below b3 rfl
    have Y := Y.below b3 rfl
    have P := P.below b3 rfl
    have lR := R.2.2.2.2
    have lS := S.2.2.2.2
    have lX := X.2.2.2.2
    have lY := Y.2.2.2.2
    have lP := P.2.2.2.2
    have k := bnextW k b3 (by first | (simp; done) | (simp; omega) | omega)
    have z3 := k.size
    obtain ⟨r1, r2, r3, r4, r5⟩ := id R
    obtain ⟨u1, u2, u3, u4, u5⟩ := id S
    obtain ⟨m1, m2⟩ := (((R.set (.bool GY) (.string SY)).set_ne (w.heap.size + 1) (.bool GZ) (.string SZ) (by omega)).alloc (.cells #[.bool GZ, .string SZ] 37)).out
    obtain ⟨m3, m4⟩ := (((S.set_ne (w.heap.size) (.bool GY) (.string SY) (by omega)).set (.bool GZ) (.string SZ)).alloc (.cells #[.bool GZ, .string SZ] 37)).out
    have R := R.alloc (.cells #[.bool GZ, .string SZ] 37)
    have S := S.alloc (.cells #[.bool GZ, .string SZ] 37)
    have X := X.alloc (.cells #[.bool GZ, .string SZ] 37)
    have Y := Y.alloc (.cells #[.bool GZ, .string SZ] 37)
    have P := P.alloc (.cells #[.bool GZ, .string SZ] 37)
    have Z := Two.new w3 (.bool GZ) (.string SZ) 37 (w3.heap.size) (by first | (simp; done) | (simp; omega) | omega)
    have k := k.alloc (by first | (simp; done) | (simp; omega) | omega) (.cells #[.bool GZ, .string SZ] 37)
    have q3a := Y.1
    have q3b := Y.2.1
    have q4a := Z.1
    have q4b := Z.2.1
    go_wp2
    go_region
    all_goals go_wp2
    all_goals refine bodyPost_ret (v := .tuple #[.string g, .agg #[.bool GY, .string SY], .agg #[.bool GZ, .string SZ]]) (by simp [results, Tryz.results149, go_sem, m1, m2, m3, m4]) rfl ⟨rfl, ?_⟩
    all_goals exact (by repeat' (first | assumption | exact Below.refl _ _ | refine Below.drew ?_ | refine Below.setCell ?_ ?_ _ | refine Below.alloc ?_ ?_ _ | (simp; done) | (simp; omega) | omega))

theorem rbez_any : ∀ (n a b : Nat), b ≤ n → a < Lim → b < Lim → ∃ x y : Int, (a : Int) * x + b * y = Nat.gcd a b ∧ x.natAbs ≤ max b 1 ∧ y.natAbs ≤ max a 1 ∧ (b = 0 → x = 1 ∧ y = 0) ∧
    ∀ w, Calls Tryz.prog 149 #[.string (E a), .string (E b)] w fun e w' => e = .returned (.tuple #[.string (E (Nat.gcd a b)), .agg #[.bool (ZG x), .string (ZS x)], .agg #[.bool (ZG y), .string (ZS y)]]) ∧ Below w.heap.size w w' := by
  have base : ∀ a : Nat, ∃ x y : Int, (a : Int) * x + (0 : Nat) * y = Nat.gcd a 0 ∧ x.natAbs ≤ max 0 1 ∧ y.natAbs ≤ max a 1 ∧ ((0 : Nat) = 0 → x = 1 ∧ y = 0) ∧
      ∀ w, Calls Tryz.prog 149 #[.string (E a), .string (E 0)] w fun e w' => e = .returned (.tuple #[.string (E (Nat.gcd a 0)), .agg #[.bool (ZG x), .string (ZS x)], .agg #[.bool (ZG y), .string (ZS y)]]) ∧ Below w.heap.size w w' := by
    intro a
    refine ⟨1, 0, by simp, by decide, by simp, fun _ => ⟨rfl, rfl⟩, fun w => ?_⟩
    rw [Nat.gcd_zero_right]
    exact rbez_base (E a) (E 0) w (by rw [E_empty]; rfl)
  intro n
  induction n with
  | zero =>
    intro a b h ha hb
    obtain rfl : b = 0 := by omega
    exact base a
  | succ n ih =>
    intro a b h ha hb
    by_cases h0 : b = 0
    · subst h0; exact base a
    · have hbp : 0 < b := by omega
      have hl := Nat.mod_lt a hbp
      obtain ⟨x, y, e1, e2, e3, e4, hc⟩ := ih b (a % b) (by omega) hb (by omega)
      have eg : Nat.gcd b (a % b) = Nat.gcd a b := by rw [Nat.gcd_comm b, ← Nat.gcd_rec, Nat.gcd_comm]
      rw [eg] at e1 hc
      have ea := Nat.div_add_mod a b
      have eai : (a : Int) = b * (a / b : Nat) + (a % b : Nat) := by exact_mod_cast ea.symm
      have hq : a / b ≤ a := Nat.div_le_self _ _
      have hqy : (((a / b : Nat) : Int) * y).natAbs ≤ a ∧ (x - ((a / b : Nat) : Int) * y).natAbs ≤ max a 1 := by
        rw [Int.natAbs_mul, Int.natAbs_natCast]
        have m : a / b * y.natAbs ≤ a / b * b := Nat.mul_le_mul_left _ (by omega)
        have m2 : a / b * b = a - a % b := by rw [Nat.mul_comm]; omega
        have hz : (((a / b : Nat) : Int) * y).natAbs = a / b * y.natAbs := by rw [Int.natAbs_mul, Int.natAbs_natCast]
        refine ⟨by omega, ?_⟩
        by_cases hr : a % b = 0
        · have := e4 hr
          rw [this.2, Int.mul_zero]; omega
        · omega
      have hyl : y.natAbs < Lim := by omega
      have hxl : x.natAbs < Lim := by have := lim_two; omega
      have lt2 := lim_two
      refine ⟨y, x - ((a / b : Nat) : Int) * y, ?_, by omega, hqy.2, fun q => absurd q h0, fun w => ?_⟩
      · rw [← e1, Int.mul_sub, eai, Int.add_mul, Int.mul_assoc]; omega
      · have hd := fun w => rdivMod_yes (E a) (E b) w (can_E' ha) (can_E' hb)
        rw [V_E, V_E, divN_pos hbp] at hd
        have hf := fun w => rfrom_yes (E (a / b)) w (can_E' (by omega))
        rw [V_E] at hf
        have hm := fun w => rimul_yes (ZG (a / b : Nat)) (ZG y) (ZS (a / b : Nat)) (ZS y) w (ival_Z _ (by rw [Int.natAbs_natCast]; omega)) (ival_Z _ hyl)
        rw [IZ_Z, IZ_Z, zokN_yes (Nat.lt_of_le_of_lt hqy.1 ha)] at hm
        have hs := fun w => risub_yes (ZG x) (ZG ((a / b : Nat) * y)) (ZS x) (ZS ((a / b : Nat) * y)) w (ival_Z _ hxl) (ival_Z _ (Nat.lt_of_le_of_lt hqy.1 ha))
        rw [IZ_Z, IZ_Z, zokN_yes (Nat.lt_of_le_of_lt hqy.2 (by omega))] at hs
        exact rbez_step (E a) (E b) _ _ _ _ _ _ _ _ _ _ _ _ _ w (by rw [E_empty]; simp [h0]) hd hc hf hm hs
end Go.Proofs.YtogmgfdihmacpaaGreatDoor
