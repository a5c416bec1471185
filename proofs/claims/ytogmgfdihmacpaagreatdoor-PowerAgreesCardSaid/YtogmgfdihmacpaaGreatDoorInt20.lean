/-
  The reference's Extended; Extended's error.
-/
import Derived.Test.YtogmgfdihmacpaaGreatDoorInt19
namespace Go.Proofs.YtogmgfdihmacpaaGreatDoor
open Go.RowKit
set_option linter.unusedVariables false

set_option maxHeartbeats 4000000 in
set_option maxRecDepth 20000 in
theorem iext_no1 (s t : ByteArray) (w : World) (h : ¬ Can s) :
    Calls Tryz.prog 105 #[.string s, .string t] w fun e w' => e = .returned (.tuple #[.string ⟨#[]⟩, .agg #[.bool false, .string ⟨#[]⟩], .agg #[.bool false, .string ⟨#[]⟩], .int .i64 3]) ∧ Below w.heap.size w w' := by
  have HS := Lib.hid h; clear h
  have k := Below.refl w.heap.size w
  have R := Two.new w (.bool false) (.string ⟨#[]⟩) 37 (w.heap.size) (by first | (simp; done) | (simp; omega) | omega)
  have k := k.alloc (by first | (simp; done) | (simp; omega) | omega) (.cells #[.bool false, .string ⟨#[]⟩] 37)
  have R := R.alloc (.cells #[.bool false, .string ⟨#[]⟩] 37)
  have S := Two.new (w.alloc (.cells #[.bool false, .string ⟨#[]⟩] 37)) (.bool false) (.string ⟨#[]⟩) 37 (w.heap.size + 1) (by first | (simp; done) | (simp; omega) | omega)
  have k := k.alloc (by first | (simp; done) | (simp; omega) | omega) (.cells #[.bool false, .string ⟨#[]⟩] 37)
  go_enter Tryz.func105, Tryz.ntmps105
  go_wp2_with fail
  refine (valid_no s _ HS.out).mono ?_; rintro e wx ⟨rfl, rfl⟩
  obtain ⟨r1, r2, r3, r4, r5⟩ := id R
  obtain ⟨u1, u2, u3, u4, u5⟩ := id S
  go_wp2
  all_goals refine bodyPost_ret (v := .tuple #[.string ⟨#[]⟩, .agg #[.bool false, .string ⟨#[]⟩], .agg #[.bool false, .string ⟨#[]⟩], .int .i64 3]) (by simp [results, Tryz.results105, go_sem]) rfl ⟨rfl, ?_⟩
  all_goals exact (by repeat' (first | assumption | exact Below.refl _ _ | refine Below.drew ?_ | refine Below.setCell ?_ ?_ _ | refine Below.alloc ?_ ?_ _ | (simp; done) | (simp; omega) | omega))

set_option maxHeartbeats 4000000 in
set_option maxRecDepth 20000 in
theorem iext_no2 (s t : ByteArray) (w : World) (h : Can s) (h2 : ¬ Can t) :
    Calls Tryz.prog 105 #[.string s, .string t] w fun e w' => e = .returned (.tuple #[.string ⟨#[]⟩, .agg #[.bool false, .string ⟨#[]⟩], .agg #[.bool false, .string ⟨#[]⟩], .int .i64 3]) ∧ Below w.heap.size w w' := by
  have HS := Lib.hid h; clear h
  have HT := Lib.hid h2; clear h2
  have k := Below.refl w.heap.size w
  have R := Two.new w (.bool false) (.string ⟨#[]⟩) 37 (w.heap.size) (by first | (simp; done) | (simp; omega) | omega)
  have k := k.alloc (by first | (simp; done) | (simp; omega) | omega) (.cells #[.bool false, .string ⟨#[]⟩] 37)
  have R := R.alloc (.cells #[.bool false, .string ⟨#[]⟩] 37)
  have S := Two.new (w.alloc (.cells #[.bool false, .string ⟨#[]⟩] 37)) (.bool false) (.string ⟨#[]⟩) 37 (w.heap.size + 1) (by first | (simp; done) | (simp; omega) | omega)
  have k := k.alloc (by first | (simp; done) | (simp; omega) | omega) (.cells #[.bool false, .string ⟨#[]⟩] 37)
  go_enter Tryz.func105, Tryz.ntmps105
  go_wp2_with fail
  refine (valid_yes s _ HS.out).mono ?_; rintro e wx ⟨rfl, rfl⟩
  go_wp2_with fail
  refine (valid_no t _ HT.out).mono ?_; rintro e wx ⟨rfl, rfl⟩
  obtain ⟨r1, r2, r3, r4, r5⟩ := id R
  obtain ⟨u1, u2, u3, u4, u5⟩ := id S
  go_wp2
  all_goals refine bodyPost_ret (v := .tuple #[.string ⟨#[]⟩, .agg #[.bool false, .string ⟨#[]⟩], .agg #[.bool false, .string ⟨#[]⟩], .int .i64 3]) (by simp [results, Tryz.results105, go_sem]) rfl ⟨rfl, ?_⟩
  all_goals exact (by repeat' (first | assumption | exact Below.refl _ _ | refine Below.drew ?_ | refine Below.setCell ?_ ?_ _ | refine Below.alloc ?_ ?_ _ | (simp; done) | (simp; omega) | omega))

set_option maxHeartbeats 4000000 in
set_option maxRecDepth 20000 in
theorem riext_no1 (s t : ByteArray) (w : World) (h : ¬ Can s) :
    Calls Tryz.prog 130 #[.string s, .string t] w fun e w' => e = .returned (.tuple #[.string ⟨#[]⟩, .agg #[.bool false, .string ⟨#[]⟩], .agg #[.bool false, .string ⟨#[]⟩], .int .i64 3]) ∧ Below w.heap.size w w' := by
  have HS := Lib.hid h; clear h
  have k := Below.refl w.heap.size w
  have R := Two.new w (.bool false) (.string ⟨#[]⟩) 37 (w.heap.size) (by first | (simp; done) | (simp; omega) | omega)
  have k := k.alloc (by first | (simp; done) | (simp; omega) | omega) (.cells #[.bool false, .string ⟨#[]⟩] 37)
  have R := R.alloc (.cells #[.bool false, .string ⟨#[]⟩] 37)
  have S := Two.new (w.alloc (.cells #[.bool false, .string ⟨#[]⟩] 37)) (.bool false) (.string ⟨#[]⟩) 37 (w.heap.size + 1) (by first | (simp; done) | (simp; omega) | omega)
  have k := k.alloc (by first | (simp; done) | (simp; omega) | omega) (.cells #[.bool false, .string ⟨#[]⟩] 37)
  go_enter Tryz.func130, Tryz.ntmps130
  go_wp2_with fail
  refine (rvalid_no s _ HS.out).mono ?_; rintro e wx ⟨rfl, rfl⟩
  obtain ⟨r1, r2, r3, r4, r5⟩ := id R
  obtain ⟨u1, u2, u3, u4, u5⟩ := id S
  go_wp2
  all_goals refine bodyPost_ret (v := .tuple #[.string ⟨#[]⟩, .agg #[.bool false, .string ⟨#[]⟩], .agg #[.bool false, .string ⟨#[]⟩], .int .i64 3]) (by simp [results, Tryz.results130, go_sem]) rfl ⟨rfl, ?_⟩
  all_goals exact (by repeat' (first | assumption | exact Below.refl _ _ | refine Below.drew ?_ | refine Below.setCell ?_ ?_ _ | refine Below.alloc ?_ ?_ _ | (simp; done) | (simp; omega) | omega))

set_option maxHeartbeats 4000000 in
set_option maxRecDepth 20000 in
theorem riext_no2 (s t : ByteArray) (w : World) (h : Can s) (h2 : ¬ Can t) :
    Calls Tryz.prog 130 #[.string s, .string t] w fun e w' => e = .returned (.tuple #[.string ⟨#[]⟩, .agg #[.bool false, .string ⟨#[]⟩], .agg #[.bool false, .string ⟨#[]⟩], .int .i64 3]) ∧ Below w.heap.size w w' := by
  have HS := Lib.hid h; clear h
  have HT := Lib.hid h2; clear h2
  have k := Below.refl w.heap.size w
  have R := Two.new w (.bool false) (.string ⟨#[]⟩) 37 (w.heap.size) (by first | (simp; done) | (simp; omega) | omega)
  have k := k.alloc (by first | (simp; done) | (simp; omega) | omega) (.cells #[.bool false, .string ⟨#[]⟩] 37)
  have R := R.alloc (.cells #[.bool false, .string ⟨#[]⟩] 37)
  have S := Two.new (w.alloc (.cells #[.bool false, .string ⟨#[]⟩] 37)) (.bool false) (.string ⟨#[]⟩) 37 (w.heap.size + 1) (by first | (simp; done) | (simp; omega) | omega)
  have k := k.alloc (by first | (simp; done) | (simp; omega) | omega) (.cells #[.bool false, .string ⟨#[]⟩] 37)
  go_enter Tryz.func130, Tryz.ntmps130
  go_wp2_with fail
  refine (rvalid_yes s _ HS.out).mono ?_; rintro e wx ⟨rfl, rfl⟩
  go_wp2_with fail
  refine (rvalid_no t _ HT.out).mono ?_; rintro e wx ⟨rfl, rfl⟩
  obtain ⟨r1, r2, r3, r4, r5⟩ := id R
  obtain ⟨u1, u2, u3, u4, u5⟩ := id S
  go_wp2
  all_goals refine bodyPost_ret (v := .tuple #[.string ⟨#[]⟩, .agg #[.bool false, .string ⟨#[]⟩], .agg #[.bool false, .string ⟨#[]⟩], .int .i64 3]) (by simp [results, Tryz.results130, go_sem]) rfl ⟨rfl, ?_⟩
  all_goals exact (by repeat' (first | assumption | exact Below.refl _ _ | refine Below.drew ?_ | refine Below.setCell ?_ ?_ _ | refine Below.alloc ?_ ?_ _ | (simp; done) | (simp; omega) | omega))

set_option maxHeartbeats 4000000 in
set_option maxRecDepth 20000 in
theorem riext_zero (s t : ByteArray) (w : World) (h : Can s) (h2 : Can t) (e : t.toList.isEmpty = true) :
    Calls Tryz.prog 130 #[.string s, .string t] w fun e w' => e = .returned (.tuple #[.string s, .agg #[.bool false, .string ⟨#[1]⟩], .agg #[.bool false, .string ⟨#[]⟩], .int .i64 0]) ∧ Below w.heap.size w w' := by
  have HS := Lib.hid h; clear h
  have HT := Lib.hid h2; clear h2
  have k := Below.refl w.heap.size w
  have R := Two.new w (.bool false) (.string ⟨#[]⟩) 37 (w.heap.size) (by first | (simp; done) | (simp; omega) | omega)
  have k := k.alloc (by first | (simp; done) | (simp; omega) | omega) (.cells #[.bool false, .string ⟨#[]⟩] 37)
  have R := R.alloc (.cells #[.bool false, .string ⟨#[]⟩] 37)
  have S := Two.new (w.alloc (.cells #[.bool false, .string ⟨#[]⟩] 37)) (.bool false) (.string ⟨#[]⟩) 37 (w.heap.size + 1) (by first | (simp; done) | (simp; omega) | omega)
  have k := k.alloc (by first | (simp; done) | (simp; omega) | omega) (.cells #[.bool false, .string ⟨#[]⟩] 37)
  go_enter Tryz.func130, Tryz.ntmps130
  go_wp2_with fail
  refine (rvalid_yes s _ HS.out).mono ?_; rintro e wx ⟨rfl, rfl⟩
  go_wp2_with fail
  refine (rvalid_yes t _ HT.out).mono ?_; rintro e wx ⟨rfl, rfl⟩
  go_wp2_with fail
  refine (riof_1 _).mono ?_; rintro e w1 ⟨rfl, b1⟩
  have R := R.below b1 rfl
  have S := S.below b1 rfl
  have lR := R.2.2.2.2
  have lS := S.2.2.2.2
  have k := bnextW k b1 (by first | (simp; done) | (simp; omega) | omega)
  have z1 := k.size
  go_wp2_with fail
  refine (riof_0 _).mono ?_; rintro e w2 ⟨rfl, b2⟩
  have R := R.below b2 rfl
  have S := S.below b2 rfl
  have lR := R.2.2.2.2
  have lS := S.2.2.2.2
  have k := bnextW k b2 (by first | (simp; done) | (simp; omega) | omega)
  have z2 := k.size
  obtain ⟨m1, m2⟩ := ((R.set (.bool false) (.string ⟨#[1]⟩)).set_ne (w.heap.size + 1) (.bool false) (.string ⟨#[]⟩) (by omega)).out
  obtain ⟨m3, m4⟩ := ((S.set_ne (w.heap.size) (.bool false) (.string ⟨#[1]⟩) (by omega)).set (.bool false) (.string ⟨#[]⟩)).out
  obtain ⟨r1, r2, r3, r4, r5⟩ := id R
  obtain ⟨u1, u2, u3, u4, u5⟩ := id S
  go_wp2
  all_goals refine bodyPost_ret (v := .tuple #[.string s, .agg #[.bool false, .string ⟨#[1]⟩], .agg #[.bool false, .string ⟨#[]⟩], .int .i64 0]) (by simp [results, Tryz.results130, go_sem, m1, m2, m3, m4]) rfl ⟨rfl, ?_⟩
  all_goals exact (by repeat' (first | assumption | exact Below.refl _ _ | refine Below.drew ?_ | refine Below.setCell ?_ ?_ _ | refine Below.alloc ?_ ?_ _ | (simp; done) | (simp; omega) | omega))

set_option maxHeartbeats 16000000 in
set_option maxRecDepth 100000 in
theorem riext_core (s t g m m1 k0 k1 r SX SY SM SQ SK SP SN SR : ByteArray) (GX GY GM GQ GK GP GN GR : Bool) (w : World) (h : Can s) (h2 : Can t) (e : t.toList.isEmpty = false)
    (h_b : (∀ w, Calls Tryz.prog 149 #[.string s, .string t] w fun e w' => e = .returned (.tuple #[.string g, .agg #[.bool GX, .string SX], .agg #[.bool GY, .string SY]]) ∧ Below w.heap.size w w'))
    (h_m : (∀ w, Calls Tryz.prog 123 #[.string t, .string g] w fun e w' => e = .returned (.tuple #[.string m, .string m1, .int .i64 0]) ∧ Below w.heap.size w w'))
    (h_k : (∀ w, Calls Tryz.prog 123 #[.string s, .string g] w fun e w' => e = .returned (.tuple #[.string k0, .string k1, .int .i64 0]) ∧ Below w.heap.size w w'))
    (h_fm : (∀ w, Calls Tryz.prog 151 #[.string m] w fun e w' => e = .returned (.agg #[.bool GM, .string SM]) ∧ Below w.heap.size w w'))
    (h_d : (∀ w, Calls Tryz.prog 150 #[.agg #[.bool GX, .string SX], .agg #[.bool GM, .string SM]] w fun e w' => e = .returned (.tuple #[.agg #[.bool GQ, .string SQ], .string r, .int .i64 0]) ∧ Below w.heap.size w w'))
    (h_fk : (∀ w, Calls Tryz.prog 151 #[.string k0] w fun e w' => e = .returned (.agg #[.bool GK, .string SK]) ∧ Below w.heap.size w w'))
    (h_p : (∀ w, Calls Tryz.prog 152 #[.agg #[.bool GQ, .string SQ], .agg #[.bool GK, .string SK]] w fun e w' => e = .returned (.tuple #[.agg #[.bool GP, .string SP], .int .i64 0]) ∧ Below w.heap.size w w'))
    (h_a : (∀ w, Calls Tryz.prog 153 #[.agg #[.bool GY, .string SY], .agg #[.bool GP, .string SP]] w fun e w' => e = .returned (.tuple #[.agg #[.bool GN, .string SN], .int .i64 0]) ∧ Below w.heap.size w w'))
    (h_fr : (∀ w, Calls Tryz.prog 151 #[.string r] w fun e w' => e = .returned (.agg #[.bool GR, .string SR]) ∧ Below w.heap.size w w')) :
    Calls Tryz.prog 130 #[.string s, .string t] w fun e w' => e = .returned (.tuple #[.string g, .agg #[.bool GR, .string SR], .agg #[.bool GN, .string SN], .int .i64 0]) ∧ Below w.heap.size w w' := by
  have HS := Lib.hid h; clear h
  have HT := Lib.hid h2; clear h2
  have H_b := Lib.hid h_b; clear h_b
  have H_m := Lib.hid h_m; clear h_m
  have H_k := Lib.hid h_k; clear h_k
  have H_fm := Lib.hid h_fm; clear h_fm
  have H_d := Lib.hid h_d; clear h_d
  have H_fk := Lib.hid h_fk; clear h_fk
  have H_p := Lib.hid h_p; clear h_p
  have H_a := Lib.hid h_a; clear h_a
  have H_fr := Lib.hid h_fr; clear h_fr
  have k := Below.refl w.heap.size w
  have R := Two.new w (.bool false) (.string ⟨#[]⟩) 37 (w.heap.size) (by first | (simp; done) | (simp; omega) | omega)
  have k := k.alloc (by first | (simp; done) | (simp; omega) | omega) (.cells #[.bool false, .string ⟨#[]⟩] 37)
  have R := R.alloc (.cells #[.bool false, .string ⟨#[]⟩] 37)
  have S := Two.new (w.alloc (.cells #[.bool false, .string ⟨#[]⟩] 37)) (.bool false) (.string ⟨#[]⟩) 37 (w.heap.size + 1) (by first | (simp; done) | (simp; omega) | omega)
  have k := k.alloc (by first | (simp; done) | (simp; omega) | omega) (.cells #[.bool false, .string ⟨#[]⟩] 37)
  go_enter Tryz.func130, Tryz.ntmps130
  go_wp2_with fail
  refine (rvalid_yes s _ HS.out).mono ?_; rintro e wx ⟨rfl, rfl⟩
  go_wp2_with fail
  refine (rvalid_yes t _ HT.out).mono ?_; rintro e wx ⟨rfl, rfl⟩
  go_wp2_with fail
  refine (H_b.out _).mono ?_; rintro e w1 ⟨rfl, b1⟩
  have R := R.below b1 rfl
  have S := S.below b1 rfl
  have lR := R.2.2.2.2
  have lS := S.2.2.2.2
  have k := bnextW k b1 (by first | (simp; done) | (simp; omega) | omega)
  have z1 := k.size
  have R := R.alloc (.cells #[.bool GX, .string SX] 37)
  have S := S.alloc (.cells #[.bool GX, .string SX] 37)
  have X := Two.new w1 (.bool GX) (.string SX) 37 (w1.heap.size) (by first | (simp; done) | (simp; omega) | omega)
  have k := k.alloc (by first | (simp; done) | (simp; omega) | omega) (.cells #[.bool GX, .string SX] 37)
  have R := R.alloc (.cells #[.bool GY, .string SY] 37)
  have S := S.alloc (.cells #[.bool GY, .string SY] 37)
  have X := X.alloc (.cells #[.bool GY, .string SY] 37)
  have Y := Two.new (w1.alloc (.cells #[.bool GX, .string SX] 37)) (.bool GY) (.string SY) 37 (w1.heap.size + 1) (by first | (simp; done) | (simp; omega) | omega)
  have k := k.alloc (by first | (simp; done) | (simp; omega) | omega) (.cells #[.bool GY, .string SY] 37)
  go_wp2_with fail
  refine (H_m.out _).mono ?_; rintro e w2 ⟨rfl, b2⟩
  have R := R.below b2 rfl
  have S := S.below b2 rfl
  have X := X.below b2 rfl
  have Y := Y.below b2 rfl
  have lR := R.2.2.2.2
  have lS := S.2.2.2.2
  have lX := X.2.2.2.2
  have lY := Y.2.2.2.2
  have k := bnextW k b2 (by first | (simp; done) | (simp; omega) | omega)
  have z2 := k.size
  go_wp2_with fail
  refine (H_k.out _).mono ?_; rintro e w3 ⟨rfl, b3⟩
  have R := R.below b3 rfl
  have S := S.below b3 rfl
  have X := X.below b3 rfl
  have Y := Y.below b3 rfl
  have lR := R.2.2.2.2
  have lS := S.2.2.2.2
  have lX := X.2.2.2.2
  have lY := Y.2.2.2.2
  have k := bnextW k b3 (by first | (simp; done) | (simp; omega) | omega)
  have z3 := k.size
  have z1R := R.2.2.2.2
  have z1S := S.2.2.2.2
  have z1X := X.2.2.2.2
  have z1Y := Y.2.2.2.2
  go_upto_region 8 with fail
  go_cut [17, 18, 19] (fun va vb0 vb1 wx => ∃ g : Nat, va = .pointer (some ⟨g, 0, none⟩) ∧ vb0 = .string r ∧ vb1 = .int .i64 0 ∧ Two wx g (.bool GQ) (.string SQ) ∧ Two wx (w.heap.size) (.bool false) (.string ⟨#[]⟩) ∧ Two wx (w.heap.size + 1) (.bool false) (.string ⟨#[]⟩) ∧ Two wx (w1.heap.size) (.bool GX) (.string SX) ∧ Two wx (w1.heap.size + 1) (.bool GY) (.string SY) ∧ Below w.heap.size w wx ∧ w.heap.size < g ∧ w.heap.size + 1 < g ∧ w1.heap.size < g ∧ w1.heap.size + 1 < g)
  case first =>
    have qpa := X.1
    have qpb := X.2.1
    go_region_with (first
      | (go_at_call 151; refine (H_fm.out _).mono ?_; rintro e x12 ⟨rfl, b912⟩; have R : Two x12 (w.heap.size) (.bool false) (.string ⟨#[]⟩) := Two.below (by first | with_reducible exact R | with_reducible exact R.drewD | with_reducible exact Two.alloc R _ | with_reducible exact Two.allocD R _) b912 rfl; have S : Two x12 (w.heap.size + 1) (.bool false) (.string ⟨#[]⟩) := Two.below (by first | with_reducible exact S | with_reducible exact S.drewD | with_reducible exact Two.alloc S _ | with_reducible exact Two.allocD S _) b912 rfl; have X : Two x12 (w1.heap.size) (.bool GX) (.string SX) := Two.below (by first | with_reducible exact X | with_reducible exact X.drewD | with_reducible exact Two.alloc X _ | with_reducible exact Two.allocD X _) b912 rfl; have Y : Two x12 (w1.heap.size + 1) (.bool GY) (.string SY) := Two.below (by first | with_reducible exact Y | with_reducible exact Y.drewD | with_reducible exact Two.alloc Y _ | with_reducible exact Two.allocD Y _) b912 rfl; have k : Below w.heap.size w x12 := bnextW (by repeat' (first | assumption | exact Below.refl _ _ | refine Below.drew ?_ | refine Below.setCell ?_ ?_ _ | refine Below.alloc ?_ ?_ _ | (simp; done) | (simp; omega) | omega)) b912 (by first | (simp; done) | (simp; omega) | omega); have z92 := k.size; have y92R := R.2.2.2.2; have y92S := S.2.2.2.2; have y92X := X.2.2.2.2; have y92Y := Y.2.2.2.2; have qpa := X.1; have qpb := X.2.1; first | (have T9 : Two x12 (w3.heap.size) (.bool false) (.string ⟨#[]⟩) := Two.below (Two.newD _ _ _ _ _ (by first | (simp; done) | (simp; omega) | omega)) b912 rfl; have z99 := T9.2.2.2.2) | skip)
      | (go_at_call 150; refine (H_d.out _).mono ?_; rintro e x13 ⟨rfl, b913⟩; have R : Two x13 (w.heap.size) (.bool false) (.string ⟨#[]⟩) := Two.below (by first | with_reducible exact R | with_reducible exact R.drewD | with_reducible exact Two.alloc R _ | with_reducible exact Two.allocD R _) b913 rfl; have S : Two x13 (w.heap.size + 1) (.bool false) (.string ⟨#[]⟩) := Two.below (by first | with_reducible exact S | with_reducible exact S.drewD | with_reducible exact Two.alloc S _ | with_reducible exact Two.allocD S _) b913 rfl; have X : Two x13 (w1.heap.size) (.bool GX) (.string SX) := Two.below (by first | with_reducible exact X | with_reducible exact X.drewD | with_reducible exact Two.alloc X _ | with_reducible exact Two.allocD X _) b913 rfl; have Y : Two x13 (w1.heap.size + 1) (.bool GY) (.string SY) := Two.below (by first | with_reducible exact Y | with_reducible exact Y.drewD | with_reducible exact Two.alloc Y _ | with_reducible exact Two.allocD Y _) b913 rfl; have k : Below w.heap.size w x13 := bnextW (by repeat' (first | assumption | exact Below.refl _ _ | refine Below.drew ?_ | refine Below.setCell ?_ ?_ _ | refine Below.alloc ?_ ?_ _ | (simp; done) | (simp; omega) | omega)) b913 (by first | (simp; done) | (simp; omega) | omega); have z93 := k.size; have y93R := R.2.2.2.2; have y93S := S.2.2.2.2; have y93X := X.2.2.2.2; have y93Y := Y.2.2.2.2; first | (have T9 : Two x13 (w3.heap.size) (.bool false) (.string ⟨#[]⟩) := Two.below T9 b913 rfl; have T8 := T9; obtain ⟨t1, t2, t3, t4, t5⟩ := T9) | (have T9 : Two x13 x12.heap.size (.bool false) (.string ⟨#[]⟩) := Two.below (by first | with_reducible exact Two.new _ _ _ _ _ rfl | with_reducible exact Two.newD _ _ _ _ _ rfl) b913 rfl; have T8 := T9; obtain ⟨t1, t2, t3, t4, t5⟩ := T9) | skip))
    all_goals go_wp2_with fail
    all_goals go_meet
    all_goals refine ⟨_, rfl, rfl, rfl, ?_, ?_, ?_, ?_, ?_, (by repeat' (first | assumption | exact Below.refl _ _ | refine Below.drew ?_ | refine Below.setCell ?_ ?_ _ | refine Below.alloc ?_ ?_ _ | (simp; done) | (simp; omega) | omega)), by omega, by omega, by omega, by omega⟩
    all_goals first | exact Two.new _ _ _ _ _ rfl | exact Two.set T8 _ _ | exact R.set_ne _ _ _ (by omega) | exact R.alloc _ | exact S.set_ne _ _ _ (by omega) | exact S.alloc _ | exact X.set_ne _ _ _ (by omega) | exact X.alloc _ | exact Y.set_ne _ _ _ (by omega) | exact Y.alloc _
  case rest =>
    obtain ⟨g1, rfl, rfl, rfl, Q, R, S, X, Y, k, i1R, i1S, i1X, i1Y⟩ := hcut
    have zc := k.size
    have c1Q := Q.2.2.2.2
    have c1R := R.2.2.2.2
    have c1S := S.2.2.2.2
    have c1X := X.2.2.2.2
    have c1Y := Y.2.2.2.2
    have z2R := R.2.2.2.2
    have z2S := S.2.2.2.2
    have z2X := X.2.2.2.2
    have z2Y := Y.2.2.2.2
    have z2Q := Q.2.2.2.2
    go_upto_region 9 with fail
    go_cut [20, 21] (fun va vb0 wx => ∃ g : Nat, va = .pointer (some ⟨g, 0, none⟩) ∧ vb0 = .int .i64 0 ∧ Two wx g (.bool GP) (.string SP) ∧ Two wx (w.heap.size) (.bool false) (.string ⟨#[]⟩) ∧ Two wx (w.heap.size + 1) (.bool false) (.string ⟨#[]⟩) ∧ Two wx (w1.heap.size) (.bool GX) (.string SX) ∧ Two wx (w1.heap.size + 1) (.bool GY) (.string SY) ∧ Two wx (g1) (.bool GQ) (.string SQ) ∧ Below w.heap.size w wx ∧ w.heap.size < g ∧ w.heap.size + 1 < g ∧ w1.heap.size < g ∧ w1.heap.size + 1 < g ∧ g1 < g)
    case first =>
      have qpa := Q.1
      have qpb := Q.2.1
      go_region_with (first
        | (go_at_call 151; refine (H_fk.out _).mono ?_; rintro e x22 ⟨rfl, b922⟩; have R : Two x22 (w.heap.size) (.bool false) (.string ⟨#[]⟩) := Two.below (by first | with_reducible exact R | with_reducible exact R.drewD | with_reducible exact Two.alloc R _ | with_reducible exact Two.allocD R _) b922 rfl; have S : Two x22 (w.heap.size + 1) (.bool false) (.string ⟨#[]⟩) := Two.below (by first | with_reducible exact S | with_reducible exact S.drewD | with_reducible exact Two.alloc S _ | with_reducible exact Two.allocD S _) b922 rfl; have X : Two x22 (w1.heap.size) (.bool GX) (.string SX) := Two.below (by first | with_reducible exact X | with_reducible exact X.drewD | with_reducible exact Two.alloc X _ | with_reducible exact Two.allocD X _) b922 rfl; have Y : Two x22 (w1.heap.size + 1) (.bool GY) (.string SY) := Two.below (by first | with_reducible exact Y | with_reducible exact Y.drewD | with_reducible exact Two.alloc Y _ | with_reducible exact Two.allocD Y _) b922 rfl; have Q : Two x22 (g1) (.bool GQ) (.string SQ) := Two.below (by first | with_reducible exact Q | with_reducible exact Q.drewD | with_reducible exact Two.alloc Q _ | with_reducible exact Two.allocD Q _) b922 rfl; have k : Below w.heap.size w x22 := bnextW (by repeat' (first | assumption | exact Below.refl _ _ | refine Below.drew ?_ | refine Below.setCell ?_ ?_ _ | refine Below.alloc ?_ ?_ _ | (simp; done) | (simp; omega) | omega)) b922 (by first | (simp; done) | (simp; omega) | omega); have z92 := k.size; have y92R := R.2.2.2.2; have y92S := S.2.2.2.2; have y92X := X.2.2.2.2; have y92Y := Y.2.2.2.2; have y92Q := Q.2.2.2.2; have qpa := Q.1; have qpb := Q.2.1; first | (have T9 : Two x22 (wc.heap.size) (.bool false) (.string ⟨#[]⟩) := Two.below (Two.newD _ _ _ _ _ (by first | (simp; done) | (simp; omega) | omega)) b922 rfl; have z99 := T9.2.2.2.2) | skip)
        | (go_at_call 152; refine (H_p.out _).mono ?_; rintro e x23 ⟨rfl, b923⟩; have R : Two x23 (w.heap.size) (.bool false) (.string ⟨#[]⟩) := Two.below (by first | with_reducible exact R | with_reducible exact R.drewD | with_reducible exact Two.alloc R _ | with_reducible exact Two.allocD R _) b923 rfl; have S : Two x23 (w.heap.size + 1) (.bool false) (.string ⟨#[]⟩) := Two.below (by first | with_reducible exact S | with_reducible exact S.drewD | with_reducible exact Two.alloc S _ | with_reducible exact Two.allocD S _) b923 rfl; have X : Two x23 (w1.heap.size) (.bool GX) (.string SX) := Two.below (by first | with_reducible exact X | with_reducible exact X.drewD | with_reducible exact Two.alloc X _ | with_reducible exact Two.allocD X _) b923 rfl; have Y : Two x23 (w1.heap.size + 1) (.bool GY) (.string SY) := Two.below (by first | with_reducible exact Y | with_reducible exact Y.drewD | with_reducible exact Two.alloc Y _ | with_reducible exact Two.allocD Y _) b923 rfl; have Q : Two x23 (g1) (.bool GQ) (.string SQ) := Two.below (by first | with_reducible exact Q | with_reducible exact Q.drewD | with_reducible exact Two.alloc Q _ | with_reducible exact Two.allocD Q _) b923 rfl; have k : Below w.heap.size w x23 := bnextW (by repeat' (first | assumption | exact Below.refl _ _ | refine Below.drew ?_ | refine Below.setCell ?_ ?_ _ | refine Below.alloc ?_ ?_ _ | (simp; done) | (simp; omega) | omega)) b923 (by first | (simp; done) | (simp; omega) | omega); have z93 := k.size; have y93R := R.2.2.2.2; have y93S := S.2.2.2.2; have y93X := X.2.2.2.2; have y93Y := Y.2.2.2.2; have y93Q := Q.2.2.2.2; first | (have T9 : Two x23 (wc.heap.size) (.bool false) (.string ⟨#[]⟩) := Two.below T9 b923 rfl; have T8 := T9; obtain ⟨t1, t2, t3, t4, t5⟩ := T9) | (have T9 : Two x23 x22.heap.size (.bool false) (.string ⟨#[]⟩) := Two.below (by first | with_reducible exact Two.new _ _ _ _ _ rfl | with_reducible exact Two.newD _ _ _ _ _ rfl) b923 rfl; have T8 := T9; obtain ⟨t1, t2, t3, t4, t5⟩ := T9) | skip))
      all_goals go_wp2_with fail
      all_goals go_meet
      all_goals refine ⟨_, rfl, rfl, ?_, ?_, ?_, ?_, ?_, ?_, (by repeat' (first | assumption | exact Below.refl _ _ | refine Below.drew ?_ | refine Below.setCell ?_ ?_ _ | refine Below.alloc ?_ ?_ _ | (simp; done) | (simp; omega) | omega)), by omega, by omega, by omega, by omega, by omega⟩
      all_goals first | exact Two.new _ _ _ _ _ rfl | exact Two.set T8 _ _ | exact R.set_ne _ _ _ (by omega) | exact R.alloc _ | exact S.set_ne _ _ _ (by omega) | exact S.alloc _ | exact X.set_ne _ _ _ (by omega) | exact X.alloc _ | exact Y.set_ne _ _ _ (by omega) | exact Y.alloc _ | exact Q.set_ne _ _ _ (by omega) | exact Q.alloc _
    case rest =>
      obtain ⟨g2, rfl, rfl, P, R, S, X, Y, Q, k, i2R, i2S, i2X, i2Y, i2Q⟩ := hcut
      have zc := k.size
      have c2P := P.2.2.2.2
      have c2R := R.2.2.2.2
      have c2S := S.2.2.2.2
      have c2X := X.2.2.2.2
      have c2Y := Y.2.2.2.2
      have c2Q := Q.2.2.2.2
      have q1a := Y.1
      have q1b := Y.2.1
      have q2a := P.1
      have q2b := P.2.1
      go_wp2_with fail
      refine (H_a.out _).mono ?_; rintro e w4 ⟨rfl, b4⟩
      clear q1a q1b q2a q2b
      have R := R.below b4 rfl
      have S := S.below b4 rfl
      have X := X.below b4 rfl
      have Y := Y.below b4 rfl
      have Q := Q.below b4 rfl
      have P := P.below b4 rfl
      have lR := R.2.2.2.2
      have lS := S.2.2.2.2
      have lX := X.2.2.2.2
      have lY := Y.2.2.2.2
      have lQ := Q.2.2.2.2
      have lP := P.2.2.2.2
      have k := bnextW k b4 (by first | (simp; done) | (simp; omega) | omega)
      have z4 := k.size
      obtain ⟨q3a, q3b, q3c, q3d, q3e⟩ := id Y
      go_wp2
      clear q3a q3b q3c q3d q3e
      have R := R.set_ne (w1.heap.size + 1) (.bool GN) (.string SN) (by omega)
      have S := S.set_ne (w1.heap.size + 1) (.bool GN) (.string SN) (by omega)
      have X := X.set_ne (w1.heap.size + 1) (.bool GN) (.string SN) (by omega)
      have Q := Q.set_ne (w1.heap.size + 1) (.bool GN) (.string SN) (by omega)
      have P := P.set_ne (w1.heap.size + 1) (.bool GN) (.string SN) (by omega)
      have Y := Y.set (.bool GN) (.string SN)
      have k := bset (g := w1.heap.size + 1) (u := .bool GN) (v := .string SN) k (by omega)
      obtain ⟨yq1, yq2, yq3, yq4, yq5⟩ := id Y
      go_region_with (first
        | (go_at_call 151; refine (H_fr.out _).mono ?_; rintro e x9 ⟨rfl, b99⟩; have R : Two x9 (w.heap.size) (.bool false) (.string ⟨#[]⟩) := Two.below (by first | with_reducible exact R | with_reducible exact R.drewD | exact R) b99 rfl; have S : Two x9 (w.heap.size + 1) (.bool false) (.string ⟨#[]⟩) := Two.below (by first | with_reducible exact S | with_reducible exact S.drewD | exact S) b99 rfl; have Y : Two x9 (w1.heap.size + 1) (.bool GN) (.string SN) := Two.below (by first | with_reducible exact Y | with_reducible exact Y.drewD | exact Y) b99 rfl; have k : Below w.heap.size w x9 := bnextW (by repeat' (first | assumption | exact Below.refl _ _ | refine Below.drew ?_ | refine Below.setCell ?_ ?_ _ | refine Below.alloc ?_ ?_ _ | (simp; done) | (simp; omega) | omega)) b99 (by first | (simp; done) | (simp; omega) | omega); clear yq1 yq2 yq3 yq4 yq5; obtain ⟨yq1, yq2, yq3, yq4, yq5⟩ := id Y; obtain ⟨r1, r2, r3, r4, r5⟩ := id R; obtain ⟨u1, u2, u3, u4, u5⟩ := id S))
      all_goals go_wp2
      all_goals obtain ⟨m1, m2⟩ := ((R.set (.bool GR) (.string SR)).set_ne (w.heap.size + 1) (.bool GN) (.string SN) (by omega)).out
      all_goals obtain ⟨m3, m4⟩ := ((S.set_ne (w.heap.size) (.bool GR) (.string SR) (by omega)).set (.bool GN) (.string SN)).out
      all_goals refine bodyPost_ret (v := .tuple #[.string g, .agg #[.bool GR, .string SR], .agg #[.bool GN, .string SN], .int .i64 0]) (by simp [results, Tryz.results130, go_sem, m1, m2, m3, m4]) rfl ⟨rfl, ?_⟩
      all_goals exact (by repeat' (first | assumption | exact Below.refl _ _ | refine Below.drew ?_ | refine Below.setCell ?_ ?_ _ | refine Below.alloc ?_ ?_ _ | (simp; done) | (simp; omega) | omega))
end Go.Proofs.YtogmgfdihmacpaaGreatDoor
