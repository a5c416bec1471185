/-
  The walk of IntegerBezout.
-/
import Derived.Test.YtamgklgjhjociaaInt17
import Derived.Test.YtamgklgjhjociaaInt18
import Derived.Test.YtamgklgjhjociaaLaw1d
namespace Go.Proofs.Ytamgklgjhjociaa
open Go.RowKit
set_option linter.unusedVariables false

theorem add_z (g1 g2 : Bool) (s1 s2 : ByteArray) (h1 : IVal g1 s1) (h2 : IVal g2 s2) (hl : (IZ g1 s1 + IZ g2 s2).natAbs < Lim) (w : World) :
    Calls Try.prog 26 #[.agg #[.bool g1, .string s1], .agg #[.bool g2, .string s2]] w fun e w' => e = .returned (.tuple #[.agg #[.bool (ZG (IZ g1 s1 + IZ g2 s2)), .string (ZS (IZ g1 s1 + IZ g2 s2))], .int .i64 0]) ∧ Below w.heap.size w w' := by
  have := iadd_yes g1 g2 s1 s2 w h1 h2
  rwa [zokN_yes hl] at this
theorem mul_z (g1 g2 : Bool) (s1 s2 : ByteArray) (h1 : IVal g1 s1) (h2 : IVal g2 s2) (hl : (IZ g1 s1 * IZ g2 s2).natAbs < Lim) (w : World) :
    Calls Try.prog 30 #[.agg #[.bool g1, .string s1], .agg #[.bool g2, .string s2]] w fun e w' => e = .returned (.tuple #[.agg #[.bool (ZG (IZ g1 s1 * IZ g2 s2)), .string (ZS (IZ g1 s1 * IZ g2 s2))], .int .i64 0]) ∧ Below w.heap.size w w' := by
  have := imul_yes g1 g2 s1 s2 w h1 h2
  rwa [zokN_yes hl] at this
theorem cmp_below (s t : ByteArray) (w : World) (hs : Can s) (ht : Can t) :
    Calls Try.prog 44 #[.string s, .string t] w fun e w' => e = .returned (.int .i64 (sgn (V s) (V t))) ∧ Below w.heap.size w w' :=
  (cmp_yes s t w hs ht).mono fun _ _ => same_below
theorem keep1S {w w1 w2 : World} {a : Nat} {a0 a1 : Value} (k9 : Below w1.heap.size w1 w2)
    (h : w1.cell? ⟨a, 0, none⟩ = some a0 ∧ w1.cell? ⟨a, 1, none⟩ = some a1 ∧ Below w.heap.size w w1) :
    w2.cell? ⟨a, 0, none⟩ = some a0 ∧ w2.cell? ⟨a, 1, none⟩ = some a1 ∧ Below w.heap.size w w2 := ⟨keepc k9 h.1, keepc k9 h.2.1, keepb h.2.2 k9⟩

set_option maxHeartbeats 4000000 in
set_option maxRecDepth 20000 in
theorem bezout_n1 (s t : ByteArray) (w : World) (h : ¬ Can s) :
    Calls Try.prog 11 #[.string s, .string t] w fun e w' => e = .returned (.bool true) ∧ Below w.heap.size w w' := by
  have HS := Lib.hid h; clear h
  have k := Below.refl w.heap.size w
  go_enter Try.func11, Try.ntmps11
  go_wp2_with fail
  refine (valid_no s _ HS.out).mono ?_; rintro e wx ⟨rfl, rfl⟩
  go_wp2_with fail
  refine (awake2 _).mono ?_; rintro e w1 ⟨rfl, b1⟩
  have k := bnextW k b1 (by first | (simp; done) | (simp; omega) | omega)
  have z1 := k.size
  go_wp2
  go_ret
  exact ⟨rfl, k⟩

set_option maxHeartbeats 4000000 in
set_option maxRecDepth 20000 in
theorem bezout_n2 (s t : ByteArray) (w : World) (h : Can s) (h2 : ¬ Can t) :
    Calls Try.prog 11 #[.string s, .string t] w fun e w' => e = .returned (.bool true) ∧ Below w.heap.size w w' := by
  have HS := Lib.hid h; clear h
  have HT := Lib.hid h2; clear h2
  have k := Below.refl w.heap.size w
  go_enter Try.func11, Try.ntmps11
  go_wp2_with fail
  refine (valid_yes s _ HS.out).mono ?_; rintro e wx ⟨rfl, rfl⟩
  go_wp2_with fail
  refine (valid_no t _ HT.out).mono ?_; rintro e wx ⟨rfl, rfl⟩
  go_wp2_with fail
  refine (awake2 _).mono ?_; rintro e w1 ⟨rfl, b1⟩
  have k := bnextW k b1 (by first | (simp; done) | (simp; omega) | omega)
  have z1 := k.size
  go_wp2
  go_ret
  exact ⟨rfl, k⟩

set_option maxHeartbeats 4000000 in
set_option maxRecDepth 20000 in
theorem bezout_l1 (s t : ByteArray) (w : World) (h : Can s) (h2 : Can t) (l1 : ¬ (s.size : Int) ≤ 50) (m1 : s.size ≤ 128) :
    Calls Try.prog 11 #[.string s, .string t] w fun e w' => e = .returned (.bool true) ∧ Below w.heap.size w w' := by
  have HS := Lib.hid h; clear h
  have HT := Lib.hid h2; clear h2
  have k := Below.refl w.heap.size w
  go_enter Try.func11, Try.ntmps11
  go_wp2_with fail
  refine (valid_yes s _ HS.out).mono ?_; rintro e wx ⟨rfl, rfl⟩
  go_wp2_with fail
  refine (valid_yes t _ HT.out).mono ?_; rintro e wx ⟨rfl, rfl⟩
  go_wp2_with fail
  refine (awake2 _).mono ?_; rintro e w1 ⟨rfl, b1⟩
  have k := bnextW k b1 (by first | (simp; done) | (simp; omega) | omega)
  have z1 := k.size
  go_wp2
  go_ret
  exact ⟨rfl, k⟩

set_option maxHeartbeats 4000000 in
set_option maxRecDepth 20000 in
theorem bezout_l2 (s t : ByteArray) (w : World) (h : Can s) (h2 : Can t) (l1 : (s.size : Int) ≤ 50) (l2 : ¬ (t.size : Int) ≤ 50) (m1 : t.size ≤ 128) :
    Calls Try.prog 11 #[.string s, .string t] w fun e w' => e = .returned (.bool true) ∧ Below w.heap.size w w' := by
  have HS := Lib.hid h; clear h
  have HT := Lib.hid h2; clear h2
  have k := Below.refl w.heap.size w
  go_enter Try.func11, Try.ntmps11
  go_wp2_with fail
  refine (valid_yes s _ HS.out).mono ?_; rintro e wx ⟨rfl, rfl⟩
  go_wp2_with fail
  refine (valid_yes t _ HT.out).mono ?_; rintro e wx ⟨rfl, rfl⟩
  go_wp2_with fail
  refine (awake2 _).mono ?_; rintro e w1 ⟨rfl, b1⟩
  have k := bnextW k b1 (by first | (simp; done) | (simp; omega) | omega)
  have z1 := k.size
  go_wp2
  go_ret
  exact ⟨rfl, k⟩

set_option maxHeartbeats 16000000 in
set_option maxRecDepth 100000 in
theorem bezout_yes (s t g SX SY SA SB SP SQ SG n m : ByteArray) (GX GY GA GB GP GQ GG : Bool) (w : World) (h : Can s) (h2 : Can t) (l1 : (s.size : Int) ≤ 50) (l2 : (t.size : Int) ≤ 50) (hc : (g.toList.isEmpty = true ∧ s.toList.isEmpty = true ∧ t.toList.isEmpty = true) ∨
      (g.toList.isEmpty = false ∧ t.toList.isEmpty = true ∧ GX = false ∧ (∀ w, Calls Try.prog 46 #[.string s, .string g] w fun e w' => e = .returned (.tuple #[.string n, .string ⟨#[]⟩, .int .i64 0]) ∧ Below w.heap.size w w') ∧ (∀ w, Calls Try.prog 46 #[.string t, .string g] w fun e w' => e = .returned (.tuple #[.string m, .string ⟨#[]⟩, .int .i64 0]) ∧ Below w.heap.size w w')) ∨
      (g.toList.isEmpty = false ∧ t.toList.isEmpty = false ∧ GX = false ∧ (∀ w, Calls Try.prog 46 #[.string s, .string g] w fun e w' => e = .returned (.tuple #[.string n, .string ⟨#[]⟩, .int .i64 0]) ∧ Below w.heap.size w w') ∧ (∀ w, Calls Try.prog 46 #[.string t, .string g] w fun e w' => e = .returned (.tuple #[.string m, .string ⟨#[]⟩, .int .i64 0]) ∧ Below w.heap.size w w') ∧ (∀ w, Calls Try.prog 44 #[.string SX, .string m] w fun e w' => e = .returned (.int .i64 (-1)) ∧ Below w.heap.size w w')))
    (h_e : ∀ w, Calls Try.prog 38 #[.string s, .string t] w fun e w' => e = .returned (.tuple #[.string g, .agg #[.bool GX, .string SX], .agg #[.bool GY, .string SY], .int .i64 0]) ∧ Below w.heap.size w w')
    (h_a : ∀ w, Calls Try.prog 20 #[.string s] w fun e w' => e = .returned (.agg #[.bool GA, .string SA]) ∧ Below w.heap.size w w')
    (h_p : ∀ w, Calls Try.prog 30 #[.agg #[.bool GA, .string SA], .agg #[.bool GX, .string SX]] w fun e w' => e = .returned (.tuple #[.agg #[.bool GP, .string SP], .int .i64 0]) ∧ Below w.heap.size w w')
    (h_b : ∀ w, Calls Try.prog 20 #[.string t] w fun e w' => e = .returned (.agg #[.bool GB, .string SB]) ∧ Below w.heap.size w w')
    (h_q : ∀ w, Calls Try.prog 30 #[.agg #[.bool GB, .string SB], .agg #[.bool GY, .string SY]] w fun e w' => e = .returned (.tuple #[.agg #[.bool GQ, .string SQ], .int .i64 0]) ∧ Below w.heap.size w w')
    (h_s : ∀ w, Calls Try.prog 26 #[.agg #[.bool GP, .string SP], .agg #[.bool GQ, .string SQ]] w fun e w' => e = .returned (.tuple #[.agg #[.bool GG, .string SG], .int .i64 0]) ∧ Below w.heap.size w w')
    (h_g : ∀ w, Calls Try.prog 20 #[.string g] w fun e w' => e = .returned (.agg #[.bool GG, .string SG]) ∧ Below w.heap.size w w') :
    Calls Try.prog 11 #[.string s, .string t] w fun e w' => e = .returned (.bool true) ∧ Below w.heap.size w w' := by
  have HS := Lib.hid h; clear h
  have HT := Lib.hid h2; clear h2
  have H_e := Lib.hid h_e; clear h_e
  have H_a := Lib.hid h_a; clear h_a
  have H_p := Lib.hid h_p; clear h_p
  have H_b := Lib.hid h_b; clear h_b
  have H_q := Lib.hid h_q; clear h_q
  have H_s := Lib.hid h_s; clear h_s
  have H_g := Lib.hid h_g; clear h_g
  have HC := Lib.hid hc; clear hc
  have k := Below.refl w.heap.size w
  go_enter Try.func11, Try.ntmps11
  go_wp2_with fail
  refine (valid_yes s _ HS.out).mono ?_; rintro e wx ⟨rfl, rfl⟩
  go_wp2_with fail
  refine (valid_yes t _ HT.out).mono ?_; rintro e wx ⟨rfl, rfl⟩
  go_wp2_with fail
  refine (H_e.out _).mono ?_; rintro e w1 ⟨rfl, b1⟩
  have k := bnextW k b1 (by first | (simp; done) | (simp; omega) | omega)
  have z1 := k.size
  have X := Two.new w1 (.bool GX) (.string SX) 24 (w1.heap.size) (by first | (simp; done) | (simp; omega) | omega)
  have k := k.alloc (by first | (simp; done) | (simp; omega) | omega) (.cells #[.bool GX, .string SX] 24)
  have X := X.alloc (.cells #[.bool GY, .string SY] 24)
  have Y := Two.new (w1.alloc (.cells #[.bool GX, .string SX] 24)) (.bool GY) (.string SY) 24 (w1.heap.size + 1) (by first | (simp; done) | (simp; omega) | omega)
  have k := k.alloc (by first | (simp; done) | (simp; omega) | omega) (.cells #[.bool GY, .string SY] 24)
  have z1X := X.2.2.2.2
  have z1Y := Y.2.2.2.2
  go_upto_region 4 with fail
  go_cut [9, 10] (fun va vb wx => ∃ g : Nat, va = .pointer (some ⟨g, 0, none⟩) ∧ vb = .int .i64 0 ∧ Two wx g (.bool GP) (.string SP) ∧ Two wx (w1.heap.size) (.bool GX) (.string SX) ∧ Two wx (w1.heap.size + 1) (.bool GY) (.string SY) ∧ Below w.heap.size w wx ∧ w1.heap.size < g ∧ w1.heap.size + 1 < g)
  case first =>
    have qpa := X.1
    have qpb := X.2.1
    go_region_with (first
      | (go_at_call 20; refine (H_a.out _).mono ?_; rintro e x12 ⟨rfl, b912⟩; have X : Two x12 (w1.heap.size) (.bool GX) (.string SX) := Two.below (by first | with_reducible exact X | with_reducible exact X.drewD | with_reducible exact Two.alloc X _ | with_reducible exact Two.allocD X _) b912 rfl; have Y : Two x12 (w1.heap.size + 1) (.bool GY) (.string SY) := Two.below (by first | with_reducible exact Y | with_reducible exact Y.drewD | with_reducible exact Two.alloc Y _ | with_reducible exact Two.allocD Y _) b912 rfl; have k : Below w.heap.size w x12 := bnextW (by repeat' (first | assumption | exact Below.refl _ _ | refine Below.drew ?_ | refine Below.setCell ?_ ?_ _ | refine Below.alloc ?_ ?_ _ | (simp; done) | (simp; omega) | omega)) b912 (by first | (simp; done) | (simp; omega) | omega); have z92 := k.size; have y92X := X.2.2.2.2; have y92Y := Y.2.2.2.2; have qpa := X.1; have qpb := X.2.1; first | (have T9 : Two x12 (w1.heap.size + 1 + 1) (.bool false) (.string ⟨#[]⟩) := Two.below (Two.newD _ _ _ _ _ (by first | (simp; done) | (simp; omega) | omega)) b912 rfl; have z99 := T9.2.2.2.2) | skip)
      | (go_at_call 30; refine (H_p.out _).mono ?_; rintro e x13 ⟨rfl, b913⟩; have X : Two x13 (w1.heap.size) (.bool GX) (.string SX) := Two.below (by first | with_reducible exact X | with_reducible exact X.drewD | with_reducible exact Two.alloc X _ | with_reducible exact Two.allocD X _) b913 rfl; have Y : Two x13 (w1.heap.size + 1) (.bool GY) (.string SY) := Two.below (by first | with_reducible exact Y | with_reducible exact Y.drewD | with_reducible exact Two.alloc Y _ | with_reducible exact Two.allocD Y _) b913 rfl; have k : Below w.heap.size w x13 := bnextW (by repeat' (first | assumption | exact Below.refl _ _ | refine Below.drew ?_ | refine Below.setCell ?_ ?_ _ | refine Below.alloc ?_ ?_ _ | (simp; done) | (simp; omega) | omega)) b913 (by first | (simp; done) | (simp; omega) | omega); have z93 := k.size; have y93X := X.2.2.2.2; have y93Y := Y.2.2.2.2; first | (have T9 : Two x13 (w1.heap.size + 1 + 1) (.bool false) (.string ⟨#[]⟩) := Two.below T9 b913 rfl; have T8 := T9; obtain ⟨t1, t2, t3, t4, t5⟩ := T9) | (have T9 : Two x13 x12.heap.size (.bool false) (.string ⟨#[]⟩) := Two.below (by first | with_reducible exact Two.new _ _ _ _ _ rfl | with_reducible exact Two.newD _ _ _ _ _ rfl) b913 rfl; have T8 := T9; obtain ⟨t1, t2, t3, t4, t5⟩ := T9) | skip))
    all_goals go_wp2_with fail
    all_goals go_meet
    all_goals refine ⟨_, rfl, rfl, ?_, ?_, ?_, (by repeat' (first | assumption | exact Below.refl _ _ | refine Below.drew ?_ | refine Below.setCell ?_ ?_ _ | refine Below.alloc ?_ ?_ _ | (simp; done) | (simp; omega) | omega)), by omega, by omega⟩
    all_goals first | exact Two.new _ _ _ _ _ rfl | exact Two.set T8 _ _ | exact X.set_ne _ _ _ (by omega) | exact X.alloc _ | exact Y.set_ne _ _ _ (by omega) | exact Y.alloc _
  case rest =>
    obtain ⟨g1, rfl, rfl, P, X, Y, k, i1X, i1Y⟩ := hcut
    have zc := k.size
    have c1P := P.2.2.2.2
    have c1X := X.2.2.2.2
    have c1Y := Y.2.2.2.2
    have z2X := X.2.2.2.2
    have z2Y := Y.2.2.2.2
    have z2P := P.2.2.2.2
    go_upto_region 5 with fail
    go_cut [11, 12] (fun va vb wx => ∃ g : Nat, va = .pointer (some ⟨g, 0, none⟩) ∧ vb = .int .i64 0 ∧ Two wx g (.bool GQ) (.string SQ) ∧ Two wx (w1.heap.size) (.bool GX) (.string SX) ∧ Two wx (w1.heap.size + 1) (.bool GY) (.string SY) ∧ Two wx (g1) (.bool GP) (.string SP) ∧ Below w.heap.size w wx ∧ w1.heap.size < g ∧ w1.heap.size + 1 < g ∧ g1 < g)
    case first =>
      have qpa := Y.1
      have qpb := Y.2.1
      go_region_with (first
        | (go_at_call 20; refine (H_b.out _).mono ?_; rintro e x22 ⟨rfl, b922⟩; have X : Two x22 (w1.heap.size) (.bool GX) (.string SX) := Two.below (by first | with_reducible exact X | with_reducible exact X.drewD | with_reducible exact Two.alloc X _ | with_reducible exact Two.allocD X _) b922 rfl; have Y : Two x22 (w1.heap.size + 1) (.bool GY) (.string SY) := Two.below (by first | with_reducible exact Y | with_reducible exact Y.drewD | with_reducible exact Two.alloc Y _ | with_reducible exact Two.allocD Y _) b922 rfl; have P : Two x22 (g1) (.bool GP) (.string SP) := Two.below (by first | with_reducible exact P | with_reducible exact P.drewD | with_reducible exact Two.alloc P _ | with_reducible exact Two.allocD P _) b922 rfl; have k : Below w.heap.size w x22 := bnextW (by repeat' (first | assumption | exact Below.refl _ _ | refine Below.drew ?_ | refine Below.setCell ?_ ?_ _ | refine Below.alloc ?_ ?_ _ | (simp; done) | (simp; omega) | omega)) b922 (by first | (simp; done) | (simp; omega) | omega); have z92 := k.size; have y92X := X.2.2.2.2; have y92Y := Y.2.2.2.2; have y92P := P.2.2.2.2; have qpa := Y.1; have qpb := Y.2.1; first | (have T9 : Two x22 (wc.heap.size) (.bool false) (.string ⟨#[]⟩) := Two.below (Two.newD _ _ _ _ _ (by first | (simp; done) | (simp; omega) | omega)) b922 rfl; have z99 := T9.2.2.2.2) | skip)
        | (go_at_call 30; refine (H_q.out _).mono ?_; rintro e x23 ⟨rfl, b923⟩; have X : Two x23 (w1.heap.size) (.bool GX) (.string SX) := Two.below (by first | with_reducible exact X | with_reducible exact X.drewD | with_reducible exact Two.alloc X _ | with_reducible exact Two.allocD X _) b923 rfl; have Y : Two x23 (w1.heap.size + 1) (.bool GY) (.string SY) := Two.below (by first | with_reducible exact Y | with_reducible exact Y.drewD | with_reducible exact Two.alloc Y _ | with_reducible exact Two.allocD Y _) b923 rfl; have P : Two x23 (g1) (.bool GP) (.string SP) := Two.below (by first | with_reducible exact P | with_reducible exact P.drewD | with_reducible exact Two.alloc P _ | with_reducible exact Two.allocD P _) b923 rfl; have k : Below w.heap.size w x23 := bnextW (by repeat' (first | assumption | exact Below.refl _ _ | refine Below.drew ?_ | refine Below.setCell ?_ ?_ _ | refine Below.alloc ?_ ?_ _ | (simp; done) | (simp; omega) | omega)) b923 (by first | (simp; done) | (simp; omega) | omega); have z93 := k.size; have y93X := X.2.2.2.2; have y93Y := Y.2.2.2.2; have y93P := P.2.2.2.2; first | (have T9 : Two x23 (wc.heap.size) (.bool false) (.string ⟨#[]⟩) := Two.below T9 b923 rfl; have T8 := T9; obtain ⟨t1, t2, t3, t4, t5⟩ := T9) | (have T9 : Two x23 x22.heap.size (.bool false) (.string ⟨#[]⟩) := Two.below (by first | with_reducible exact Two.new _ _ _ _ _ rfl | with_reducible exact Two.newD _ _ _ _ _ rfl) b923 rfl; have T8 := T9; obtain ⟨t1, t2, t3, t4, t5⟩ := T9) | skip))
      all_goals go_wp2_with fail
      all_goals go_meet
      all_goals refine ⟨_, rfl, rfl, ?_, ?_, ?_, ?_, (by repeat' (first | assumption | exact Below.refl _ _ | refine Below.drew ?_ | refine Below.setCell ?_ ?_ _ | refine Below.alloc ?_ ?_ _ | (simp; done) | (simp; omega) | omega)), by omega, by omega, by omega⟩
      all_goals first | exact Two.new _ _ _ _ _ rfl | exact Two.set T8 _ _ | exact X.set_ne _ _ _ (by omega) | exact X.alloc _ | exact Y.set_ne _ _ _ (by omega) | exact Y.alloc _ | exact P.set_ne _ _ _ (by omega) | exact P.alloc _
    case rest =>
      obtain ⟨g2, rfl, rfl, Q, X, Y, P, k, i2X, i2Y, i2P⟩ := hcut
      have zc := k.size
      have c2Q := Q.2.2.2.2
      have c2X := X.2.2.2.2
      have c2Y := Y.2.2.2.2
      have c2P := P.2.2.2.2
      have q1a := P.1
      have q1b := P.2.1
      have q2a := Q.1
      have q2b := Q.2.1
      go_wp2_with fail
      refine (H_s.out _).mono ?_; rintro e w2 ⟨rfl, b2⟩
      clear q1a q1b q2a q2b
      have X := X.below b2 rfl
      have Y := Y.below b2 rfl
      have P := P.below b2 rfl
      have Q := Q.below b2 rfl
      have lX := X.2.2.2.2
      have lY := Y.2.2.2.2
      have lP := P.2.2.2.2
      have lQ := Q.2.2.2.2
      have k := bnextW k b2 (by first | (simp; done) | (simp; omega) | omega)
      have z2 := k.size
      have X := X.alloc (.cells #[.bool GG, .string SG] 24)
      have Y := Y.alloc (.cells #[.bool GG, .string SG] 24)
      have P := P.alloc (.cells #[.bool GG, .string SG] 24)
      have Q := Q.alloc (.cells #[.bool GG, .string SG] 24)
      have S := Two.new w2 (.bool GG) (.string SG) 24 (w2.heap.size) (by first | (simp; done) | (simp; omega) | omega)
      have k := k.alloc (by first | (simp; done) | (simp; omega) | omega) (.cells #[.bool GG, .string SG] 24)
      have q3a := S.1
      have q3b := S.2.1
      go_wp2
      go_region_held3 (fun w' => w'.cell? ⟨w2.heap.size, 0, none⟩ = some (.bool GG) ∧ w'.cell? ⟨w2.heap.size, 1, none⟩ = some (.string SG) ∧ Below w.heap.size w w') (first | exact ⟨S.1, S.2.1, k.drew⟩ | exact keep1S b99 (by assumption)) (first | (go_at_call 20; ((with_reducible refine (H_g.out _).mono ?_); rintro e w99 ⟨rfl, b99⟩)))
      clear q3a q3b
      have X : Two w99 (w1.heap.size) (.bool GX) (.string SX) := Two.below (by first | with_reducible exact X | with_reducible exact X.drewD | with_reducible exact Two.allocD X _) b99 rfl
      have Y : Two w99 (w1.heap.size + 1) (.bool GY) (.string SY) := Two.below (by first | with_reducible exact Y | with_reducible exact Y.drewD | with_reducible exact Two.allocD Y _) b99 rfl
      have P : Two w99 (g1) (.bool GP) (.string SP) := Two.below (by first | with_reducible exact P | with_reducible exact P.drewD | with_reducible exact Two.allocD P _) b99 rfl
      have Q : Two w99 (g2) (.bool GQ) (.string SQ) := Two.below (by first | with_reducible exact Q | with_reducible exact Q.drewD | with_reducible exact Two.allocD Q _) b99 rfl
      have S : Two w99 (w2.heap.size) (.bool GG) (.string SG) := Two.below (by first | with_reducible exact S | with_reducible exact S.drewD | with_reducible exact Two.allocD S _) b99 rfl
      have k : Below w.heap.size w w99 := bnextW (by repeat' (first | assumption | exact Below.refl _ _ | refine Below.drew ?_ | refine Below.setCell ?_ ?_ _ | refine Below.alloc ?_ ?_ _ | (simp; done) | (simp; omega) | omega)) b99 (by first | (simp; done) | (simp; omega) | omega)
      have z99 := k.size
      rcases HC.out with ⟨e1, e2, e3⟩ | ⟨e1, e3, ex, hd, hm⟩ | ⟨e1, e3, ex, hd, hm, hc⟩
      · go_wp2_with fail
        refine (awake2 _).mono ?_; rintro e w23 ⟨rfl, b23⟩
        have X := X.below b23 rfl
        have Y := Y.below b23 rfl
        have P := P.below b23 rfl
        have Q := Q.below b23 rfl
        have S := S.below b23 rfl
        have lX := X.2.2.2.2
        have lY := Y.2.2.2.2
        have lP := P.2.2.2.2
        have lQ := Q.2.2.2.2
        have lS := S.2.2.2.2
        have k := bnextW k b23 (by first | (simp; done) | (simp; omega) | omega)
        have z23 := k.size
        go_wp2
        go_ret
        exact ⟨rfl, k⟩
      · rw [ex] at X
        have H_d := Lib.hid hd; clear hd
        have H_m := Lib.hid hm; clear hm
        go_wp2_with fail
        refine (H_d.out _).mono ?_; rintro e w23 ⟨rfl, b23⟩
        have X := X.below b23 rfl
        have Y := Y.below b23 rfl
        have P := P.below b23 rfl
        have Q := Q.below b23 rfl
        have S := S.below b23 rfl
        have lX := X.2.2.2.2
        have lY := Y.2.2.2.2
        have lP := P.2.2.2.2
        have lQ := Q.2.2.2.2
        have lS := S.2.2.2.2
        have k := bnextW k b23 (by first | (simp; done) | (simp; omega) | omega)
        have z23 := k.size
        go_wp2_with fail
        refine (H_m.out _).mono ?_; rintro e w24 ⟨rfl, b24⟩
        have X := X.below b24 rfl
        have Y := Y.below b24 rfl
        have P := P.below b24 rfl
        have Q := Q.below b24 rfl
        have S := S.below b24 rfl
        have lX := X.2.2.2.2
        have lY := Y.2.2.2.2
        have lP := P.2.2.2.2
        have lQ := Q.2.2.2.2
        have lS := S.2.2.2.2
        have k := bnextW k b24 (by first | (simp; done) | (simp; omega) | omega)
        have z24 := k.size
        have q4a := X.1
        have q4b := X.2.1
        go_wp2_with fail
        refine (awake2 _).mono ?_; rintro e w25 ⟨rfl, b25⟩
        clear q4a q4b
        have X := X.below b25 rfl
        have Y := Y.below b25 rfl
        have P := P.below b25 rfl
        have Q := Q.below b25 rfl
        have S := S.below b25 rfl
        have lX := X.2.2.2.2
        have lY := Y.2.2.2.2
        have lP := P.2.2.2.2
        have lQ := Q.2.2.2.2
        have lS := S.2.2.2.2
        have k := bnextW k b25 (by first | (simp; done) | (simp; omega) | omega)
        have z25 := k.size
        have q5a := X.1
        have q5b := X.2.1
        go_wp2
        go_ret
        exact ⟨rfl, k⟩
      · rw [ex] at X
        have H_d := Lib.hid hd; clear hd
        have H_m := Lib.hid hm; clear hm
        have H_c := Lib.hid hc; clear hc
        go_wp2_with fail
        refine (H_d.out _).mono ?_; rintro e w23 ⟨rfl, b23⟩
        have X := X.below b23 rfl
        have Y := Y.below b23 rfl
        have P := P.below b23 rfl
        have Q := Q.below b23 rfl
        have S := S.below b23 rfl
        have lX := X.2.2.2.2
        have lY := Y.2.2.2.2
        have lP := P.2.2.2.2
        have lQ := Q.2.2.2.2
        have lS := S.2.2.2.2
        have k := bnextW k b23 (by first | (simp; done) | (simp; omega) | omega)
        have z23 := k.size
        go_wp2_with fail
        refine (H_m.out _).mono ?_; rintro e w24 ⟨rfl, b24⟩
        have X := X.below b24 rfl
        have Y := Y.below b24 rfl
        have P := P.below b24 rfl
        have Q := Q.below b24 rfl
        have S := S.below b24 rfl
        have lX := X.2.2.2.2
        have lY := Y.2.2.2.2
        have lP := P.2.2.2.2
        have lQ := Q.2.2.2.2
        have lS := S.2.2.2.2
        have k := bnextW k b24 (by first | (simp; done) | (simp; omega) | omega)
        have z24 := k.size
        have q4a := X.1
        have q4b := X.2.1
        go_wp2_with fail
        refine (awake2 _).mono ?_; rintro e w25 ⟨rfl, b25⟩
        clear q4a q4b
        have X := X.below b25 rfl
        have Y := Y.below b25 rfl
        have P := P.below b25 rfl
        have Q := Q.below b25 rfl
        have S := S.below b25 rfl
        have lX := X.2.2.2.2
        have lY := Y.2.2.2.2
        have lP := P.2.2.2.2
        have lQ := Q.2.2.2.2
        have lS := S.2.2.2.2
        have k := bnextW k b25 (by first | (simp; done) | (simp; omega) | omega)
        have z25 := k.size
        have q5a := X.1
        have q5b := X.2.1
        go_wp2_with fail
        refine (H_c.out _).mono ?_; rintro e w26 ⟨rfl, b26⟩
        clear q5a q5b
        have X := X.below b26 rfl
        have Y := Y.below b26 rfl
        have P := P.below b26 rfl
        have Q := Q.below b26 rfl
        have S := S.below b26 rfl
        have lX := X.2.2.2.2
        have lY := Y.2.2.2.2
        have lP := P.2.2.2.2
        have lQ := Q.2.2.2.2
        have lS := S.2.2.2.2
        have k := bnextW k b26 (by first | (simp; done) | (simp; omega) | omega)
        have z26 := k.size
        go_wp2
        go_ret
        exact ⟨rfl, k⟩

theorem lim50 : 256 ^ 50 * 256 ^ 50 + 256 ^ 50 * 256 ^ 50 + 256 ^ 50 < Lim := by rw [lim_eq]; decide +kernel
theorem V50 {s : ByteArray} (h : s.size ≤ 50) : V s < 256 ^ 50 := Nat.lt_of_lt_of_le (V_lt s) (Nat.pow_le_pow_right (by omega) h)
theorem emp (n : Nat) (h : n = 0) : (E n).toList.isEmpty = true := by rw [E_empty, h]; rfl
theorem nemp (n : Nat) (h : n ≠ 0) : (E n).toList.isEmpty = false := by rw [E_empty]; simp [h]
theorem law_IntegerBezout (s t : ByteArray) (l1 : s.size ≤ maxLen) (l2 : t.size ≤ maxLen) (w : World) :
    Calls Try.prog 11 #[.string s, .string t] w fun e w' => e = .returned (.bool true) ∧ Below w.heap.size w w' := by
  by_cases h : Can s
  · by_cases h2 : Can t
    · by_cases k1 : s.size ≤ 50
      · by_cases k2 : t.size ≤ 50
        · obtain ⟨g, x, y, hx, he⟩ := iext_fix s t h h2
          have m1 := V50 k1
          have m2 := V50 k2
          have hlim := lim50
          generalize hM : 256 ^ 50 = M at *
          have hM0 : 0 < M := by omega
          have hM1 : M ≤ M * M := Nat.le_mul_of_pos_left _ hM0
          obtain ⟨x1, x2, x3, x4, x5, x6⟩ := hx
          have hg : g ≤ M := by
            rw [x1]
            rcases Nat.eq_zero_or_pos (V s) with q | q
            · rw [q, Nat.gcd_zero_left]; omega
            · have := Nat.gcd_le_left (V t) q; omega
          have hxM : x.natAbs ≤ M := by
            by_cases hb : V t = 0
            · have := (x3 hb).1; omega
            · have q := x4 hb
              have : V t / g ≤ V t := Nat.div_le_self _ _
              omega
          have hx0 : 0 ≤ x := by
            by_cases hb : V t = 0
            · have := (x3 hb).1; omega
            · exact (x4 hb).1
          have hax : ((V s : Int) * x).natAbs ≤ M * M := by
            rw [Int.natAbs_mul, Int.natAbs_natCast]
            exact Nat.mul_le_mul (by omega) hxM
          have va : IVal (ZG (V s : Nat)) (ZS (V s : Nat)) := ival_Z _ (by simp; omega)
          have vb : IVal (ZG (V t : Nat)) (ZS (V t : Nat)) := ival_Z _ (by simp; omega)
          have vx := ival_Z x x5
          have vy := ival_Z y x6
          have hp := mul_z _ _ _ _ va vx (by rw [IZ_Z, IZ_Z]; omega)
          have hq := mul_z _ _ _ _ vb vy (by rw [IZ_Z, IZ_Z]; omega)
          rw [IZ_Z, IZ_Z] at hp hq
          have vp := ival_Z ((V s : Int) * x) (by omega)
          have vq := ival_Z ((V t : Int) * y) (by omega)
          have hs := add_z _ _ _ _ vp vq (by rw [IZ_Z, IZ_Z, x2]; simp; omega)
          rw [IZ_Z, IZ_Z, x2] at hs
          have hcg : Can (E g) := can_E' (by omega)
          have hgf := fun w => from_z (E g) w hcg
          rw [V_E] at hgf
          have eX : ZG x = false := by unfold ZG; simp; omega
          refine bezout_yes s t (E g) (ZS x) _ _ _ _ _ _ (E (V s / g)) (E (V t / g)) (ZG x) _ _ _ _ _ _ w h h2 (by omega) (by omega) ?_ he (fun w => from_z s w h) hp (fun w => from_z t w h2) hq hs hgf
          by_cases hg0 : g = 0
          · have hz : Nat.gcd (V s) (V t) = 0 := by rw [← x1, hg0]
            have hz := Nat.gcd_eq_zero_iff.1 hz
            exact .inl ⟨emp _ hg0, by rw [← E_V h]; exact emp _ hz.1, by rw [← E_V h2]; exact emp _ hz.2⟩
          · have dvs : ∀ (u : ByteArray), Can u → g ∣ V u → ∀ w, Calls Try.prog 46 #[.string u, .string (E g)] w fun e w' => e = .returned (.tuple #[.string (E (V u / g)), .string ⟨#[]⟩, .int .i64 0]) ∧ Below w.heap.size w w' := by
              intro u hu hd w
              have := divMod_yes u (E g) w hu hcg
              rwa [V_E, divN_pos (by omega), Nat.mod_eq_zero_of_dvd hd, show E 0 = ⟨#[]⟩ from rfl] at this
            have d1 := dvs s h (by rw [x1]; exact Nat.gcd_dvd_left _ _)
            have d2 := dvs t h2 (by rw [x1]; exact Nat.gcd_dvd_right _ _)
            by_cases hb : V t = 0
            · exact .inr (.inl ⟨nemp _ hg0, by rw [← E_V h2]; exact emp _ hb, eX, d1, d2⟩)
            · have q := x4 hb
              have hcx : Can (ZS x) := vx.1
              have hcm : Can (E (V t / g)) := can_E' (by have : V t / g ≤ V t := Nat.div_le_self _ _; omega)
              have hc := fun w => cmp_below (ZS x) (E (V t / g)) w hcx hcm
              have ev : V (ZS x) = x.natAbs := by unfold ZS; rw [V_E]
              rw [V_E, ev, show sgn x.natAbs (V t / g) = -1 by unfold sgn; rw [if_pos (by omega)]] at hc
              exact .inr (.inr ⟨nemp _ hg0, by rw [← E_V h2]; exact nemp _ hb, eX, d1, d2, hc⟩)
        · exact bezout_l2 s t w h h2 (by omega) (by omega) h2.1
      · exact bezout_l1 s t w h h2 (by omega) h.1
    · exact bezout_n2 s t w h h2
  · exact bezout_n1 s t w h
end Go.Proofs.Ytamgklgjhjociaa
