/-
  Contracts of package integer and of its reference: Mod.
-/
import Derived.Test.YtjbcicgbemepbaaGreatDoorInt10
namespace Go.Proofs.YtjbcicgbemepbaaGreatDoor
open Go.RowKit
set_option linter.unusedVariables false

theorem Two.newD (w : World) (c0 c1 : Value) (t : TypeId) (g : Nat) (hg : g = w.heap.size) : Two (w.alloc (.cells #[c0, c1] t)).drew g c0 c1 := Two.new w c0 c1 t g hg
theorem Two.allocD {w : World} {g : Nat} {c0 c1 : Value} (h : Two w g c0 c1) (o : Obj) : Two (w.alloc o).drew g c0 c1 := h.alloc o
theorem Two.drewD {w : World} {g : Nat} {c0 c1 : Value} (h : Two w g c0 c1) : Two w.drew g c0 c1 := h

set_option maxHeartbeats 4000000 in
set_option maxRecDepth 20000 in
theorem rimod_core (g1 G2 G : Bool) (s1 m S2 S t : ByteArray) (v : Int) (w : World) (hm : Can m) (hi : IVal g1 s1)
    (hF : ∀ w, Calls Tryz.prog 83 #[.string m] w fun e w' => e = .returned (.agg #[.bool G2, .string S2]) ∧ Below w.heap.size w w')
    (hD : ∀ w, Calls Tryz.prog 82 #[.agg #[.bool g1, .string s1], .agg #[.bool G2, .string S2]] w fun e w' => e = .returned (.tuple #[.agg #[.bool G, .string S], .string t, .int .i64 v]) ∧ Below w.heap.size w w') :
    Calls Tryz.prog 52 #[.agg #[.bool g1, .string s1], .string m] w fun e w' => e = .returned (.tuple #[.string t, .int .i64 v]) ∧ Below w.heap.size w w' := by
  have HM := Lib.hid hm; clear hm
  have HI := Lib.hid hi; clear hi
  have HF := Lib.hid hF; clear hF
  have HD := Lib.hid hD; clear hD
  go_enter Tryz.func52, Tryz.ntmps52
  go_wp2_with fail
  refine (rivalid_t g1 s1 _ HI.out).mono ?_; rintro e w0 ⟨rfl, b0⟩
  obtain ⟨T1, k0⟩ := after1 b0
  obtain ⟨q1, q2⟩ := T1.out
  have z0 := k0.size
  have z1 := T1.2.2.2.2
  go_wp2_with fail
  refine (rvalid_yes m _ HM.out).mono ?_; rintro e wx ⟨rfl, rfl⟩
  go_wp2
  go_region_with (first
    | (go_at_call 83; refine (HF.out _).mono ?_; rintro e w2 ⟨rfl, b2⟩; have T1 : Two w2 w.heap.size (.bool g1) (.string s1) := Two.below (by first | with_reducible exact T1 | with_reducible exact T1.drewD | with_reducible exact Two.alloc T1 _ | with_reducible exact Two.allocD T1 _) b2 rfl; have k2 : Below w.heap.size w w2 := bnextW (by repeat' (first | assumption | exact Below.refl _ _ | refine Below.drew ?_ | refine Below.setCell ?_ ?_ _ | refine Below.alloc ?_ ?_ _ | (simp; done) | (simp; omega) | omega)) b2 (by first | (simp; done) | (simp; omega) | omega); have z2 := k2.size; have y2 := T1.2.2.2.2; clear q1 q2; obtain ⟨q1, q2⟩ := T1.out; first | (have T9 : Two w2 w0.heap.size (.bool false) (.string ⟨#[]⟩) := Two.below (Two.newD _ _ _ _ _ (by first | rfl | (simp; done))) b2 rfl; have z9 := T9.2.2.2.2) | skip)
    | (go_at_call 82; refine (HD.out _).mono ?_; rintro e w3 ⟨rfl, b3⟩; have k3 : Below w.heap.size w w3 := bnextW (by repeat' (first | assumption | exact Below.refl _ _ | refine Below.drew ?_ | refine Below.setCell ?_ ?_ _ | refine Below.alloc ?_ ?_ _ | (simp; done) | (simp; omega) | omega)) b3 (by first | (simp; done) | (simp; omega) | omega); have z3 := k3.size; clear q1 q2; first | (have T9 : Two w3 w0.heap.size (.bool false) (.string ⟨#[]⟩) := Two.below T9 b3 rfl; obtain ⟨v1, v2, v3, v4, v5⟩ := T9) | (have T9 : Two w3 w2.heap.size (.bool false) (.string ⟨#[]⟩) := Two.below (by first | with_reducible exact Two.new _ _ _ _ _ rfl | with_reducible exact Two.newD _ _ _ _ _ rfl) b3 rfl; obtain ⟨v1, v2, v3, v4, v5⟩ := T9) | skip))
  all_goals go_wp2
  all_goals go_ret2
  all_goals exact ⟨rfl, (by repeat' (first | assumption | exact Below.refl _ _ | refine Below.drew ?_ | refine Below.setCell ?_ ?_ _ | refine Below.alloc ?_ ?_ _ | (simp; done) | (simp; omega) | omega))⟩
set_option maxHeartbeats 400000 in
theorem rimod_no1 (g1 : Bool) (s1 m : ByteArray) (w : World) (hm : ¬ Can m) (hi : IVal g1 s1) :
    Calls Tryz.prog 52 #[.agg #[.bool g1, .string s1], .string m] w fun e w' => e = .returned (.tuple #[.string ⟨#[]⟩, .int .i64 3]) ∧ Below w.heap.size w w' := by
  have HM := Lib.hid hm; clear hm
  have HI := Lib.hid hi; clear hi
  go_enter Tryz.func52, Tryz.ntmps52
  go_wp2_with fail
  refine (rivalid_t g1 s1 _ HI.out).mono ?_; rintro e w0 ⟨rfl, b0⟩
  obtain ⟨T1, k0⟩ := after1 b0
  go_wp2_with fail
  refine (rvalid_no m _ HM.out).mono ?_; rintro e wx ⟨rfl, rfl⟩
  go_wp2
  go_ret2
  exact ⟨rfl, k0⟩
set_option maxHeartbeats 400000 in
theorem rimod_no2 (g1 : Bool) (s1 m : ByteArray) (w : World) (hi : ¬ IVal g1 s1) :
    Calls Tryz.prog 52 #[.agg #[.bool g1, .string s1], .string m] w fun e w' => e = .returned (.tuple #[.string ⟨#[]⟩, .int .i64 3]) ∧ Below w.heap.size w w' := by
  have HI := Lib.hid hi; clear hi
  go_enter Tryz.func52, Tryz.ntmps52
  go_wp2_with fail
  refine (rivalid_f g1 s1 _ HI.out).mono ?_; rintro e w0 ⟨rfl, b0⟩
  obtain ⟨T1, k0⟩ := after1 b0
  go_wp2
  go_ret2
  exact ⟨rfl, k0⟩
end Go.Proofs.YtjbcicgbemepbaaGreatDoor
