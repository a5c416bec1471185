/-
  Contracts of package integer: step.
-/
import Derived.Test.YtogmgfdihmacpaaGreatDoorIB
import Derived.Deep.DeepCutAuto
namespace Go.Proofs.YtogmgfdihmacpaaGreatDoor
open Go.RowKit
set_option linter.unusedVariables false

/-- Four cells of a variable. -/
def Four (w : World) (g : Nat) (a b c d : Value) : Prop :=
  Two w g a b ∧ w.cell? ⟨g, 2, none⟩ = some c ∧ w.cell? ⟨g, 3, none⟩ = some d ∧ w.frozen? ⟨g, 2, none⟩ = false ∧ w.frozen? ⟨g, 3, none⟩ = false
theorem Four.lt {w : World} {g : Nat} {a b c d : Value} (h : Four w g a b c d) : g < w.heap.size := h.1.2.2.2.2
theorem Four.new (w : World) (a b c d : Value) (t : TypeId) (g : Nat) (hg : g = w.heap.size) : Four (w.alloc (.cells #[a, b, c, d] t)) g a b c d := by
  subst hg
  refine ⟨⟨?_, ?_, ?_, ?_, ?_⟩, ?_, ?_, ?_, ?_⟩
  · rw [World.cell?_alloc_new]; rfl
  · rw [World.cell?_alloc_new]; rfl
  · simp
  · simp
  · simp
  · rw [World.cell?_alloc_new]; rfl
  · rw [World.cell?_alloc_new]; rfl
  · simp
  · simp
theorem Four.below {w w' : World} {B g : Nat} {a b c d : Value} (h : Four w g a b c d) (k : Below B w w') (hB : B = w.heap.size) : Four w' g a b c d := by
  subst hB
  have h4 := h.lt
  obtain ⟨h0, h1, h2, h3, h5⟩ := h
  refine ⟨h0.below k rfl, ?_, ?_, ?_, ?_⟩
  · rw [k.cell (p := ⟨g, 2, none⟩) h4, h1]
  · rw [k.cell (p := ⟨g, 3, none⟩) h4, h2]
  · rw [k.frozen (p := ⟨g, 2, none⟩) h4, h3]
  · rw [k.frozen (p := ⟨g, 3, none⟩) h4, h5]
theorem Four.alloc {w : World} {g : Nat} {a b c d : Value} (h : Four w g a b c d) (o : Obj) : Four (w.alloc o) g a b c d :=
  h.below ((Below.refl _ _).alloc (Nat.le_refl _) _) rfl
theorem Four.allocD {w : World} {g : Nat} {a b c d : Value} (h : Four w g a b c d) (o : Obj) : Four (w.alloc o).drew g a b c d := h.alloc o
theorem Four.drewD {w : World} {g : Nat} {a b c d : Value} (h : Four w g a b c d) : Four w.drew g a b c d := h
theorem Four.set_ne {w : World} {g : Nat} {a b c d : Value} (h : Four w g a b c d) (x : Nat) (u v : Value) (hn : x ≠ g) : Four ((w.setCell ⟨x, 0, none⟩ u).setCell ⟨x, 1, none⟩ v) g a b c d := by
  obtain ⟨h0, h1, h2, h3, h4⟩ := h
  refine ⟨h0.set_ne x u v hn, ?_, ?_, by simp [h3], by simp [h4]⟩
  · rw [World.cell?_setCell_other _ _ _ _ (addr_ne hn), World.cell?_setCell_other _ _ _ _ (addr_ne hn)]; exact h1
  · rw [World.cell?_setCell_other _ _ _ _ (addr_ne hn), World.cell?_setCell_other _ _ _ _ (addr_ne hn)]; exact h2
theorem far4 {w : World} {g : Nat} {i j : Nat} (hn : i ≠ j) (u : Value) : (w.setCell ⟨g, i, none⟩ u).cell? ⟨g, j, none⟩ = w.cell? ⟨g, j, none⟩ :=
  World.cell?_setCell_other _ _ _ _ (by intro q; exact hn (Addr.mk.inj q).2.1)
theorem near4 {w : World} {g i : Nat} {a : Value} (u : Value) (h : w.cell? ⟨g, i, none⟩ = some a) : (w.setCell ⟨g, i, none⟩ u).cell? ⟨g, i, none⟩ = some u :=
  World.cell?_setCell_same _ _ _ h
theorem Four.set {w : World} {g : Nat} {a b c d : Value} (h : Four w g a b c d) (x y z u : Value) :
    Four ((((w.setCell ⟨g, 0, none⟩ x).setCell ⟨g, 1, none⟩ y).setCell ⟨g, 2, none⟩ z).setCell ⟨g, 3, none⟩ u) g x y z u := by
  obtain ⟨⟨h0, h1, h2, h3, h4⟩, h5, h6, h7, h8⟩ := h
  refine ⟨⟨?_, ?_, by simp [h2], by simp [h3], by simp [h4]⟩, ?_, ?_, by simp [h7], by simp [h8]⟩
  · rw [far4 (by decide), far4 (by decide), far4 (by decide)]; exact near4 _ h0
  · rw [far4 (by decide), far4 (by decide)]; exact near4 _ ((far4 (by decide) _).trans h1)
  · rw [far4 (by decide)]; exact near4 _ ((far4 (by decide) _).trans ((far4 (by decide) _).trans h5))
  · exact near4 _ ((far4 (by decide) _).trans ((far4 (by decide) _).trans ((far4 (by decide) _).trans h6)))
theorem Four.out {w : World} {g : Nat} {a b c d : Value} (h : Four w g a b c d) : w.cell? ⟨g, 0, none⟩ = some a ∧ w.cell? ⟨g, 1, none⟩ = some b ∧ w.cell? ⟨g, 2, none⟩ = some c ∧ w.cell? ⟨g, 3, none⟩ = some d := ⟨h.1.1, h.1.2.1, h.2.1, h.2.2.1⟩

set_option maxHeartbeats 4000000 in
set_option maxRecDepth 20000 in
theorem step_core (g0 g1 G P N : Bool) (s0 s1 q S PS NS : ByteArray) (v1 v2 : Int) (w : World)
    (hF : ∀ w, Calls Tryz.prog 35 #[.string q] w fun e w' => e = .returned (.agg #[.bool G, .string S]) ∧ Below w.heap.size w w')
    (hM : ∀ w, Calls Tryz.prog 146 #[.agg #[.bool G, .string S], .agg #[.bool g1, .string s1]] w fun e w' => e = .returned (.tuple #[.agg #[.bool P, .string PS], .int .i64 v1]) ∧ Below w.heap.size w w')
    (hS : ∀ w, Calls Tryz.prog 147 #[.agg #[.bool g0, .string s0], .agg #[.bool P, .string PS]] w fun e w' => e = .returned (.tuple #[.agg #[.bool N, .string NS], .int .i64 v2]) ∧ Below w.heap.size w w') :
    Calls Tryz.prog 128 #[.agg #[.bool g0, .string s0, .bool g1, .string s1], .string q] w fun e w' => e = .returned (.agg #[.bool g1, .string s1, .bool N, .string NS]) ∧ Below w.heap.size w w' := by
  have HF := Lib.hid hF; clear hF
  have HM := Lib.hid hM; clear hM
  have HS := Lib.hid hS; clear hS
  have F1 := Four.alloc (Four.new w (.bool g0) (.string s0) (.bool g1) (.string s1) 59 w.heap.size rfl) (.cells #[.bool false, .string ⟨#[]⟩, .bool false, .string ⟨#[]⟩] 59)
  have F2 := Four.new (w.alloc (.cells #[.bool g0, .string s0, .bool g1, .string s1] 59)) (.bool false) (.string ⟨#[]⟩) (.bool false) (.string ⟨#[]⟩) 59 (w.heap.size + 1) (by simp)
  have k0 := ((Below.refl w.heap.size w).alloc (Nat.le_refl _) (.cells #[.bool g0, .string s0, .bool g1, .string s1] 59)).alloc (by simp) (.cells #[.bool false, .string ⟨#[]⟩, .bool false, .string ⟨#[]⟩] 59)
  go_enter Tryz.func128, Tryz.ntmps128
  go_upto_region 1 with fail
  go_cut [5] (fun s5 wx => ∃ g : Nat, s5 = .pointer (some ⟨g, 0, none⟩) ∧ Two wx g (.bool P) (.string PS) ∧ Four wx w.heap.size (.bool g0) (.string s0) (.bool g1) (.string s1) ∧ Four wx (w.heap.size + 1) (.bool false) (.string ⟨#[]⟩) (.bool false) (.string ⟨#[]⟩) ∧ Below w.heap.size w wx ∧ w.heap.size + 1 < g)
  case first =>
    go_region_with (first
      | (go_at_call 35; refine (HF.out _).mono ?_; rintro e w2 ⟨rfl, b2⟩; have F1 : Four w2 w.heap.size (.bool g0) (.string s0) (.bool g1) (.string s1) := Four.below (by first | with_reducible exact F1 | with_reducible exact F1.drewD | with_reducible exact Four.alloc F1 _ | with_reducible exact Four.allocD F1 _) b2 rfl; have F2 : Four w2 (w.heap.size + 1) (.bool false) (.string ⟨#[]⟩) (.bool false) (.string ⟨#[]⟩) := Four.below (by first | with_reducible exact F2 | with_reducible exact F2.drewD | with_reducible exact Four.alloc F2 _ | with_reducible exact Four.allocD F2 _) b2 rfl; have k2 : Below w.heap.size w w2 := bnextW (by repeat' (first | assumption | exact Below.refl _ _ | refine Below.drew ?_ | refine Below.setCell ?_ ?_ _ | refine Below.alloc ?_ ?_ _ | (simp; done) | (simp; omega) | omega)) b2 (by first | (simp; done) | (simp; omega) | omega); have z2 := k2.size; have y2 := F2.lt; have x2 := F1.lt; obtain ⟨q1, q2, q3, q4⟩ := F1.out; first | (have T9 : Two w2 (w.heap.size + 1 + 1) (.bool false) (.string ⟨#[]⟩) := Two.below (Two.newD _ _ _ _ _ (by simp)) b2 rfl; have z9 := T9.2.2.2.2) | skip)
      | (go_at_call 146; refine (HM.out _).mono ?_; rintro e w3 ⟨rfl, b3⟩; have F1 : Four w3 w.heap.size (.bool g0) (.string s0) (.bool g1) (.string s1) := Four.below (by first | with_reducible exact F1 | with_reducible exact Four.alloc F1 _) b3 rfl; have F2 : Four w3 (w.heap.size + 1) (.bool false) (.string ⟨#[]⟩) (.bool false) (.string ⟨#[]⟩) := Four.below (by first | with_reducible exact F2 | with_reducible exact Four.alloc F2 _) b3 rfl; have k3 : Below w.heap.size w w3 := bnextW (by repeat' (first | assumption | exact Below.refl _ _ | refine Below.drew ?_ | refine Below.setCell ?_ ?_ _ | refine Below.alloc ?_ ?_ _ | (simp; done) | (simp; omega) | omega)) b3 (by first | (simp; done) | (simp; omega) | omega); have z3 := k3.size; have y3 := F2.lt; have x3 := F1.lt; clear q1 q2 q3 q4; first | (have T9 : Two w3 (w.heap.size + 1 + 1) (.bool false) (.string ⟨#[]⟩) := Two.below T9 b3 rfl; have T8 := T9; obtain ⟨t1, t2, t3, t4, t5⟩ := T9) | (have T9 : Two w3 w2.heap.size (.bool false) (.string ⟨#[]⟩) := Two.below (by first | with_reducible exact Two.new _ _ _ _ _ rfl | with_reducible exact Two.newD _ _ _ _ _ rfl) b3 rfl; have T8 := T9; obtain ⟨t1, t2, t3, t4, t5⟩ := T9) | skip))
    all_goals go_wp2_with fail
    all_goals go_meet
    all_goals refine ⟨_, rfl, ?_, ?_, ?_, (by repeat' (first | assumption | exact Below.refl _ _ | refine Below.drew ?_ | refine Below.setCell ?_ ?_ _ | refine Below.alloc ?_ ?_ _ | (simp; done) | (simp; omega) | omega)), by omega⟩
    all_goals first
      | exact Two.new _ _ _ _ _ rfl
      | exact Two.set T8 _ _
      | exact F1.alloc _
      | exact F2.alloc _
      | exact F1.set_ne _ _ _ (by omega)
      | exact F2.set_ne _ _ _ (by omega)
  case rest =>
    obtain ⟨g, rfl, T1, F1, F2, k1, hg⟩ := hcut
    obtain ⟨q1, q2, q3, q4⟩ := F1.out
    obtain ⟨r1, r2⟩ := T1.out
    go_wp2_with fail
    refine (HS.out _).mono ?_; rintro e w2 ⟨rfl, b2⟩
    have k2 := bnextW k1 b2 k1.size
    have T1 := T1.below b2 rfl
    have F1 := F1.below b2 rfl
    have F2 := F2.below b2 rfl
    clear q1 q2 q3 q4 r1 r2
    have y1 := F1.lt
    obtain ⟨q1, q2, q3, q4⟩ := F1.out
    have F3 := (F2.set (.bool g1) (.string s1) (.bool N) (.string NS)).alloc (.cells #[.bool N, .string NS] 37)
    obtain ⟨⟨r1, r2, r3, r4, r5⟩, r6, r7, r8, r9⟩ := F2
    go_wp2
    obtain ⟨p1, p2, p3, p4⟩ := F3.out
    refine bodyPost_ret (v := .agg #[.bool g1, .string s1, .bool N, .string NS]) (by simp [results, Tryz.results128, go_sem, p1, p2, p3, p4]) rfl ⟨rfl, (by repeat' (first | assumption | exact Below.refl _ _ | refine Below.drew ?_ | refine Below.setCell ?_ ?_ _ | refine Below.alloc ?_ ?_ _ | (simp; done) | (simp; omega) | omega))⟩
end Go.Proofs.YtogmgfdihmacpaaGreatDoor
