/-
  Contracts of package integer and of its reference: Sub.
-/
import Derived.Test.YtjbcicgbemepbaaDoorInt6
import Derived.Deep.RegionWith
namespace Go.Proofs.YtjbcicgbemepbaaDoor
open Go.RowKit
set_option linter.unusedVariables false

theorem Z_neg_code {g : Bool} {s : ByteArray} (h : IVal g s) : ∃ (G : Bool) (S : ByteArray), Z (-(IZ g s)) = .agg #[.bool G, .string S] ∧ IVal G S ∧ IZ G S = -(IZ g s) :=
  ⟨_, _, rfl, ival_Z _ (by rw [Int.natAbs_neg]; exact IZ_lim h), IZ_Z _⟩

set_option maxHeartbeats 2000000 in
theorem isub_core (g1 g2 G G' : Bool) (s1 s2 S S' : ByteArray) (v : Int) (w : World) (h2 : IVal g2 s2)
    (hN : ∀ w, Calls Tryd.prog 79 #[.agg #[.bool g2, .string s2]] w fun e w' => e = .returned (.agg #[.bool G, .string S]) ∧ Below w.heap.size w w')
    (hA : ∀ w, Calls Tryd.prog 44 #[.agg #[.bool g1, .string s1], .agg #[.bool G, .string S]] w fun e w' => e = .returned (.tuple #[.agg #[.bool G', .string S'], .int .i64 v]) ∧ Below w.heap.size w w') :
    Calls Tryd.prog 60 #[.agg #[.bool g1, .string s1], .agg #[.bool g2, .string s2]] w fun e w' => e = .returned (.tuple #[.agg #[.bool G', .string S'], .int .i64 v]) ∧ Below w.heap.size w w' := by
  have H2 := Lib.hid h2; clear h2
  skip
  have HN := Lib.hid hN; clear hN
  have HA := Lib.hid hA; clear hA
  go_enter Tryd.func60, Tryd.ntmps60
  go_wp2_with fail
  refine (ivalid_t g2 s2 _ H2.out).mono ?_; rintro e w1 ⟨rfl, b1⟩
  obtain ⟨T1, T2, T3, k1⟩ := after3 b1
  have q1 := T1.1
  have q2 := T1.2.1
  have q3 := T2.1
  have q4 := T2.2.1
  go_wp2
  go_region_with (first
    | (go_at_call 79; refine (HN.out _).mono ?_; rintro e w2 ⟨rfl, b2⟩; have T1 : Two w2 w.heap.size (.bool g1) (.string s1) := Two.below (by exact T1) b2 rfl; have T3 : Two w2 (w.heap.size + 1 + 1) (.bool false) (.string ⟨#[]⟩) := Two.below (by exact T3) b2 rfl; have k2 : Below w.heap.size w w2 := bnextW (by exact k1.drew) b2 k1.size; clear q1 q2 q3 q4; have q1 := T1.1; have q2 := T1.2.1)
    | (go_at_call 44; refine (HA.out _).mono ?_; rintro e w3 ⟨rfl, b3⟩; have T3 : Two w3 (w.heap.size + 1 + 1) (.bool false) (.string ⟨#[]⟩) := Two.below T3 b3 rfl; have k3 : Below w.heap.size w w3 := bnextW k2 b3 k2.size; clear q1 q2; obtain ⟨q1, q2, q3, q4, q5⟩ := T3))
  all_goals go_wp2
  all_goals refine bodyPost_ret (v := .tuple #[.agg #[.bool G', .string S'], .int .i64 v]) (by simp [results, Tryd.results60, go_sem, q1, q2]) rfl ⟨rfl, ?_⟩
  all_goals exact bset k3 (by omega)
theorem isub_yes (g1 g2 : Bool) (s1 s2 : ByteArray) (w : World) (h1 : IVal g1 s1) (h2 : IVal g2 s2) :
    Calls Tryd.prog 60 #[.agg #[.bool g1, .string s1], .agg #[.bool g2, .string s2]] w fun e w' => e = .returned (zokN (IZ g1 s1 - IZ g2 s2)) ∧ Below w.heap.size w w' := by
  obtain ⟨G, S, hc, hv, hz⟩ := Z_neg_code h2
  have ha := fun w => iadd_yes g1 G s1 S w h1 hv
  rw [hz, ← Int.sub_eq_add_neg] at ha
  have hn := fun w => ineg_yes g2 s2 w h2
  rw [hc] at hn
  obtain ⟨G', S', v, hr, _⟩ := zokN_code (IZ g1 s1 - IZ g2 s2)
  rw [hr] at ha ⊢
  exact isub_core g1 g2 G G' s1 s2 S S' v w h2 hn ha

set_option maxHeartbeats 400000 in
theorem isub_no1 (g1 g2 : Bool) (s1 s2 : ByteArray) (w : World) (h : ¬ IVal g2 s2) :
    Calls Tryd.prog 60 #[.agg #[.bool g1, .string s1], .agg #[.bool g2, .string s2]] w fun e w' => e = .returned (.tuple #[Z 0, .int .i64 3]) ∧ Below w.heap.size w w' := by
  have H1 := Lib.hid h; clear h
  rw [Z_zero]
  go_enter Tryd.func60, Tryd.ntmps60
  go_wp2_with fail
  refine (ivalid_f g2 s2 _ H1.out).mono ?_; rintro e w1 ⟨rfl, b1⟩
  obtain ⟨T1, T2, T3, k1⟩ := after3 b1
  obtain ⟨q1, q2, q3, q4, q5⟩ := T3
  go_wp2
  refine bodyPost_ret (v := .tuple #[.agg #[.bool false, .string ⟨#[]⟩], .int .i64 3]) (by simp [results, Tryd.results60, go_sem, q1, q2]) rfl ⟨rfl, ?_⟩
  exact bset k1 (by omega)
theorem isub_no (g1 g2 : Bool) (s1 s2 : ByteArray) (w : World) (h : ¬ (IVal g1 s1 ∧ IVal g2 s2)) :
    Calls Tryd.prog 60 #[.agg #[.bool g1, .string s1], .agg #[.bool g2, .string s2]] w fun e w' => e = .returned (.tuple #[Z 0, .int .i64 3]) ∧ Below w.heap.size w w' := by
  by_cases h2 : IVal g2 s2
  · obtain ⟨G, S, hc, hv, hz⟩ := Z_neg_code h2
    have ha := fun w => iadd_no g1 G s1 S w (fun q => h ⟨q.1, h2⟩)
    have hn := fun w => ineg_yes g2 s2 w h2
    rw [hc] at hn
    rw [Z_zero] at ha ⊢
    exact isub_core g1 g2 G _ s1 s2 S _ 3 w h2 hn ha
  · exact isub_no1 g1 g2 s1 s2 w h2

end Go.Proofs.YtjbcicgbemepbaaDoor
