/-
  The reference of package coins, the second part: Same, Good.
-/
import Derived.Test.YtehbbghobagkjaaDoorRC1
import Derived.Test.YtehbbghobagkjaaDoorCoi9
namespace Go.Proofs.YtehbbghobagkjaaDoor
open Go.RowKit Go.Deep
set_option linter.unusedVariables false

/-- Equal tapes. -/
def EqT (k1 k2 : Nat) (f1 f2 : Nat → ByteArray) (S1 S2 : ByteArray) (t1 t2 : Int) : Prop := S1 = S2 ∧ t1 = t2 ∧ EqN k1 k2 f1 f2
def SmR (W0 : World) (k : Nat) (f1 f2 : Nat → ByteArray) (v : Value) (wr : World) : Prop := ∃ i : Nat, i ≤ k ∧ v = .int .i64 i ∧ Hid (∀ j, j < i → f1 j = f2 j) ∧ Hid (Below W0.heap.size W0 wr)
theorem beq_yes {s t : ByteArray} (h : s = t) : (s.toList == t.toList) = true := by rw [h]; exact beq_self_eq_true _
set_option maxHeartbeats 2000000 in
set_option maxRecDepth 20000 in
theorem same_any (v1 v2 : Value) (k1 k2 : Nat) (f1 f2 : Nat → ByteArray) (S1 S2 : ByteArray) (t1 t2 : Int) (w : World) (h1 : SV w v1 k1 f1) (h2 : SV w v2 k2 f2) (hk1 : k1 ≤ 9223372036854775807) (hk2 : k2 ≤ 9223372036854775807) :
    Calls Tryd.prog 10 #[.agg #[v1, .string S1, .int .i64 t1], .agg #[v2, .string S2, .int .i64 t2]] w fun e w' => EqP (EqT k1 k2 f1 f2 S1 S2 t1 t2) w e w' := by
  have HB0 := Lib.hid (box2_below w (.cells #[v1, .string S1, .int .i64 t1] 24) (.cells #[v2, .string S2, .int .i64 t2] 24))
  have HT0 := Lib.hid (box2_first w v1 (.string S1) (.int .i64 t1) 24 (.cells #[v2, .string S2, .int .i64 t2] 24))
  have HT1 := Lib.hid (box2_second w v2 (.string S2) (.int .i64 t2) 24 (.cells #[v1, .string S1, .int .i64 t1] 24))
  have HV1 := Lib.hid (h1.below HB0.out)
  have HV2 := Lib.hid (h2.below HB0.out)
  obtain ⟨p1, cap1, rfl, -⟩ := h1
  obtain ⟨p2, cap2, rfl, -⟩ := h2
  by_cases hS : S1 = S2
  · by_cases ht : t1 = t2
    · by_cases hk : k1 = k2
      · have hb := beq_yes hS
        subst hS ht hk
        obtain ⟨q0, q1, q2, q3, q4, q5, q6⟩ := HT0.out
        obtain ⟨s0, s1, s2, s3, s4, s5, s6⟩ := HT1.out
        go_enter Tryd.func10, Tryd.ntmps10
        go_wp2
        obtain ⟨W0, hW0⟩ : ∃ W0, W0 = (w.alloc (.cells #[.slice p1 k1 cap1, .string S1, .int .i64 t1] 24)).alloc (.cells #[.slice p2 k1 cap2, .string S1, .int .i64 t1] 24) := ⟨_, rfl⟩
        rw [← hW0] at HB0 HT0 HT1 HV1 HV2 ⊢
        clear q0 q1 q2 q3 q4 q5 q6 s0 s1 s2 s3 s4 s5 s6 hW0
        go_loopw [5] (fun v wr => SmR W0 k1 f1 f2 v wr) (fun v _ => k1 - (intOf v).toNat)
        case atStart => exact ⟨0, by omega, rfl, (fun j hj => absurd hj (by omega)), Below.refl _ _⟩
        case round =>
          obtain ⟨i, hi, rfl, HI, HB⟩ := hrel
          obtain ⟨q0, q1, q2, q3, q4, q5, q6⟩ := HT0.out.below HB.out rfl
          obtain ⟨s0, s1, s2, s3, s4, s5, s6⟩ := HT1.out.below HB.out rfl
          by_cases hlt : i < k1
          · obtain ⟨a1, rfl, hc1⟩ := HV1.out.cell HB.out hlt
            obtain ⟨a2, rfl, hc2⟩ := HV2.out.cell HB.out hlt
            have hlti : (i : Int) < (k1 : Int) := by omega
            by_cases he : f1 i = f2 i
            · have HN := Lib.hid (all_upto (P := fun j => f1 j = f2 j) HI.out he)
              rw [← he] at hc2
              go_wp2
              go_quiet (fail)
              go_wp2
              go_roundw
              case rel => exact ⟨i + 1, by omega, by go_num, HN.out, bel_drewq HB.out _⟩
              case measure => simp [intOf]; omega
            · have HR := Lib.hid (show IffP false (EqT k1 k1 f1 f2 S1 S1 t1 t1) from ⟨(fun q => by cases q), fun q => absurd (q.2.2.2 i hlt) he⟩)
              have hb := beq_no he
              go_wp2
              go_quiet (fail)
              go_wp2
              go_ret
              exact ⟨⟨false, rfl, HR.out⟩, bel_of HB0.out (bel_drewq HB.out _)⟩
          · obtain rfl : i = k1 := by omega
            have HR := Lib.hid (show IffP true (EqT i i f1 f2 S1 S1 t1 t1) from ⟨fun _ => ⟨rfl, rfl, rfl, HI.out⟩, fun _ => rfl⟩)
            go_wp2
            go_ret
            exact ⟨⟨true, rfl, HR.out⟩, bel_of HB0.out HB.out⟩
      · have HR := Lib.hid (show IffP false (EqT k1 k2 f1 f2 S1 S2 t1 t2) from ⟨(fun q => by cases q), fun q => absurd q.2.2.1 hk⟩)
        have hki : ¬ (k1 : Int) = (k2 : Int) := by omega
        have hb := beq_yes hS
        subst hS ht
        obtain ⟨q0, q1, q2, q3, q4, q5, q6⟩ := HT0.out
        obtain ⟨s0, s1, s2, s3, s4, s5, s6⟩ := HT1.out
        go_enter Tryd.func10, Tryd.ntmps10
        go_wp2
        go_ret
        exact ⟨⟨false, rfl, HR.out⟩, HB0.out⟩
    · have HR := Lib.hid (show IffP false (EqT k1 k2 f1 f2 S1 S2 t1 t2) from ⟨(fun q => by cases q), fun q => absurd q.2.1 ht⟩)
      have hb := beq_yes hS
      subst hS
      obtain ⟨q0, q1, q2, q3, q4, q5, q6⟩ := HT0.out
      obtain ⟨s0, s1, s2, s3, s4, s5, s6⟩ := HT1.out
      go_enter Tryd.func10, Tryd.ntmps10
      go_wp2
      go_ret
      exact ⟨⟨false, rfl, HR.out⟩, HB0.out⟩
  · have HR := Lib.hid (show IffP false (EqT k1 k2 f1 f2 S1 S2 t1 t2) from ⟨(fun q => by cases q), fun q => absurd q.1 hS⟩)
    have hb := beq_no hS
    obtain ⟨q0, q1, q2, q3, q4, q5, q6⟩ := HT0.out
    obtain ⟨s0, s1, s2, s3, s4, s5, s6⟩ := HT1.out
    go_enter Tryd.func10, Tryd.ntmps10
    go_wp2
    go_ret
    exact ⟨⟨false, rfl, HR.out⟩, HB0.out⟩
end Go.Proofs.YtehbbghobagkjaaDoor
