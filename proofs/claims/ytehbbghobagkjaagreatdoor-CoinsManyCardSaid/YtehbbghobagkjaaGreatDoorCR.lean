/-
  Several parts in one text (CR).
-/
import Derived.Test.YtehbbghobagkjaaGreatDoorCoi7
import Derived.Test.YtehbbghobagkjaaGreatDoorCoi9
import Derived.Test.YtehbbghobagkjaaGreatDoorRef3
/-
  The reference of package coins, the first part: SameNats, Same.
-/
namespace Go.Proofs.YtehbbghobagkjaaGreatDoor
open Go.RowKit Go.Deep
set_option linter.unusedVariables false

theorem SV.cell {w wr : World} {p : Option Addr} {k cap : Nat} {f : Nat → ByteArray} (h : SV w (.slice p k cap) k f) (b : Below w.heap.size w wr) {i : Nat} (hi : i < k) : ∃ a, p = some a ∧ wr.cell? (a.add i) = some (.string (f i)) := by
  obtain ⟨q, c, e, hc⟩ := h.below b
  obtain ⟨rfl, rfl⟩ : p = q ∧ cap = c := by cases e; exact ⟨rfl, rfl⟩
  obtain ⟨a, e1, -, e3⟩ := hc i hi
  exact ⟨a, e1, e3⟩
theorem bel_drewq {B : Nat} {a w : World} (h : Below B a w) (n : Nat) : Below B a (w.drewN n) := ⟨h.os, h.tape, h.output, h.size, h.block⟩
theorem beq_no {s t : ByteArray} (h : ¬ s = t) : (s.toList == t.toList) = false := by
  rw [beq_eq_false_iff_ne]
  intro q
  rw [ByteArray.toList_eq, ByteArray.toList_eq] at q
  exact h (ByteArray.ext (Array.toList_inj.1 q))
/-- Equal lists. -/
def EqN (k1 k2 : Nat) (f1 f2 : Nat → ByteArray) : Prop := k1 = k2 ∧ ∀ j, j < k1 → f1 j = f2 j
def IffP (b : Bool) (P : Prop) : Prop := b = true ↔ P
def EqP (P : Prop) (w : World) (e : Ending) (w' : World) : Prop := (∃ b : Bool, e = .returned (.bool b) ∧ IffP b P) ∧ Below w.heap.size w w'
def SnR (w : World) (k : Nat) (f1 f2 : Nat → ByteArray) (v : Value) (wr : World) : Prop := ∃ i : Nat, i ≤ k ∧ v = .int .i64 i ∧ Hid (∀ j, j < i → f1 j = f2 j) ∧ Hid (Below w.heap.size w wr)
set_option maxHeartbeats 2000000 in
set_option maxRecDepth 20000 in
theorem sameNats_any (v1 v2 : Value) (k1 k2 : Nat) (f1 f2 : Nat → ByteArray) (w : World) (h1 : SV w v1 k1 f1) (h2 : SV w v2 k2 f2) (hk1 : k1 ≤ 9223372036854775807) (hk2 : k2 ≤ 9223372036854775807) :
    Calls Tryz.prog 15 #[v1, v2] w fun e w' => EqP (EqN k1 k2 f1 f2) w e w' := by
  have HV1 := Lib.hid h1
  have HV2 := Lib.hid h2
  obtain ⟨p1, cap1, rfl, -⟩ := h1
  obtain ⟨p2, cap2, rfl, -⟩ := h2
  by_cases hk : k1 = k2
  · subst hk
    go_enter Tryz.func15, Tryz.ntmps15
    go_wp2
    go_loopw [5] (fun v wr => SnR w k1 f1 f2 v wr) (fun v _ => k1 - (intOf v).toNat)
    case atStart => exact ⟨0, by omega, rfl, (fun j hj => absurd hj (by omega)), Below.refl _ _⟩
    case round =>
      obtain ⟨i, hi, rfl, HI, HB⟩ := hrel
      by_cases hlt : i < k1
      · obtain ⟨a1, rfl, hc1⟩ := HV1.out.cell HB.out hlt
        obtain ⟨a2, rfl, hc2⟩ := HV2.out.cell HB.out hlt
        have hlti : (i : Int) < (k1 : Int) := by omega
        by_cases he : f1 i = f2 i
        · have HN := Lib.hid (all_upto (P := fun j => f1 j = f2 j) HI.out he)
          rw [← he] at hc2
          go_wp2
          go_quiet (fail)
          go_wp2
          go_roundw
          case rel => exact ⟨i + 1, by omega, by go_num, HN.out, bel_drewq HB.out _⟩
          case measure => simp [intOf]; omega
        · have HR := Lib.hid (show IffP false (EqN k1 k1 f1 f2) from ⟨(fun q => by cases q), fun q => absurd (q.2 i hlt) he⟩)
          have hb := beq_no he
          go_wp2
          go_quiet (fail)
          go_wp2
          go_ret
          exact ⟨⟨false, rfl, HR.out⟩, bel_drewq HB.out _⟩
      · obtain rfl : i = k1 := by omega
        have HR := Lib.hid (show IffP true (EqN i i f1 f2) from ⟨fun _ => ⟨rfl, HI.out⟩, fun _ => rfl⟩)
        go_wp2
        go_ret
        exact ⟨⟨true, rfl, HR.out⟩, HB.out⟩
  · have HR := Lib.hid (show IffP false (EqN k1 k2 f1 f2) from ⟨(fun q => by cases q), fun q => absurd q.1 hk⟩)
    have hki : ¬ (k1 : Int) = (k2 : Int) := by omega
    go_enter Tryz.func15, Tryz.ntmps15
    go_wp2
    go_ret
    exact ⟨⟨false, rfl, HR.out⟩, Below.refl _ _⟩
end Go.Proofs.YtehbbghobagkjaaGreatDoor


/-
  Layer 6's statements: what a small tape is.
-/
namespace Go.Proofs.YtehbbghobagkjaaGreatDoor
open Go.RowKit Go.Deep
set_option linter.unusedVariables false

/-- A small tape. -/
def FewP (k : Nat) (f : Nat → ByteArray) (S : ByteArray) (b : Bool) : Prop := b = true → k ≤ 40 ∧ S.size ≤ 100 ∧ ∀ j, j < k → (f j).size ≤ 140
set_option maxHeartbeats 1000000 in
set_option maxRecDepth 20000 in
theorem few_any (v : Value) (k : Nat) (f : Nat → ByteArray) (S : ByteArray) (t : Int) (w : World) (hv : SV w v k f) (hk : k ≤ 9223372036854775807) :
    Calls Tryz.prog 6 #[.agg #[v, .string S, .int .i64 t]] w fun e w' => (∃ b : Bool, e = .returned (.bool b) ∧ FewP k f S b) ∧ Below w.heap.size w w' := by
  have hb : Below w.heap.size w (w.alloc (.cells #[v, .string S, .int .i64 t] 24)) := (Below.refl _ _).alloc (Nat.le_refl _) _
  have hv2 := hv.below hb
  obtain ⟨p, cap, rfl, hc⟩ := hv2
  have hT := Three.new w (.slice p k cap) (.string S) (.int .i64 t) 24 _ rfl
  obtain ⟨q0, q1, q2, q3, q4, q5, q6⟩ := hT
  have HC := Lib.hid hc; clear hc hv
  have HB := Lib.hid hb; clear hb
  have HK := Lib.hid hk
  go_enter Tryz.func6, Tryz.ntmps6
  go_wp2
  generalize World.alloc w _ = W at *
  go_loop [3] (fun x => ∃ i : Nat, i ≤ k ∧ i ≤ 40 ∧ x = .int .i64 i ∧ Hid (∀ j, j < i → (f j).size ≤ 140)) (fun x => 40 - (intOf x).toNat)
  case atStart => exact ⟨0, by omega, by omega, rfl, fun j hj => absurd hj (by omega)⟩
  case round =>
    obtain ⟨i, hi, hi40, rfl, HI⟩ := hrel
    by_cases hlt : i < k
    · have hlti : (i : Int) < (k : Int) := by omega
      have hd1 : decide ((i : Int) < (k : Int)) = true := decide_eq_true hlti
      by_cases h40 : i < 40
      · obtain ⟨a, rfl, ha, hcell⟩ := HC.out i hlt
        have hd2 : decide ((i : Int) < 40) = true := decide_eq_true (by omega)
        by_cases hs : (f i).size ≤ 140
        · have HN := Lib.hid (all_upto (P := fun j => (f j).size ≤ 140) HI.out hs)
          have hs2 : ¬ (140 : Int) < (f i).size := by omega
          go_wp2
          go_round
          case rel => exact ⟨i + 1, by omega, by omega, by go_num, HN.out⟩
          case measure => simp [intOf]; omega
        · have hs2 : (140 : Int) < (f i).size := by omega
          go_wp2
          go_ret
          first | exact ⟨⟨false, rfl, fun q => by cases q⟩, HB.out⟩ | exact ⟨.inl ⟨rfl, fun q => by cases q⟩, HB.out⟩
      · obtain rfl : i = 40 := by omega
        have hd2 : decide (((40 : Nat) : Int) < 40) = false := rfl
        have hd3 : decide ((k : Int) ≤ 40) = false := decide_eq_false (by omega)
        go_wp2
        go_ret
        first | exact ⟨⟨false, rfl, fun q => by cases q⟩, HB.out⟩ | exact ⟨.inl ⟨rfl, fun q => by cases q⟩, HB.out⟩
    · obtain rfl : i = k := by omega
      have hd1 : decide ((i : Int) < (i : Int)) = false := decide_eq_false (by omega)
      have hd3 : decide ((i : Int) ≤ 40) = true := decide_eq_true (by omega)
      by_cases hS : S.size ≤ 100
      · have HR := Lib.hid (show FewP i f S true from fun _ => ⟨hi40, hS, HI.out⟩)
        have hd4 : decide ((S.size : Int) ≤ 100) = true := decide_eq_true (by omega)
        go_wp2
        go_ret
        first | exact ⟨⟨true, rfl, HR.out⟩, HB.out⟩ | exact ⟨.inr ⟨rfl, HR.out⟩, HB.out⟩
      · have hd4 : decide ((S.size : Int) ≤ 100) = false := decide_eq_false (by omega)
        go_wp2
        go_ret
        first | exact ⟨⟨false, rfl, fun q => by cases q⟩, HB.out⟩ | exact ⟨.inl ⟨rfl, fun q => by cases q⟩, HB.out⟩
end Go.Proofs.YtehbbghobagkjaaGreatDoor


/-
  The reference of package coins, the second part: Same, Good.
-/
namespace Go.Proofs.YtehbbghobagkjaaGreatDoor
open Go.RowKit Go.Deep
set_option linter.unusedVariables false

/-- Equal tapes. -/
def EqT (k1 k2 : Nat) (f1 f2 : Nat → ByteArray) (S1 S2 : ByteArray) (t1 t2 : Int) : Prop := S1 = S2 ∧ t1 = t2 ∧ EqN k1 k2 f1 f2
def SmR (W0 : World) (k : Nat) (f1 f2 : Nat → ByteArray) (v : Value) (wr : World) : Prop := ∃ i : Nat, i ≤ k ∧ v = .int .i64 i ∧ Hid (∀ j, j < i → f1 j = f2 j) ∧ Hid (Below W0.heap.size W0 wr)
theorem beq_yes {s t : ByteArray} (h : s = t) : (s.toList == t.toList) = true := by rw [h]; exact beq_self_eq_true _
set_option maxHeartbeats 2000000 in
set_option maxRecDepth 20000 in
theorem same_any (v1 v2 : Value) (k1 k2 : Nat) (f1 f2 : Nat → ByteArray) (S1 S2 : ByteArray) (t1 t2 : Int) (w : World) (h1 : SV w v1 k1 f1) (h2 : SV w v2 k2 f2) (hk1 : k1 ≤ 9223372036854775807) (hk2 : k2 ≤ 9223372036854775807) :
    Calls Tryz.prog 10 #[.agg #[v1, .string S1, .int .i64 t1], .agg #[v2, .string S2, .int .i64 t2]] w fun e w' => EqP (EqT k1 k2 f1 f2 S1 S2 t1 t2) w e w' := by
  have HB0 := Lib.hid (box2_below w (.cells #[v1, .string S1, .int .i64 t1] 24) (.cells #[v2, .string S2, .int .i64 t2] 24))
  have HT0 := Lib.hid (box2_first w v1 (.string S1) (.int .i64 t1) 24 (.cells #[v2, .string S2, .int .i64 t2] 24))
  have HT1 := Lib.hid (box2_second w v2 (.string S2) (.int .i64 t2) 24 (.cells #[v1, .string S1, .int .i64 t1] 24))
  have HV1 := Lib.hid (h1.below HB0.out)
  have HV2 := Lib.hid (h2.below HB0.out)
  obtain ⟨p1, cap1, rfl, -⟩ := h1
  obtain ⟨p2, cap2, rfl, -⟩ := h2
  by_cases hS : S1 = S2
  · by_cases ht : t1 = t2
    · by_cases hk : k1 = k2
      · have hb := beq_yes hS
        subst hS ht hk
        obtain ⟨q0, q1, q2, q3, q4, q5, q6⟩ := HT0.out
        obtain ⟨s0, s1, s2, s3, s4, s5, s6⟩ := HT1.out
        go_enter Tryz.func10, Tryz.ntmps10
        go_wp2
        obtain ⟨W0, hW0⟩ : ∃ W0, W0 = (w.alloc (.cells #[.slice p1 k1 cap1, .string S1, .int .i64 t1] 24)).alloc (.cells #[.slice p2 k1 cap2, .string S1, .int .i64 t1] 24) := ⟨_, rfl⟩
        rw [← hW0] at HB0 HT0 HT1 HV1 HV2 ⊢
        clear q0 q1 q2 q3 q4 q5 q6 s0 s1 s2 s3 s4 s5 s6 hW0
        go_loopw [5] (fun v wr => SmR W0 k1 f1 f2 v wr) (fun v _ => k1 - (intOf v).toNat)
        case atStart => exact ⟨0, by omega, rfl, (fun j hj => absurd hj (by omega)), Below.refl _ _⟩
        case round =>
          obtain ⟨i, hi, rfl, HI, HB⟩ := hrel
          obtain ⟨q0, q1, q2, q3, q4, q5, q6⟩ := HT0.out.below HB.out rfl
          obtain ⟨s0, s1, s2, s3, s4, s5, s6⟩ := HT1.out.below HB.out rfl
          by_cases hlt : i < k1
          · obtain ⟨a1, rfl, hc1⟩ := HV1.out.cell HB.out hlt
            obtain ⟨a2, rfl, hc2⟩ := HV2.out.cell HB.out hlt
            have hlti : (i : Int) < (k1 : Int) := by omega
            by_cases he : f1 i = f2 i
            · have HN := Lib.hid (all_upto (P := fun j => f1 j = f2 j) HI.out he)
              rw [← he] at hc2
              go_wp2
              go_quiet (fail)
              go_wp2
              go_roundw
              case rel => exact ⟨i + 1, by omega, by go_num, HN.out, bel_drewq HB.out _⟩
              case measure => simp [intOf]; omega
            · have HR := Lib.hid (show IffP false (EqT k1 k1 f1 f2 S1 S1 t1 t1) from ⟨(fun q => by cases q), fun q => absurd (q.2.2.2 i hlt) he⟩)
              have hb := beq_no he
              go_wp2
              go_quiet (fail)
              go_wp2
              go_ret
              exact ⟨⟨false, rfl, HR.out⟩, bel_of HB0.out (bel_drewq HB.out _)⟩
          · obtain rfl : i = k1 := by omega
            have HR := Lib.hid (show IffP true (EqT i i f1 f2 S1 S1 t1 t1) from ⟨fun _ => ⟨rfl, rfl, rfl, HI.out⟩, fun _ => rfl⟩)
            go_wp2
            go_ret
            exact ⟨⟨true, rfl, HR.out⟩, bel_of HB0.out HB.out⟩
      · have HR := Lib.hid (show IffP false (EqT k1 k2 f1 f2 S1 S2 t1 t2) from ⟨(fun q => by cases q), fun q => absurd q.2.2.1 hk⟩)
        have hki : ¬ (k1 : Int) = (k2 : Int) := by omega
        have hb := beq_yes hS
        subst hS ht
        obtain ⟨q0, q1, q2, q3, q4, q5, q6⟩ := HT0.out
        obtain ⟨s0, s1, s2, s3, s4, s5, s6⟩ := HT1.out
        go_enter Tryz.func10, Tryz.ntmps10
        go_wp2
        go_ret
        exact ⟨⟨false, rfl, HR.out⟩, HB0.out⟩
    · have HR := Lib.hid (show IffP false (EqT k1 k2 f1 f2 S1 S2 t1 t2) from ⟨(fun q => by cases q), fun q => absurd q.2.1 ht⟩)
      have hb := beq_yes hS
      subst hS
      obtain ⟨q0, q1, q2, q3, q4, q5, q6⟩ := HT0.out
      obtain ⟨s0, s1, s2, s3, s4, s5, s6⟩ := HT1.out
      go_enter Tryz.func10, Tryz.ntmps10
      go_wp2
      go_ret
      exact ⟨⟨false, rfl, HR.out⟩, HB0.out⟩
  · have HR := Lib.hid (show IffP false (EqT k1 k2 f1 f2 S1 S2 t1 t2) from ⟨(fun q => by cases q), fun q => absurd q.1 hS⟩)
    have hb := beq_no hS
    obtain ⟨q0, q1, q2, q3, q4, q5, q6⟩ := HT0.out
    obtain ⟨s0, s1, s2, s3, s4, s5, s6⟩ := HT1.out
    go_enter Tryz.func10, Tryz.ntmps10
    go_wp2
    go_ret
    exact ⟨⟨false, rfl, HR.out⟩, HB0.out⟩
end Go.Proofs.YtehbbghobagkjaaGreatDoor


/-
  The reference of package coins, the third part: Good.
-/
namespace Go.Proofs.YtehbbghobagkjaaGreatDoor
open Go.RowKit Go.Deep
set_option linter.unusedVariables false

set_option maxHeartbeats 1000000 in
set_option maxRecDepth 20000 in
theorem good_any (v : Value) (k : Nat) (f : Nat → ByteArray) (S : ByteArray) (t : Int) (w : World) (hv : SV w v k f) (hk : k ≤ 9223372036854775807) :
    Calls Tryz.prog 24 #[.agg #[v, .string S, .int .i64 t]] w fun e w' => (∃ b : Bool, e = .returned (.bool b) ∧ WfP k f t b) ∧ Below w.heap.size w w' := by
  have hb : Below w.heap.size w (w.alloc (.cells #[v, .string S, .int .i64 t] 24)) := (Below.refl _ _).alloc (Nat.le_refl _) _
  have hv2 := hv.below hb
  obtain ⟨p, cap, rfl, hc⟩ := hv2
  have hT := Three.new w (.slice p k cap) (.string S) (.int .i64 t) 24 _ rfl
  obtain ⟨q0, q1, q2, q3, q4, q5, q6⟩ := hT
  have HC := Lib.hid hc; clear hc hv
  have HB := Lib.hid hb; clear hb
  have HK := Lib.hid hk
  go_enter Tryz.func24, Tryz.ntmps24
  go_wp2
  generalize World.alloc w _ = W at *
  go_loop [3] (fun x => ∃ i : Nat, i ≤ k ∧ x = .int .i64 i ∧ Hid (∀ j, j < i → Can (f j))) (fun x => k - (intOf x).toNat)
  case atStart => exact ⟨0, by omega, rfl, fun j hj => absurd hj (by omega)⟩
  case round =>
    obtain ⟨i, hi, rfl, HI⟩ := hrel
    by_cases hlt : i < k
    · obtain ⟨a, rfl, ha, hcell⟩ := HC.out i hlt
      have hlti : (i : Int) < (k : Int) := by omega
      by_cases hcan : Can (f i)
      · have HN := Lib.hid (all_upto (P := fun j => Can (f j)) HI.out hcan)
        have HCN := Lib.hid hcan; clear hcan
        go_wp2_with fail
        refine (rvalid_yes (f i) _ HCN.out).mono ?_; rintro e wx ⟨rfl, rfl⟩
        go_wp2
        go_round
        case rel => exact ⟨i + 1, by omega, by go_num, HN.out⟩
        case measure => simp [intOf]; omega
      · have HCN := Lib.hid hcan; clear hcan
        have HR := Lib.hid (show WfP k f t false from ⟨(fun q => by cases q), fun q => absurd (q.1 i hlt) HCN.out⟩)
        go_wp2_with fail
        refine (rvalid_no (f i) _ HCN.out).mono ?_; rintro e wx ⟨rfl, rfl⟩
        go_wp2
        go_ret
        first | exact ⟨⟨false, rfl, HR.out⟩, HB.out⟩ | exact ⟨.inl ⟨rfl, HR.out⟩, HB.out⟩
    · obtain rfl : i = k := by omega
      by_cases h0 : 0 ≤ t
      · by_cases h1 : t ≤ 2147483647
        · have HR := Lib.hid (show WfP i f t true from ⟨fun _ => ⟨HI.out, h0, h1⟩, fun _ => rfl⟩)
          go_wp2
          go_ret
          first | exact ⟨⟨true, rfl, HR.out⟩, HB.out⟩ | exact ⟨.inr ⟨rfl, HR.out⟩, HB.out⟩
        · have HR := Lib.hid (show WfP i f t false from ⟨(fun q => by cases q), fun q => absurd q.2.2 h1⟩)
          have hd : decide (t ≤ 2147483647) = false := decide_eq_false h1
          go_wp2
          go_ret
          first | exact ⟨⟨false, rfl, HR.out⟩, HB.out⟩ | exact ⟨.inl ⟨rfl, HR.out⟩, HB.out⟩
      · have HR := Lib.hid (show WfP i f t false from ⟨(fun q => by cases q), fun q => absurd q.2.1 h0⟩)
        have hd : decide (0 ≤ t) = false := decide_eq_false h0
        go_wp2
        go_ret
        first | exact ⟨⟨false, rfl, HR.out⟩, HB.out⟩ | exact ⟨.inl ⟨rfl, HR.out⟩, HB.out⟩
theorem good_yes (v : Value) (k : Nat) (f : Nat → ByteArray) (S : ByteArray) (t : Int) (w : World) (hv : SV w v k f) (hk : k ≤ 9223372036854775807) (h : WF k f t) :
    Calls Tryz.prog 24 #[.agg #[v, .string S, .int .i64 t]] w fun e w' => e = .returned (.bool true) ∧ Below w.heap.size w w' := by
  refine (good_any v k f S t w hv hk).mono ?_
  rintro e w' ⟨⟨b, rfl, hb⟩, hw⟩
  obtain rfl : b = true := hb.mpr h
  exact ⟨rfl, hw⟩
theorem good_no (v : Value) (k : Nat) (f : Nat → ByteArray) (S : ByteArray) (t : Int) (w : World) (hv : SV w v k f) (hk : k ≤ 9223372036854775807) (h : ¬ WF k f t) :
    Calls Tryz.prog 24 #[.agg #[v, .string S, .int .i64 t]] w fun e w' => e = .returned (.bool false) ∧ Below w.heap.size w w' := by
  refine (good_any v k f S t w hv hk).mono ?_
  rintro e w' ⟨⟨b, rfl, hb⟩, hw⟩
  cases b with
  | true => exact absurd (hb.mp rfl) h
  | false => exact ⟨rfl, hw⟩
end Go.Proofs.YtehbbghobagkjaaGreatDoor

