/-
  Contracts of package coins, the fifth part: wellFormed, check, next.
-/
import Derived.Test.YtehbbghobagkjaaGreatDoorCoi4
namespace Go.Proofs.YtehbbghobagkjaaGreatDoor
open Go.RowKit Go.Deep
set_option linter.unusedVariables false

theorem all_upto {P : Nat → Prop} {i : Nat} (h : ∀ j, j < i → P j) (hi : P i) : ∀ j, j < i + 1 → P j := fun j hj => by
  by_cases e : j = i
  · rw [e]; exact hi
  · exact h j (by omega)
/-- A tape as a value. -/
def TV (v : Value) (S : ByteArray) (t : Int) : Value := .agg #[v, .string S, .int .i64 t]
/-- Well-formed. -/
def WF (k : Nat) (f : Nat → ByteArray) (t : Int) : Prop := (∀ j, j < k → Can (f j)) ∧ 0 ≤ t ∧ t ≤ 2147483647
def WfP (k : Nat) (f : Nat → ByteArray) (t : Int) (b : Bool) : Prop := b = true ↔ WF k f t
set_option maxHeartbeats 1000000 in
set_option maxRecDepth 20000 in
theorem wf_any (v : Value) (k : Nat) (f : Nat → ByteArray) (S : ByteArray) (t : Int) (w : World) (hv : SV w v k f) (hk : k ≤ 9223372036854775807) :
    Calls Tryz.prog 38 #[.agg #[v, .string S, .int .i64 t]] w fun e w' => (∃ b : Bool, e = .returned (.bool b) ∧ WfP k f t b) ∧ Below w.heap.size w w' := by
  have hb : Below w.heap.size w (w.alloc (.cells #[v, .string S, .int .i64 t] 24)) := (Below.refl _ _).alloc (Nat.le_refl _) _
  have hv2 := hv.below hb
  obtain ⟨p, cap, rfl, hc⟩ := hv2
  have hT := Three.new w (.slice p k cap) (.string S) (.int .i64 t) 24 _ rfl
  obtain ⟨q0, q1, q2, q3, q4, q5, q6⟩ := hT
  have HC := Lib.hid hc; clear hc hv
  have HB := Lib.hid hb; clear hb
  have HK := Lib.hid hk
  go_enter Tryz.func38, Tryz.ntmps38
  go_wp2
  generalize World.alloc w _ = W at *
  go_loop [8] (fun x => ∃ i : Nat, i ≤ k ∧ x = .int .i64 i ∧ Hid (∀ j, j < i → Can (f j))) (fun x => k - (intOf x).toNat)
  case atStart => exact ⟨0, by omega, rfl, fun j hj => absurd hj (by omega)⟩
  case round =>
    obtain ⟨i, hi, rfl, HI⟩ := hrel
    by_cases hlt : i < k
    · obtain ⟨a, rfl, ha, hcell⟩ := HC.out i hlt
      have hlti : (i : Int) < (k : Int) := by omega
      by_cases hcan : Can (f i)
      · have HN := Lib.hid (all_upto (P := fun j => Can (f j)) HI.out hcan)
        have HCN := Lib.hid hcan; clear hcan
        go_wp2_with fail
        refine (valid_yes (f i) _ HCN.out).mono ?_; rintro e wx ⟨rfl, rfl⟩
        go_wp2
        go_round
        case rel => exact ⟨i + 1, by omega, by go_num, HN.out⟩
        case measure => simp [intOf]; omega
      · have HCN := Lib.hid hcan; clear hcan
        have HR := Lib.hid (show WfP k f t false from ⟨(fun q => by cases q), fun q => absurd (q.1 i hlt) HCN.out⟩)
        go_wp2_with fail
        refine (valid_no (f i) _ HCN.out).mono ?_; rintro e wx ⟨rfl, rfl⟩
        go_wp2
        go_ret
        first | exact ⟨⟨false, rfl, HR.out⟩, HB.out⟩ | exact ⟨.inl ⟨rfl, HR.out⟩, HB.out⟩
    · obtain rfl : i = k := by omega
      by_cases h0 : 0 ≤ t
      · by_cases h1 : t ≤ 2147483647
        · have HR := Lib.hid (show WfP i f t true from ⟨fun _ => ⟨HI.out, h0, h1⟩, fun _ => rfl⟩)
          go_wp2
          go_ret
          first | exact ⟨⟨true, rfl, HR.out⟩, HB.out⟩ | exact ⟨.inr ⟨rfl, HR.out⟩, HB.out⟩
        · have HR := Lib.hid (show WfP i f t false from ⟨(fun q => by cases q), fun q => absurd q.2.2 h1⟩)
          have hd : decide (t ≤ 2147483647) = false := decide_eq_false h1
          go_wp2
          go_ret
          first | exact ⟨⟨false, rfl, HR.out⟩, HB.out⟩ | exact ⟨.inl ⟨rfl, HR.out⟩, HB.out⟩
      · have HR := Lib.hid (show WfP i f t false from ⟨(fun q => by cases q), fun q => absurd q.2.1 h0⟩)
        have hd : decide (0 ≤ t) = false := decide_eq_false h0
        go_wp2
        go_ret
        first | exact ⟨⟨false, rfl, HR.out⟩, HB.out⟩ | exact ⟨.inl ⟨rfl, HR.out⟩, HB.out⟩
theorem wf_yes (v : Value) (k : Nat) (f : Nat → ByteArray) (S : ByteArray) (t : Int) (w : World) (hv : SV w v k f) (hk : k ≤ 9223372036854775807) (h : WF k f t) :
    Calls Tryz.prog 38 #[.agg #[v, .string S, .int .i64 t]] w fun e w' => e = .returned (.bool true) ∧ Below w.heap.size w w' := by
  refine (wf_any v k f S t w hv hk).mono ?_
  rintro e w' ⟨⟨b, rfl, hb⟩, hw⟩
  obtain rfl : b = true := hb.mpr h
  exact ⟨rfl, hw⟩
theorem wf_no (v : Value) (k : Nat) (f : Nat → ByteArray) (S : ByteArray) (t : Int) (w : World) (hv : SV w v k f) (hk : k ≤ 9223372036854775807) (h : ¬ WF k f t) :
    Calls Tryz.prog 38 #[.agg #[v, .string S, .int .i64 t]] w fun e w' => e = .returned (.bool false) ∧ Below w.heap.size w w' := by
  refine (wf_any v k f S t w hv hk).mono ?_
  rintro e w' ⟨⟨b, rfl, hb⟩, hw⟩
  cases b with
  | true => exact absurd (hb.mp rfl) h
  | false => exact ⟨rfl, hw⟩
/-- The error of a tape and a bound. -/
def ChkT (k : Nat) (f : Nat → ByteArray) (t : Int) (n : ByteArray) (c : Int) : Prop :=
  (c = 3 ∧ ¬ (WF k f t ∧ Can n)) ∨ (c = 11 ∧ WF k f t ∧ Can n ∧ n.size = 0) ∨ (c = 0 ∧ WF k f t ∧ Can n ∧ 0 < n.size)
theorem chk_box (w : World) (c0 c1 c2 : Value) (T : TypeId) {w1 : World} (b : Below (w.alloc (.cells #[c0, c1, c2] T)).heap.size (w.alloc (.cells #[c0, c1, c2] T)) w1) : Below w.heap.size w w1 :=
  ((Below.refl w.heap.size w).alloc (Nat.le_refl _) _).trans (b.mono (by simp))
set_option maxHeartbeats 1000000 in
set_option maxRecDepth 20000 in
theorem chk_any (v : Value) (k : Nat) (f : Nat → ByteArray) (S : ByteArray) (t : Int) (n : ByteArray) (w : World) (hv : SV w v k f) (hk : k ≤ 9223372036854775807) :
    ∃ c, ChkT k f t n c ∧ Calls Tryz.prog 21 #[.agg #[v, .string S, .int .i64 t], .string n] w fun e w' => e = .returned (.int .i64 c) ∧ Below w.heap.size w w' := by
  have hv2 : SV (w.alloc (.cells #[v, .string S, .int .i64 t] 24)) v k f := hv.below ((Below.refl _ _).alloc (Nat.le_refl _) _)
  have HV := Lib.hid hv2; clear hv2
  obtain ⟨p, cap, rfl, -⟩ := hv
  by_cases hw : WF k f t
  · by_cases hc : Can n
    · by_cases h0 : n.size = 0
      · refine ⟨11, .inr (.inl ⟨rfl, hw, hc, h0⟩), ?_⟩
        have hE := empty_of h0
        have HW := Lib.hid hw; clear hw
        have HC := Lib.hid hc; clear hc h0
        obtain ⟨q0, q1, q2, q3, q4, q5, q6⟩ := Three.new w (.slice p k cap) (.string S) (.int .i64 t) 24 _ rfl
        go_enter Tryz.func21, Tryz.ntmps21
        go_wp2_with fail
        refine (wf_yes _ k f S t _ HV.out hk HW.out).mono ?_; rintro e w1 ⟨rfl, b1⟩
        have B1 := Lib.hid (chk_box _ _ _ _ _ b1); clear b1
        go_wp2_with fail
        refine (valid_yes n _ HC.out).mono ?_; rintro e wx ⟨rfl, rfl⟩
        go_wp2
        go_ret
        exact ⟨rfl, B1.out⟩
      · refine ⟨0, .inr (.inr ⟨rfl, hw, hc, Nat.pos_of_ne_zero h0⟩), ?_⟩
        have hE := not_empty_of h0
        have HW := Lib.hid hw; clear hw
        have HC := Lib.hid hc; clear hc h0
        obtain ⟨q0, q1, q2, q3, q4, q5, q6⟩ := Three.new w (.slice p k cap) (.string S) (.int .i64 t) 24 _ rfl
        go_enter Tryz.func21, Tryz.ntmps21
        go_wp2_with fail
        refine (wf_yes _ k f S t _ HV.out hk HW.out).mono ?_; rintro e w1 ⟨rfl, b1⟩
        have B1 := Lib.hid (chk_box _ _ _ _ _ b1); clear b1
        go_wp2_with fail
        refine (valid_yes n _ HC.out).mono ?_; rintro e wx ⟨rfl, rfl⟩
        go_wp2
        go_ret
        exact ⟨rfl, B1.out⟩
    · refine ⟨3, .inl ⟨rfl, fun q => hc q.2⟩, ?_⟩
      have HW := Lib.hid hw; clear hw
      have HC := Lib.hid hc; clear hc
      obtain ⟨q0, q1, q2, q3, q4, q5, q6⟩ := Three.new w (.slice p k cap) (.string S) (.int .i64 t) 24 _ rfl
      go_enter Tryz.func21, Tryz.ntmps21
      go_wp2_with fail
      refine (wf_yes _ k f S t _ HV.out hk HW.out).mono ?_; rintro e w1 ⟨rfl, b1⟩
      have B1 := Lib.hid (chk_box _ _ _ _ _ b1); clear b1
      go_wp2_with fail
      refine (valid_no n _ HC.out).mono ?_; rintro e wx ⟨rfl, rfl⟩
      go_wp2
      go_ret
      exact ⟨rfl, B1.out⟩
  · refine ⟨3, .inl ⟨rfl, fun q => hw q.1⟩, ?_⟩
    have HW := Lib.hid hw; clear hw
    obtain ⟨q0, q1, q2, q3, q4, q5, q6⟩ := Three.new w (.slice p k cap) (.string S) (.int .i64 t) 24 _ rfl
    go_enter Tryz.func21, Tryz.ntmps21
    go_wp2_with fail
    refine (wf_no _ k f S t _ HV.out hk HW.out).mono ?_; rintro e w1 ⟨rfl, b1⟩
    have B1 := Lib.hid (chk_box _ _ _ _ _ b1); clear b1
    go_wp2
    go_ret
    exact ⟨rfl, B1.out⟩
end Go.Proofs.YtehbbghobagkjaaGreatDoor
