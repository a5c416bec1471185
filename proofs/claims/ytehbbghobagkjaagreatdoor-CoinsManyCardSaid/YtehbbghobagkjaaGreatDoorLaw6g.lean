/-
  Layer 6's statements: CoinsDraws.
-/
import Derived.Test.YtehbbghobagkjaaGreatDoorCE
namespace Go.Proofs.YtehbbghobagkjaaGreatDoor
open Go.RowKit Go.Deep
set_option linter.unusedVariables false

theorem chk_exists2 (k : Nat) (f : Nat → ByteArray) (t : Int) (n : ByteArray) : ∃ c, ChkT k f t n c := by
  by_cases h : WF k f t ∧ Can n
  · by_cases h0 : n.size = 0
    · exact ⟨11, .inr (.inl ⟨rfl, h.1, h.2, h0⟩)⟩
    · exact ⟨0, .inr (.inr ⟨rfl, h.1, h.2, Nat.pos_of_ne_zero h0⟩)⟩
  · exact ⟨3, .inl ⟨rfl, h⟩⟩
theorem chk_zero2 {k : Nat} {f : Nat → ByteArray} {t : Int} {n : ByteArray} (h : ChkT k f t n 0) : WF k f t ∧ Can n ∧ 0 < n.size := by
  rcases h with ⟨h, -⟩ | ⟨h, -⟩ | ⟨-, h⟩
  · omega
  · omega
  · exact h
/-- The program and the reference refuse alike, or draw alike. -/
theorem below_agree (k : Nat) (f : Nat → ByteArray) (S : ByteArray) (t : Int) (n : ByteArray) (hk : k ≤ 40) (hS : S.size ≤ 100) :
    (∃ c : Int, (∀ v w, SV w v k f → TabW w → Calls Tryz.prog 8 #[.agg #[v, .string S, .int .i64 t], .string n] w fun e w' => NoTape c w e w') ∧
      (∀ v w, SV w v k f → Calls Tryz.prog 9 #[.agg #[v, .string S, .int .i64 t], .string n] w fun e w' => NoTape c w e w')) ∨
    (∃ (x : ByteArray) (t1 : Int), (∀ v w, SV w v k f → TabW w → Calls Tryz.prog 8 #[.agg #[v, .string S, .int .i64 t], .string n] w fun e w' => DrawP x k f S t1 w e w') ∧
      (∀ v w, SV w v k f → Calls Tryz.prog 9 #[.agg #[v, .string S, .int .i64 t], .string n] w fun e w' => RDrawOk x k f S t1 w e w')) := by
  obtain ⟨c, hc⟩ := chk_exists2 k f t n
  by_cases h0 : c = 0
  · subst h0
    obtain ⟨hwf, hn, hn0⟩ := chk_zero2 hc
    obtain ⟨s, rfl⟩ := Int.eq_ofNat_of_zero_le hwf.2.1
    obtain ⟨x, e, hx⟩ := nextV_form k f S s n
    by_cases he : e = 0
    · subst he
      exact .inr ⟨x, _, fun v w hv ht => below_some v k f S s n w hv (by omega) hwf hn hn0 (by omega) ht hx, fun v w hv => rbelow_some v k f S s n w hv hk hwf hn hn0 (by omega) hx⟩
    · exact .inl ⟨e, fun v w hv ht => below_none v k f S s n w hv (by omega) hwf hn hn0 (by omega) ht hx he, fun v w hv => rbelow_none v k f S s n w hv hk hwf hn hn0 (by omega) hx he⟩
  · exact .inl ⟨c, fun v w hv _ => below_bad v k f S t n w hv (by omega) hc h0, fun v w hv => rbelow_bad v k f S t n w hv (by omega) hc h0⟩

set_option maxHeartbeats 16000000 in
set_option maxRecDepth 400000 in
theorem law_CoinsDraws (v : Value) (k : Nat) (f : Nat → ByteArray) (S : ByteArray) (t : Int) (n : ByteArray) (wS : S.size ≤ maxLen) (wt : (Lit.int .i64 t).wf = true) (wn : n.size ≤ maxLen) (w : World) (hv : SV w v k f) (hk : k ≤ maxLen) (htab : TabW w) :
    Calls Tryz.prog 3 #[.agg #[v, .string S, .int .i64 t], .string n] w fun e w' => e = .returned (.bool true) ∧ Below w.heap.size w w' := by
  have HTab := Lib.hid htab; clear htab
  unfold maxLen at hk wS wn
  clear wt
  have HB0 := Lib.hid (bel_alloc w (.cells #[v, .string S, .int .i64 t] 24))
  have HV0 := Lib.hid (hv.below HB0.out)
  have HT0 := Lib.hid (Three.new w v (.string S) (.int .i64 t) 24 _ rfl)
  obtain ⟨p, cap, rfl, -⟩ := hv
  obtain ⟨q0, q1, q2, q3, q4, q5, q6⟩ := HT0.out
  go_enter Tryz.func3, Tryz.ntmps3
  go_wp2_with fail
  refine (few_any _ k f S t _ HV0.out hk).mono ?_; rintro e w1 ⟨⟨b, rfl, hb⟩, b1⟩
  have HF := Lib.hid hb; clear hb
  have B1 := Lib.hid (bel_of HB0.out b1)
  have V1 := Lib.hid (HV0.out.below b1)
  have T1 := Lib.hid (HT0.out.below b1 rfl)
  clear b1 HB0 HV0 HT0 q0 q1 q2 q3 q4 q5 q6
  obtain ⟨q0, q1, q2, q3, q4, q5, q6⟩ := T1.out
  cases b with
  | false =>
    go_wp2_with fail
    refine (awake6 _ (HTab.out.below B1.out)).mono ?_; rintro e w9 ⟨rfl, b9⟩
    have B9 := Lib.hid (bel_of B1.out b9); clear b9
    go_wp2
    go_ret
    exact ⟨rfl, B9.out⟩
  | true =>
    obtain ⟨hk40, hS100, -⟩ := few_facts HF.out
    clear HF
    by_cases hn : (140 : Int) < n.size
    · have hd := decide_eq_true hn
      go_wp2_with fail
      refine (awake6 _ (HTab.out.below B1.out)).mono ?_; rintro e w9 ⟨rfl, b9⟩
      have B9 := Lib.hid (bel_of B1.out b9); clear b9
      go_wp2
      go_ret
      exact ⟨rfl, B9.out⟩
    · have hd := decide_eq_false hn
      rcases below_agree k f S t n hk40 hS100 with ⟨c, c1, c2⟩ | ⟨x, t1, c1, c2⟩
      · have C1 := Lib.hid c1
        have C2 := Lib.hid c2
        clear c1 c2 hk40 hS100
        go_wp2_with fail
        refine (C1.out _ _ V1.out (HTab.out.below B1.out)).mono ?_; rintro e w2 ⟨rfl, b2⟩
        have d2 := bel_alloc w2 (.cells #[.slice none 0 0, .string ⟨#[]⟩, .int .i64 0] 24)
        have B2 := Lib.hid (bel_of (bel_of B1.out b2) d2)
        have V2 := Lib.hid ((V1.out.below b2).below d2)
        have T2 := Lib.hid ((T1.out.below b2 rfl).below d2 rfl)
        have U2 := Lib.hid (Three.new w2 (.slice none 0 0) (.string ⟨#[]⟩) (.int .i64 0) 24 _ rfl)
        clear b2 d2 B1 V1 T1 q0 q1 q2 q3 q4 q5 q6
        obtain ⟨q0, q1, q2, q3, q4, q5, q6⟩ := T2.out
        go_wp2_with fail
        refine (C2.out _ _ V2.out).mono ?_; rintro e w3 ⟨rfl, b3⟩
        have d3 := bel_alloc w3 (.cells #[.slice none 0 0, .string ⟨#[]⟩, .int .i64 0] 24)
        have B3 := Lib.hid (bel_of (bel_of B2.out b3) d3)
        have U3 := Lib.hid ((U2.out.below b3 rfl).below d3 rfl)
        have X3 := Lib.hid (Three.new w3 (.slice none 0 0) (.string ⟨#[]⟩) (.int .i64 0) 24 _ rfl)
        clear b3 d3 B2 V2 T2 U2 q0 q1 q2 q3 q4 q5 q6
        go_wp2_with fail
        refine (awake6 _ (HTab.out.below B3.out)).mono ?_; rintro e w4 ⟨rfl, b4⟩
        have B4 := Lib.hid (bel_of B3.out b4)
        have U4 := Lib.hid (U3.out.below b4 rfl)
        have X4 := Lib.hid (X3.out.below b4 rfl)
        clear b4 B3 U3 X3
        obtain ⟨u0, u1, u2, u3, u4, u5, u6⟩ := U4.out
        obtain ⟨x0, x1, x2, x3, x4, x5, x6⟩ := X4.out
        go_wp2_with fail
        refine (same_yes _ _ 0 f f _ _ _ (SV.nil _ f) (SV.nil _ f) (by omega) (fun _ _ => rfl)).mono ?_; rintro e w5 ⟨rfl, b5⟩
        have B5 := Lib.hid (bel_of B4.out b5)
        go_wp2
        go_ret
        exact ⟨rfl, B5.out⟩
      · have C1 := Lib.hid c1
        have C2 := Lib.hid c2
        clear c1 c2 hk40 hS100
        go_wp2_with fail
        refine (C1.out _ _ V1.out (HTab.out.below B1.out)).mono ?_; rintro e w2 ⟨g2, c2, rfl, hg2, hs2, b2⟩
        have d2 := bel_alloc w2 (.cells #[.slice (some ⟨g2, 0, none⟩) k c2, .string S, .int .i64 t1] 24)
        have B2 := Lib.hid (bel_of (bel_of B1.out b2) d2)
        have V2 := Lib.hid ((V1.out.below b2).below d2)
        have T2 := Lib.hid ((T1.out.below b2 rfl).below d2 rfl)
        have U2 := Lib.hid (Three.new w2 (.slice (some ⟨g2, 0, none⟩) k c2) (.string S) (.int .i64 t1) 24 _ rfl)
        have S2 := Lib.hid (hs2.below d2)
        clear b2 d2 hs2 hg2 B1 V1 T1 q0 q1 q2 q3 q4 q5 q6
        obtain ⟨q0, q1, q2, q3, q4, q5, q6⟩ := T2.out
        go_wp2_with fail
        refine (C2.out _ _ V2.out).mono ?_; rintro e w3 ⟨q3', c3, rfl, hs3, -, b3⟩
        have d3 := bel_alloc w3 (.cells #[.slice q3' k c3, .string S, .int .i64 t1] 24)
        have B3 := Lib.hid (bel_of (bel_of B2.out b3) d3)
        have U3 := Lib.hid ((U2.out.below b3 rfl).below d3 rfl)
        have S3 := Lib.hid ((S2.out.below b3).below d3)
        have R3 := Lib.hid (hs3.below d3)
        have X3 := Lib.hid (Three.new w3 (.slice q3' k c3) (.string S) (.int .i64 t1) 24 _ rfl)
        clear b3 d3 hs3 B2 V2 T2 U2 S2 q0 q1 q2 q3 q4 q5 q6
        go_wp2_with fail
        refine (awake6 _ (HTab.out.below B3.out)).mono ?_; rintro e w4 ⟨rfl, b4⟩
        have B4 := Lib.hid (bel_of B3.out b4)
        have U4 := Lib.hid (U3.out.below b4 rfl)
        have X4 := Lib.hid (X3.out.below b4 rfl)
        have S4 := Lib.hid (S3.out.below b4)
        have R4 := Lib.hid (R3.out.below b4)
        clear b4 B3 U3 X3 S3 R3
        obtain ⟨u0, u1, u2, u3, u4, u5, u6⟩ := U4.out
        obtain ⟨x0, x1, x2, x3, x4, x5, x6⟩ := X4.out
        go_wp2_with fail
        refine (same_yes _ _ k f f _ _ _ S4.out R4.out hk (fun _ _ => rfl)).mono ?_; rintro e w5 ⟨rfl, b5⟩
        have B5 := Lib.hid (bel_of B4.out b5)
        go_wp2
        go_ret
        exact ⟨rfl, B5.out⟩
end Go.Proofs.YtehbbghobagkjaaGreatDoor
