/-
  Layer 6's statements: CoinsMany.
-/
import Derived.Test.YtehbbghobagkjaaGreatDoorLaw6g
import Derived.Test.YtehbbghobagkjaaGreatDoorCG
import Derived.Test.YtehbbghobagkjaaGreatDoorCG
namespace Go.Proofs.YtehbbghobagkjaaGreatDoor
open Go.RowKit Go.Deep
set_option linter.unusedVariables false

theorem e_det2 (E : Nat → Int) (c : Nat) : (∀ j, j < c → E j = 0) ∨ ∃ i, i < c ∧ (∀ j, j < i → E j = 0) ∧ E i ≠ 0 := by
  induction c with
  | zero => exact .inl fun j hj => absurd hj (by omega)
  | succ c ih =>
    rcases ih with h | ⟨i, hi, h⟩
    · by_cases he : E c = 0
      · exact .inl fun j hj => by
          by_cases hjc : j = c
          · rw [hjc]; exact he
          · exact h j (by omega)
      · exact .inr ⟨c, by omega, h, he⟩
    · exact .inr ⟨i, by omega, h⟩
theorem manyno_one {c : Nat} {E : Nat → Int} {w w' : World} {e : Ending} {i : Nat} (hi : i < c) (h0 : ∀ j, j < i → E j = 0) (hne : E i ≠ 0) (h : ManyNo c E w e w') : NoMany (E i) w e w' := by
  obtain ⟨j, hj, g0, gne, rfl, b⟩ := h
  obtain rfl : i = j := by
    rcases Nat.lt_trichotomy i j with q | q | q
    · exact absurd (g0 i q) hne
    · exact q
    · exact absurd (h0 j q) gne
  exact ⟨rfl, b⟩
/-- The program and the reference refuse alike, or draw alike. -/
theorem many_agree (k : Nat) (f : Nat → ByteArray) (S : ByteArray) (t : Int) (n : ByteArray) (count : Int) (hk : k ≤ 40) (hS : S.size ≤ 100) :
    (∃ c : Int, (∀ v w, SV w v k f → TabW w → Calls Tryz.prog 13 #[.agg #[v, .string S, .int .i64 t], .string n, .int .i64 count] w fun e w' => NoMany c w e w') ∧
      (∀ v w, SV w v k f → Calls Tryz.prog 14 #[.agg #[v, .string S, .int .i64 t], .string n, .int .i64 count] w fun e w' => NoMany c w e w')) ∨
    (∃ (c : Nat) (X : Nat → ByteArray) (t1 : Int), c ≤ 9223372036854775807 ∧
      (∀ v w, SV w v k f → TabW w → Calls Tryz.prog 13 #[.agg #[v, .string S, .int .i64 t], .string n, .int .i64 count] w fun e w' => ∃ q cq g cg, e = .returned (.tuple #[.slice q c cq, .agg #[.slice g k cg, .string S, .int .i64 t1], .int .i64 0]) ∧ SV w' (.slice q c cq) c X ∧ SV w' (.slice g k cg) k f ∧ Below w.heap.size w w') ∧
      (∀ v w, SV w v k f → Calls Tryz.prog 14 #[.agg #[v, .string S, .int .i64 t], .string n, .int .i64 count] w fun e w' => ∃ q cq g cg, e = .returned (.tuple #[.slice q c cq, .agg #[.slice g k cg, .string S, .int .i64 t1], .int .i64 0]) ∧ SV w' (.slice q c cq) c X ∧ SV w' (.slice g k cg) k f ∧ Below w.heap.size w w')) := by
  obtain ⟨c, hc⟩ := chk_exists2 k f t n
  by_cases h0 : c = 0
  · subst h0
    obtain ⟨hwf, hn, hn0⟩ := chk_zero2 hc
    by_cases hr : count < 0 ∨ 4096 < count
    · exact .inl ⟨6, fun v w hv _ => many_long v k f S t n count w hv (by omega) hc hr, fun v w hv => rmany_long v k f S t n count w hv (by omega) hwf hn hn0 hr⟩
    · obtain ⟨s, rfl⟩ := Int.eq_ofNat_of_zero_le hwf.2.1
      obtain ⟨m, rfl⟩ := Int.eq_ofNat_of_zero_le (show 0 ≤ count by omega)
      obtain ⟨X, E, hX⟩ := nexts_exist k f S n s
      rcases e_det2 E m with he | ⟨i, hi, he, hne⟩
      · refine .inr ⟨m, X, ((s + m : Nat) : Int), by omega, fun v w hv ht => (many_any v k f S s m n w hv (by omega) hwf hn hn0 (by omega) ht (by omega) X E hX).mono fun e w' h => ?_, fun v w hv => (rmany_any v k f S s m n w hv hk hwf hn hn0 (by omega) (by omega) X E hX).mono fun e w' h => ?_⟩
        · obtain ⟨-, q, cq, g, cg, h1, h2, h3, h4, -⟩ := many_okc he h
          exact ⟨_, _, _, _, h1, h2, h3, h4⟩
        · rcases h with ⟨j, hj, -, gne, -⟩ | ⟨-, h⟩
          · exact absurd (he j hj) gne
          · exact h
      · refine .inl ⟨E i, fun v w hv ht => (many_any v k f S s m n w hv (by omega) hwf hn hn0 (by omega) ht (by omega) X E hX).mono fun e w' h => ?_, fun v w hv => (rmany_any v k f S s m n w hv hk hwf hn hn0 (by omega) (by omega) X E hX).mono fun e w' h => ?_⟩
        · rcases h with h | ⟨g0, -⟩
          · exact manyno_one hi he hne h
          · exact absurd (g0 i hi) hne
        · rcases h with h | ⟨g0, -⟩
          · exact manyno_one hi he hne h
          · exact absurd (g0 i hi) hne
  · exact .inl ⟨c, fun v w hv _ => many_bad v k f S t n count w hv (by omega) hc h0, fun v w hv => rmany_bad v k f S t n count w hv (by omega) hc h0⟩

set_option maxHeartbeats 16000000 in
set_option maxRecDepth 400000 in
theorem law_CoinsMany (v : Value) (k : Nat) (f : Nat → ByteArray) (S : ByteArray) (t : Int) (n : ByteArray) (count : Int) (wS : S.size ≤ maxLen) (wt : (Lit.int .i64 t).wf = true) (wn : n.size ≤ maxLen) (wc : (Lit.int .i64 count).wf = true) (w : World) (hv : SV w v k f) (hk : k ≤ maxLen) (htab : TabW w) :
    Calls Tryz.prog 5 #[.agg #[v, .string S, .int .i64 t], .string n, .int .i64 count] w fun e w' => e = .returned (.bool true) ∧ Below w.heap.size w w' := by
  have HTab := Lib.hid htab; clear htab
  unfold maxLen at hk wS wn
  clear wt
  have HB0 := Lib.hid (bel_alloc w (.cells #[v, .string S, .int .i64 t] 24))
  have HV0 := Lib.hid (hv.below HB0.out)
  have HT0 := Lib.hid (Three.new w v (.string S) (.int .i64 t) 24 _ rfl)
  obtain ⟨p, cap, rfl, -⟩ := hv
  obtain ⟨q0, q1, q2, q3, q4, q5, q6⟩ := HT0.out
  go_enter Tryz.func5, Tryz.ntmps5
  go_wp2_with fail
  refine (few_any _ k f S t _ HV0.out hk).mono ?_; rintro e w1 ⟨⟨b, rfl, hb⟩, b1⟩
  have HF := Lib.hid hb; clear hb
  have B1 := Lib.hid (bel_of HB0.out b1)
  have V1 := Lib.hid (HV0.out.below b1)
  have T1 := Lib.hid (HT0.out.below b1 rfl)
  clear b1 HB0 HV0 HT0 q0 q1 q2 q3 q4 q5 q6
  obtain ⟨q0, q1, q2, q3, q4, q5, q6⟩ := T1.out
  cases b with
  | false =>
    go_wp2_with fail
    refine (awake6 _ (HTab.out.below B1.out)).mono ?_; rintro e w9 ⟨rfl, b9⟩
    have B9 := Lib.hid (bel_of B1.out b9); clear b9
    go_wp2
    go_ret
    exact ⟨rfl, B9.out⟩
  | true =>
    obtain ⟨hk40, hS100, -⟩ := few_facts HF.out
    clear HF
    by_cases hn : (140 : Int) < n.size
    · have hd := decide_eq_true hn
      go_wp2_with fail
      refine (awake6 _ (HTab.out.below B1.out)).mono ?_; rintro e w9 ⟨rfl, b9⟩
      have B9 := Lib.hid (bel_of B1.out b9); clear b9
      go_wp2
      go_ret
      exact ⟨rfl, B9.out⟩
    · have hd := decide_eq_false hn
      by_cases hc1 : (20 : Int) < count
      · have hd1 := decide_eq_true hc1
        by_cases hc2 : count ≤ 4096
        · have hd2 := decide_eq_true hc2
          by_cases hs0 : S.size = 0
          · have hE := empty_of hs0
            rcases many_agree k f S t n count hk40 hS100 with ⟨c, c1, c2⟩ | ⟨c, X, t1, hc9, c1, c2⟩
            · have C1 := Lib.hid c1
              have C2 := Lib.hid c2
              clear c1 c2 hk40 hS100
              go_wp2_with fail
              refine (C1.out _ _ V1.out (HTab.out.below B1.out)).mono ?_; rintro e w2 ⟨rfl, b2⟩
              have d2 := bel_alloc w2 (.cells #[.slice none 0 0, .string ⟨#[]⟩, .int .i64 0] 24)
              have B2 := Lib.hid (bel_of (bel_of B1.out b2) d2)
              have V2 := Lib.hid ((V1.out.below b2).below d2)
              have T2 := Lib.hid ((T1.out.below b2 rfl).below d2 rfl)
              have U2 := Lib.hid (Three.new w2 (.slice none 0 0) (.string ⟨#[]⟩) (.int .i64 0) 24 _ rfl)
              clear b2 d2 B1 V1 T1 q0 q1 q2 q3 q4 q5 q6
              obtain ⟨q0, q1, q2, q3, q4, q5, q6⟩ := T2.out
              go_wp2_with fail
              refine (C2.out _ _ V2.out).mono ?_; rintro e w3 ⟨rfl, b3⟩
              have d3 := bel_alloc w3 (.cells #[.slice none 0 0, .string ⟨#[]⟩, .int .i64 0] 24)
              have B3 := Lib.hid (bel_of (bel_of B2.out b3) d3)
              have U3 := Lib.hid ((U2.out.below b3 rfl).below d3 rfl)
              have X3 := Lib.hid (Three.new w3 (.slice none 0 0) (.string ⟨#[]⟩) (.int .i64 0) 24 _ rfl)
              clear b3 d3 B2 V2 T2 U2 q0 q1 q2 q3 q4 q5 q6
              go_wp2_with fail
              refine (awake6 _ (HTab.out.below B3.out)).mono ?_; rintro e w4 ⟨rfl, b4⟩
              have B4 := Lib.hid (bel_of B3.out b4)
              have U4 := Lib.hid (U3.out.below b4 rfl)
              have X4 := Lib.hid (X3.out.below b4 rfl)
              clear b4 B3 U3 X3
              go_wp2_with fail
              refine (snats_yes _ _ 0 f _ (SV.nil _ f) (SV.nil _ f) (by omega)).mono ?_; rintro e w6 ⟨rfl, b6⟩
              have B6 := Lib.hid (bel_of B4.out b6)
              have U6 := Lib.hid (U4.out.below b6 rfl)
              have X6 := Lib.hid (X4.out.below b6 rfl)
              clear b6 B4 U4 X4
              obtain ⟨u0, u1, u2, u3, u4, u5, u6⟩ := U6.out
              obtain ⟨x0, x1, x2, x3, x4, x5, x6⟩ := X6.out
              go_wp2_with fail
              refine (same_yes _ _ 0 f f _ _ _ (SV.nil _ f) (SV.nil _ f) (by omega) (fun _ _ => rfl)).mono ?_; rintro e w5 ⟨rfl, b5⟩
              have B5 := Lib.hid (bel_of B6.out b5)
              go_wp2
              go_ret
              exact ⟨rfl, B5.out⟩
            · have C1 := Lib.hid c1
              have C2 := Lib.hid c2
              have HC9 := Lib.hid hc9
              clear c1 c2 hk40 hS100 hc9
              go_wp2_with fail
              refine (C1.out _ _ V1.out (HTab.out.below B1.out)).mono ?_; rintro e w2 ⟨ql, cl, g2, c2, rfl, hl2, hs2, b2⟩
              have d2 := bel_alloc w2 (.cells #[.slice g2 k c2, .string S, .int .i64 t1] 24)
              have B2 := Lib.hid (bel_of (bel_of B1.out b2) d2)
              have V2 := Lib.hid ((V1.out.below b2).below d2)
              have T2 := Lib.hid ((T1.out.below b2 rfl).below d2 rfl)
              have U2 := Lib.hid (Three.new w2 (.slice g2 k c2) (.string S) (.int .i64 t1) 24 _ rfl)
              have S2 := Lib.hid (hs2.below d2)
              have L2 := Lib.hid (hl2.below d2)
              clear b2 d2 hs2 hl2 B1 V1 T1 q0 q1 q2 q3 q4 q5 q6
              obtain ⟨q0, q1, q2, q3, q4, q5, q6⟩ := T2.out
              go_wp2_with fail
              refine (C2.out _ _ V2.out).mono ?_; rintro e w3 ⟨qm, cm, q3', c3, rfl, hl3, hs3, b3⟩
              have d3 := bel_alloc w3 (.cells #[.slice q3' k c3, .string S, .int .i64 t1] 24)
              have B3 := Lib.hid (bel_of (bel_of B2.out b3) d3)
              have U3 := Lib.hid ((U2.out.below b3 rfl).below d3 rfl)
              have S3 := Lib.hid ((S2.out.below b3).below d3)
              have L3 := Lib.hid ((L2.out.below b3).below d3)
              have R3 := Lib.hid (hs3.below d3)
              have M3 := Lib.hid (hl3.below d3)
              have X3 := Lib.hid (Three.new w3 (.slice q3' k c3) (.string S) (.int .i64 t1) 24 _ rfl)
              clear b3 d3 hs3 hl3 B2 V2 T2 U2 S2 L2 q0 q1 q2 q3 q4 q5 q6
              go_wp2_with fail
              refine (awake6 _ (HTab.out.below B3.out)).mono ?_; rintro e w4 ⟨rfl, b4⟩
              have B4 := Lib.hid (bel_of B3.out b4)
              have U4 := Lib.hid (U3.out.below b4 rfl)
              have X4 := Lib.hid (X3.out.below b4 rfl)
              have S4 := Lib.hid (S3.out.below b4)
              have R4 := Lib.hid (R3.out.below b4)
              have L4 := Lib.hid (L3.out.below b4)
              have M4 := Lib.hid (M3.out.below b4)
              clear b4 B3 U3 X3 S3 R3 L3 M3
              go_wp2_with fail
              refine (snats_yes _ _ c X _ L4.out M4.out HC9.out).mono ?_; rintro e w6 ⟨rfl, b6⟩
              have B6 := Lib.hid (bel_of B4.out b6)
              have U6 := Lib.hid (U4.out.below b6 rfl)
              have X6 := Lib.hid (X4.out.below b6 rfl)
              have S6 := Lib.hid (S4.out.below b6)
              have R6 := Lib.hid (R4.out.below b6)
              clear b6 B4 U4 X4 S4 R4 L4 M4
              obtain ⟨u0, u1, u2, u3, u4, u5, u6⟩ := U6.out
              obtain ⟨x0, x1, x2, x3, x4, x5, x6⟩ := X6.out
              go_wp2_with fail
              refine (same_yes _ _ k f f _ _ _ S6.out R6.out hk (fun _ _ => rfl)).mono ?_; rintro e w5 ⟨rfl, b5⟩
              have B5 := Lib.hid (bel_of B6.out b5)
              go_wp2
              go_ret
              exact ⟨rfl, B5.out⟩
          · have hE := not_empty_of hs0
            go_wp2_with fail
            refine (awake6 _ (HTab.out.below B1.out)).mono ?_; rintro e w9 ⟨rfl, b9⟩
            have B9 := Lib.hid (bel_of B1.out b9); clear b9
            go_wp2
            go_ret
            exact ⟨rfl, B9.out⟩
        · have hd2 := decide_eq_false hc2
          rcases many_agree k f S t n count hk40 hS100 with ⟨c, c1, c2⟩ | ⟨c, X, t1, hc9, c1, c2⟩
          · have C1 := Lib.hid c1
            have C2 := Lib.hid c2
            clear c1 c2 hk40 hS100
            go_wp2_with fail
            refine (C1.out _ _ V1.out (HTab.out.below B1.out)).mono ?_; rintro e w2 ⟨rfl, b2⟩
            have d2 := bel_alloc w2 (.cells #[.slice none 0 0, .string ⟨#[]⟩, .int .i64 0] 24)
            have B2 := Lib.hid (bel_of (bel_of B1.out b2) d2)
            have V2 := Lib.hid ((V1.out.below b2).below d2)
            have T2 := Lib.hid ((T1.out.below b2 rfl).below d2 rfl)
            have U2 := Lib.hid (Three.new w2 (.slice none 0 0) (.string ⟨#[]⟩) (.int .i64 0) 24 _ rfl)
            clear b2 d2 B1 V1 T1 q0 q1 q2 q3 q4 q5 q6
            obtain ⟨q0, q1, q2, q3, q4, q5, q6⟩ := T2.out
            go_wp2_with fail
            refine (C2.out _ _ V2.out).mono ?_; rintro e w3 ⟨rfl, b3⟩
            have d3 := bel_alloc w3 (.cells #[.slice none 0 0, .string ⟨#[]⟩, .int .i64 0] 24)
            have B3 := Lib.hid (bel_of (bel_of B2.out b3) d3)
            have U3 := Lib.hid ((U2.out.below b3 rfl).below d3 rfl)
            have X3 := Lib.hid (Three.new w3 (.slice none 0 0) (.string ⟨#[]⟩) (.int .i64 0) 24 _ rfl)
            clear b3 d3 B2 V2 T2 U2 q0 q1 q2 q3 q4 q5 q6
            go_wp2_with fail
            refine (awake6 _ (HTab.out.below B3.out)).mono ?_; rintro e w4 ⟨rfl, b4⟩
            have B4 := Lib.hid (bel_of B3.out b4)
            have U4 := Lib.hid (U3.out.below b4 rfl)
            have X4 := Lib.hid (X3.out.below b4 rfl)
            clear b4 B3 U3 X3
            go_wp2_with fail
            refine (snats_yes _ _ 0 f _ (SV.nil _ f) (SV.nil _ f) (by omega)).mono ?_; rintro e w6 ⟨rfl, b6⟩
            have B6 := Lib.hid (bel_of B4.out b6)
            have U6 := Lib.hid (U4.out.below b6 rfl)
            have X6 := Lib.hid (X4.out.below b6 rfl)
            clear b6 B4 U4 X4
            obtain ⟨u0, u1, u2, u3, u4, u5, u6⟩ := U6.out
            obtain ⟨x0, x1, x2, x3, x4, x5, x6⟩ := X6.out
            go_wp2_with fail
            refine (same_yes _ _ 0 f f _ _ _ (SV.nil _ f) (SV.nil _ f) (by omega) (fun _ _ => rfl)).mono ?_; rintro e w5 ⟨rfl, b5⟩
            have B5 := Lib.hid (bel_of B6.out b5)
            go_wp2
            go_ret
            exact ⟨rfl, B5.out⟩
          · have C1 := Lib.hid c1
            have C2 := Lib.hid c2
            have HC9 := Lib.hid hc9
            clear c1 c2 hk40 hS100 hc9
            go_wp2_with fail
            refine (C1.out _ _ V1.out (HTab.out.below B1.out)).mono ?_; rintro e w2 ⟨ql, cl, g2, c2, rfl, hl2, hs2, b2⟩
            have d2 := bel_alloc w2 (.cells #[.slice g2 k c2, .string S, .int .i64 t1] 24)
            have B2 := Lib.hid (bel_of (bel_of B1.out b2) d2)
            have V2 := Lib.hid ((V1.out.below b2).below d2)
            have T2 := Lib.hid ((T1.out.below b2 rfl).below d2 rfl)
            have U2 := Lib.hid (Three.new w2 (.slice g2 k c2) (.string S) (.int .i64 t1) 24 _ rfl)
            have S2 := Lib.hid (hs2.below d2)
            have L2 := Lib.hid (hl2.below d2)
            clear b2 d2 hs2 hl2 B1 V1 T1 q0 q1 q2 q3 q4 q5 q6
            obtain ⟨q0, q1, q2, q3, q4, q5, q6⟩ := T2.out
            go_wp2_with fail
            refine (C2.out _ _ V2.out).mono ?_; rintro e w3 ⟨qm, cm, q3', c3, rfl, hl3, hs3, b3⟩
            have d3 := bel_alloc w3 (.cells #[.slice q3' k c3, .string S, .int .i64 t1] 24)
            have B3 := Lib.hid (bel_of (bel_of B2.out b3) d3)
            have U3 := Lib.hid ((U2.out.below b3 rfl).below d3 rfl)
            have S3 := Lib.hid ((S2.out.below b3).below d3)
            have L3 := Lib.hid ((L2.out.below b3).below d3)
            have R3 := Lib.hid (hs3.below d3)
            have M3 := Lib.hid (hl3.below d3)
            have X3 := Lib.hid (Three.new w3 (.slice q3' k c3) (.string S) (.int .i64 t1) 24 _ rfl)
            clear b3 d3 hs3 hl3 B2 V2 T2 U2 S2 L2 q0 q1 q2 q3 q4 q5 q6
            go_wp2_with fail
            refine (awake6 _ (HTab.out.below B3.out)).mono ?_; rintro e w4 ⟨rfl, b4⟩
            have B4 := Lib.hid (bel_of B3.out b4)
            have U4 := Lib.hid (U3.out.below b4 rfl)
            have X4 := Lib.hid (X3.out.below b4 rfl)
            have S4 := Lib.hid (S3.out.below b4)
            have R4 := Lib.hid (R3.out.below b4)
            have L4 := Lib.hid (L3.out.below b4)
            have M4 := Lib.hid (M3.out.below b4)
            clear b4 B3 U3 X3 S3 R3 L3 M3
            go_wp2_with fail
            refine (snats_yes _ _ c X _ L4.out M4.out HC9.out).mono ?_; rintro e w6 ⟨rfl, b6⟩
            have B6 := Lib.hid (bel_of B4.out b6)
            have U6 := Lib.hid (U4.out.below b6 rfl)
            have X6 := Lib.hid (X4.out.below b6 rfl)
            have S6 := Lib.hid (S4.out.below b6)
            have R6 := Lib.hid (R4.out.below b6)
            clear b6 B4 U4 X4 S4 R4 L4 M4
            obtain ⟨u0, u1, u2, u3, u4, u5, u6⟩ := U6.out
            obtain ⟨x0, x1, x2, x3, x4, x5, x6⟩ := X6.out
            go_wp2_with fail
            refine (same_yes _ _ k f f _ _ _ S6.out R6.out hk (fun _ _ => rfl)).mono ?_; rintro e w5 ⟨rfl, b5⟩
            have B5 := Lib.hid (bel_of B6.out b5)
            go_wp2
            go_ret
            exact ⟨rfl, B5.out⟩
      · have hd1 := decide_eq_false hc1
        rcases many_agree k f S t n count hk40 hS100 with ⟨c, c1, c2⟩ | ⟨c, X, t1, hc9, c1, c2⟩
        · have C1 := Lib.hid c1
          have C2 := Lib.hid c2
          clear c1 c2 hk40 hS100
          go_wp2_with fail
          refine (C1.out _ _ V1.out (HTab.out.below B1.out)).mono ?_; rintro e w2 ⟨rfl, b2⟩
          have d2 := bel_alloc w2 (.cells #[.slice none 0 0, .string ⟨#[]⟩, .int .i64 0] 24)
          have B2 := Lib.hid (bel_of (bel_of B1.out b2) d2)
          have V2 := Lib.hid ((V1.out.below b2).below d2)
          have T2 := Lib.hid ((T1.out.below b2 rfl).below d2 rfl)
          have U2 := Lib.hid (Three.new w2 (.slice none 0 0) (.string ⟨#[]⟩) (.int .i64 0) 24 _ rfl)
          clear b2 d2 B1 V1 T1 q0 q1 q2 q3 q4 q5 q6
          obtain ⟨q0, q1, q2, q3, q4, q5, q6⟩ := T2.out
          go_wp2_with fail
          refine (C2.out _ _ V2.out).mono ?_; rintro e w3 ⟨rfl, b3⟩
          have d3 := bel_alloc w3 (.cells #[.slice none 0 0, .string ⟨#[]⟩, .int .i64 0] 24)
          have B3 := Lib.hid (bel_of (bel_of B2.out b3) d3)
          have U3 := Lib.hid ((U2.out.below b3 rfl).below d3 rfl)
          have X3 := Lib.hid (Three.new w3 (.slice none 0 0) (.string ⟨#[]⟩) (.int .i64 0) 24 _ rfl)
          clear b3 d3 B2 V2 T2 U2 q0 q1 q2 q3 q4 q5 q6
          go_wp2_with fail
          refine (awake6 _ (HTab.out.below B3.out)).mono ?_; rintro e w4 ⟨rfl, b4⟩
          have B4 := Lib.hid (bel_of B3.out b4)
          have U4 := Lib.hid (U3.out.below b4 rfl)
          have X4 := Lib.hid (X3.out.below b4 rfl)
          clear b4 B3 U3 X3
          go_wp2_with fail
          refine (snats_yes _ _ 0 f _ (SV.nil _ f) (SV.nil _ f) (by omega)).mono ?_; rintro e w6 ⟨rfl, b6⟩
          have B6 := Lib.hid (bel_of B4.out b6)
          have U6 := Lib.hid (U4.out.below b6 rfl)
          have X6 := Lib.hid (X4.out.below b6 rfl)
          clear b6 B4 U4 X4
          obtain ⟨u0, u1, u2, u3, u4, u5, u6⟩ := U6.out
          obtain ⟨x0, x1, x2, x3, x4, x5, x6⟩ := X6.out
          go_wp2_with fail
          refine (same_yes _ _ 0 f f _ _ _ (SV.nil _ f) (SV.nil _ f) (by omega) (fun _ _ => rfl)).mono ?_; rintro e w5 ⟨rfl, b5⟩
          have B5 := Lib.hid (bel_of B6.out b5)
          go_wp2
          go_ret
          exact ⟨rfl, B5.out⟩
        · have C1 := Lib.hid c1
          have C2 := Lib.hid c2
          have HC9 := Lib.hid hc9
          clear c1 c2 hk40 hS100 hc9
          go_wp2_with fail
          refine (C1.out _ _ V1.out (HTab.out.below B1.out)).mono ?_; rintro e w2 ⟨ql, cl, g2, c2, rfl, hl2, hs2, b2⟩
          have d2 := bel_alloc w2 (.cells #[.slice g2 k c2, .string S, .int .i64 t1] 24)
          have B2 := Lib.hid (bel_of (bel_of B1.out b2) d2)
          have V2 := Lib.hid ((V1.out.below b2).below d2)
          have T2 := Lib.hid ((T1.out.below b2 rfl).below d2 rfl)
          have U2 := Lib.hid (Three.new w2 (.slice g2 k c2) (.string S) (.int .i64 t1) 24 _ rfl)
          have S2 := Lib.hid (hs2.below d2)
          have L2 := Lib.hid (hl2.below d2)
          clear b2 d2 hs2 hl2 B1 V1 T1 q0 q1 q2 q3 q4 q5 q6
          obtain ⟨q0, q1, q2, q3, q4, q5, q6⟩ := T2.out
          go_wp2_with fail
          refine (C2.out _ _ V2.out).mono ?_; rintro e w3 ⟨qm, cm, q3', c3, rfl, hl3, hs3, b3⟩
          have d3 := bel_alloc w3 (.cells #[.slice q3' k c3, .string S, .int .i64 t1] 24)
          have B3 := Lib.hid (bel_of (bel_of B2.out b3) d3)
          have U3 := Lib.hid ((U2.out.below b3 rfl).below d3 rfl)
          have S3 := Lib.hid ((S2.out.below b3).below d3)
          have L3 := Lib.hid ((L2.out.below b3).below d3)
          have R3 := Lib.hid (hs3.below d3)
          have M3 := Lib.hid (hl3.below d3)
          have X3 := Lib.hid (Three.new w3 (.slice q3' k c3) (.string S) (.int .i64 t1) 24 _ rfl)
          clear b3 d3 hs3 hl3 B2 V2 T2 U2 S2 L2 q0 q1 q2 q3 q4 q5 q6
          go_wp2_with fail
          refine (awake6 _ (HTab.out.below B3.out)).mono ?_; rintro e w4 ⟨rfl, b4⟩
          have B4 := Lib.hid (bel_of B3.out b4)
          have U4 := Lib.hid (U3.out.below b4 rfl)
          have X4 := Lib.hid (X3.out.below b4 rfl)
          have S4 := Lib.hid (S3.out.below b4)
          have R4 := Lib.hid (R3.out.below b4)
          have L4 := Lib.hid (L3.out.below b4)
          have M4 := Lib.hid (M3.out.below b4)
          clear b4 B3 U3 X3 S3 R3 L3 M3
          go_wp2_with fail
          refine (snats_yes _ _ c X _ L4.out M4.out HC9.out).mono ?_; rintro e w6 ⟨rfl, b6⟩
          have B6 := Lib.hid (bel_of B4.out b6)
          have U6 := Lib.hid (U4.out.below b6 rfl)
          have X6 := Lib.hid (X4.out.below b6 rfl)
          have S6 := Lib.hid (S4.out.below b6)
          have R6 := Lib.hid (R4.out.below b6)
          clear b6 B4 U4 X4 S4 R4 L4 M4
          obtain ⟨u0, u1, u2, u3, u4, u5, u6⟩ := U6.out
          obtain ⟨x0, x1, x2, x3, x4, x5, x6⟩ := X6.out
          go_wp2_with fail
          refine (same_yes _ _ k f f _ _ _ S6.out R6.out hk (fun _ _ => rfl)).mono ?_; rintro e w5 ⟨rfl, b5⟩
          have B5 := Lib.hid (bel_of B6.out b5)
          go_wp2
          go_ret
          exact ⟨rfl, B5.out⟩
end Go.Proofs.YtehbbghobagkjaaGreatDoor
