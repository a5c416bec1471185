/-
  Layer 6's statements: CoinsSigned.
-/
import Derived.Test.YtehbbghobagkjaaGreatDoorLaw6g
import Derived.Test.YtehbbghobagkjaaGreatDoorRC10
namespace Go.Proofs.YtehbbghobagkjaaGreatDoor
open Go.RowKit Go.Deep
set_option linter.unusedVariables false

theorem nextV_can {k : Nat} {f : Nat → ByteArray} {S n x : ByteArray} {t : Nat} (hw : ∀ j, j < k → Can (f j)) (hn : Can n) (h : nextV k f S t n = .tuple #[.string x, .int .i64 0]) : Can x := by
  unfold nextV at h
  by_cases h1 : t < k
  · rw [if_pos h1] at h
    by_cases h2 : V (f t) < V n
    · rw [if_pos h2] at h
      by_cases h3 : t = 2147483647
      · rw [if_pos h3] at h; simp at h
      · rw [if_neg h3] at h
        simp at h
        subst h
        exact hw t h1
    · rw [if_neg h2] at h; simp at h
  · rw [if_neg h1] at h
    by_cases h3 : t = 2147483647 ∨ S.size = 0
    · rw [if_pos h3] at h; simp at h
    · rw [if_neg h3] at h
      cases hx : firstN S.data.toList t (V n) 0 256 with
      | none => rw [hx] at h; simp [FBv] at h
      | some y =>
        rw [hx] at h
        have hy := firstN_lt 256 0 hx
        simp [FBv] at h
        subst h
        exact can_E' (by have := V_lim hn; omega)
theorem signed_agree (k : Nat) (f : Nat → ByteArray) (S : ByteArray) (t : Int) (n : ByteArray) (hk : k ≤ 40) (hS : S.size ≤ 100) :
    (∃ c : Int, (∀ v w, SV w v k f → TabW w → Calls Tryz.prog 11 #[.agg #[v, .string S, .int .i64 t], .string n] w fun e w' => NoSigned c w e w') ∧
      (∀ v w, SV w v k f → Calls Tryz.prog 12 #[.agg #[v, .string S, .int .i64 t], .string n] w fun e w' => NoSigned c w e w')) ∨
    (∃ (G : Bool) (X : ByteArray) (t1 : Int), (∀ v w, SV w v k f → TabW w → Calls Tryz.prog 11 #[.agg #[v, .string S, .int .i64 t], .string n] w fun e w' => SignP G X k f S t1 w e w') ∧
      (∀ v w, SV w v k f → Calls Tryz.prog 12 #[.agg #[v, .string S, .int .i64 t], .string n] w fun e w' => RSignP G X k f S t1 w e w')) := by
  obtain ⟨c, hc⟩ := chk_exists2 k f t n
  by_cases h0 : c = 0
  · subst h0
    obtain ⟨hwf, hn, hn0⟩ := chk_zero2 hc
    obtain ⟨s, rfl⟩ := Int.eq_ofNat_of_zero_le hwf.2.1
    by_cases hl : V n + (V n - 1) < Lim
    · obtain ⟨x, e, hx⟩ := nextV_form k f S s (E (V n + (V n - 1)))
      by_cases he : e = 0
      · subst he
        have hcx := (nextV_can hwf.1 (can_E' hl) hx)
        exact .inr ⟨_, _, _, fun v w hv ht => signed_some v k f S s n w hv (by omega) hwf hn hn0 (by omega) ht hl hx hcx, fun v w hv => rsigned_some v k f S s n w hv (by omega) hk hwf hn hn0 (by omega) hl hx hcx⟩
      · exact .inl ⟨e, fun v w hv ht => signed_none v k f S s n w hv (by omega) hwf hn hn0 (by omega) ht hl hx he, fun v w hv => rsigned_none v k f S s n w hv (by omega) hk hwf hn hn0 (by omega) hl hx he⟩
    · exact .inl ⟨5, fun v w hv ht => signed_long v k f S s n w hv (by omega) hwf hn hn0 (by omega) ht hl, fun v w hv => rsigned_long v k f S s n w hv (by omega) hwf hn hn0 (by omega) hl⟩
  · exact .inl ⟨c, fun v w hv _ => signed_bad v k f S t n w hv (by omega) hc h0, fun v w hv => rsigned_bad v k f S t n w hv (by omega) hc h0⟩

set_option maxHeartbeats 16000000 in
set_option maxRecDepth 400000 in
theorem law_CoinsSigned (v : Value) (k : Nat) (f : Nat → ByteArray) (S : ByteArray) (t : Int) (n : ByteArray) (wS : S.size ≤ maxLen) (wt : (Lit.int .i64 t).wf = true) (wn : n.size ≤ maxLen) (w : World) (hv : SV w v k f) (hk : k ≤ maxLen) (htab : TabW w) :
    Calls Tryz.prog 4 #[.agg #[v, .string S, .int .i64 t], .string n] w fun e w' => e = .returned (.bool true) ∧ Below w.heap.size w w' := by
  have HTab := Lib.hid htab; clear htab
  unfold maxLen at hk wS wn
  clear wt
  have HB0 := Lib.hid (bel_alloc w (.cells #[v, .string S, .int .i64 t] 24))
  have HV0 := Lib.hid (hv.below HB0.out)
  have HT0 := Lib.hid (Three.new w v (.string S) (.int .i64 t) 24 _ rfl)
  obtain ⟨p, cap, rfl, -⟩ := hv
  obtain ⟨q0, q1, q2, q3, q4, q5, q6⟩ := HT0.out
  go_enter Tryz.func4, Tryz.ntmps4
  go_wp2_with fail
  refine (few_any _ k f S t _ HV0.out hk).mono ?_; rintro e w1 ⟨⟨b, rfl, hb⟩, b1⟩
  have HF := Lib.hid hb; clear hb
  have B1 := Lib.hid (bel_of HB0.out b1)
  have V1 := Lib.hid (HV0.out.below b1)
  have T1 := Lib.hid (HT0.out.below b1 rfl)
  clear b1 HB0 HV0 HT0 q0 q1 q2 q3 q4 q5 q6
  obtain ⟨q0, q1, q2, q3, q4, q5, q6⟩ := T1.out
  cases b with
  | false =>
    go_wp2_with fail
    refine (awake6 _ (HTab.out.below B1.out)).mono ?_; rintro e w9 ⟨rfl, b9⟩
    have B9 := Lib.hid (bel_of B1.out b9); clear b9
    go_wp2
    go_ret
    exact ⟨rfl, B9.out⟩
  | true =>
    obtain ⟨hk40, hS100, -⟩ := few_facts HF.out
    clear HF
    by_cases hn : (140 : Int) < n.size
    · have hd := decide_eq_true hn
      go_wp2_with fail
      refine (awake6 _ (HTab.out.below B1.out)).mono ?_; rintro e w9 ⟨rfl, b9⟩
      have B9 := Lib.hid (bel_of B1.out b9); clear b9
      go_wp2
      go_ret
      exact ⟨rfl, B9.out⟩
    · have hd := decide_eq_false hn
      rcases signed_agree k f S t n hk40 hS100 with ⟨c, c1, c2⟩ | ⟨G, X, t1, c1, c2⟩
      · have C1 := Lib.hid c1
        have C2 := Lib.hid c2
        clear c1 c2 hk40 hS100
        go_wp2_with fail
        refine (C1.out _ _ V1.out (HTab.out.below B1.out)).mono ?_; rintro e w2 ⟨rfl, b2⟩
        have d20 := bel_alloc w2 (.cells #[.bool false, .string ⟨#[]⟩] 36)
        have d2 := bel_alloc (w2.alloc (.cells #[.bool false, .string ⟨#[]⟩] 36)) (.cells #[.slice none 0 0, .string ⟨#[]⟩, .int .i64 0] 24)
        have I2 := Lib.hid (Two.below (Two.new w2 (.bool false) (.string ⟨#[]⟩) 36 _ rfl) d2 rfl)
        have B2 := Lib.hid (bel_of (bel_of (bel_of B1.out b2) d20) d2)
        have V2 := Lib.hid (((V1.out.below b2).below d20).below d2)
        have T2 := Lib.hid (((T1.out.below b2 rfl).below d20 rfl).below d2 rfl)
        have U2 := Lib.hid (Three.new (w2.alloc (.cells #[.bool false, .string ⟨#[]⟩] 36)) (.slice none 0 0) (.string ⟨#[]⟩) (.int .i64 0) 24 (w2.heap.size + 1) (World.size_alloc _ _).symm)
        clear b2 d2 d20 B1 V1 T1 q0 q1 q2 q3 q4 q5 q6
        obtain ⟨q0, q1, q2, q3, q4, q5, q6⟩ := T2.out
        go_wp2_with fail
        refine (C2.out _ _ V2.out).mono ?_; rintro e w3 ⟨rfl, b3⟩
        have d30 := bel_alloc w3 (.cells #[.bool false, .string ⟨#[]⟩] 36)
        have d3 := bel_alloc (w3.alloc (.cells #[.bool false, .string ⟨#[]⟩] 36)) (.cells #[.slice none 0 0, .string ⟨#[]⟩, .int .i64 0] 24)
        have I3 := Lib.hid (Two.below (Two.new w3 (.bool false) (.string ⟨#[]⟩) 36 _ rfl) d3 rfl)
        have J3 := Lib.hid (Two.below (Two.below (Two.below I2.out b3 rfl) d30 rfl) d3 rfl)
        have B3 := Lib.hid (bel_of (bel_of (bel_of B2.out b3) d30) d3)
        have U3 := Lib.hid (((U2.out.below b3 rfl).below d30 rfl).below d3 rfl)
        have X3 := Lib.hid (Three.new (w3.alloc (.cells #[.bool false, .string ⟨#[]⟩] 36)) (.slice none 0 0) (.string ⟨#[]⟩) (.int .i64 0) 24 (w3.heap.size + 1) (World.size_alloc _ _).symm)
        clear b3 d3 d30 B2 V2 T2 U2 q0 q1 q2 q3 q4 q5 q6
        go_wp2_with fail
        refine (awake6 _ (HTab.out.below B3.out)).mono ?_; rintro e w4 ⟨rfl, b4⟩
        have J4 := Lib.hid (Two.below J3.out b4 rfl)
        have I4 := Lib.hid (Two.below I3.out b4 rfl)
        have B4 := Lib.hid (bel_of B3.out b4)
        have U4 := Lib.hid (U3.out.below b4 rfl)
        have X4 := Lib.hid (X3.out.below b4 rfl)
        clear b4 B3 U3 X3
        obtain ⟨u0, u1, u2, u3, u4, u5, u6⟩ := U4.out
        obtain ⟨x0, x1, x2, x3, x4, x5, x6⟩ := X4.out
        obtain ⟨i0, i1, i2, i3, i4⟩ := I4.out
        obtain ⟨j0, j1, j2, j3, j4⟩ := J4.out
        go_wp2_with fail
        refine (same_yes _ _ 0 f f _ _ _ (SV.nil _ f) (SV.nil _ f) (by omega) (fun _ _ => rfl)).mono ?_; rintro e w5 ⟨rfl, b5⟩
        have B5 := Lib.hid (bel_of B4.out b5)
        go_wp2
        go_ret
        exact ⟨rfl, B5.out⟩
      · have C1 := Lib.hid c1
        have C2 := Lib.hid c2
        clear c1 c2 hk40 hS100
        go_wp2_with fail
        refine (C1.out _ _ V1.out (HTab.out.below B1.out)).mono ?_; rintro e w2 ⟨g2, c2, rfl, hg2, hs2, b2⟩
        have d20 := bel_alloc w2 (.cells #[.bool G, .string X] 36)
        have d2 := bel_alloc (w2.alloc (.cells #[.bool G, .string X] 36)) (.cells #[.slice (some ⟨g2, 0, none⟩) k c2, .string S, .int .i64 t1] 24)
        have I2 := Lib.hid (Two.below (Two.new w2 (.bool G) (.string X) 36 _ rfl) d2 rfl)
        have B2 := Lib.hid (bel_of (bel_of (bel_of B1.out b2) d20) d2)
        have V2 := Lib.hid (((V1.out.below b2).below d20).below d2)
        have T2 := Lib.hid (((T1.out.below b2 rfl).below d20 rfl).below d2 rfl)
        have U2 := Lib.hid (Three.new (w2.alloc (.cells #[.bool G, .string X] 36)) (.slice (some ⟨g2, 0, none⟩) k c2) (.string S) (.int .i64 t1) 24 (w2.heap.size + 1) (World.size_alloc _ _).symm)
        have S2 := Lib.hid ((hs2.below d20).below d2)
        clear b2 d2 d20 hs2 hg2 B1 V1 T1 q0 q1 q2 q3 q4 q5 q6
        obtain ⟨q0, q1, q2, q3, q4, q5, q6⟩ := T2.out
        go_wp2_with fail
        refine (C2.out _ _ V2.out).mono ?_; rintro e w3 ⟨q3', c3, rfl, hs3, b3⟩
        have d30 := bel_alloc w3 (.cells #[.bool G, .string X] 36)
        have d3 := bel_alloc (w3.alloc (.cells #[.bool G, .string X] 36)) (.cells #[.slice q3' k c3, .string S, .int .i64 t1] 24)
        have I3 := Lib.hid (Two.below (Two.new w3 (.bool G) (.string X) 36 _ rfl) d3 rfl)
        have J3 := Lib.hid (Two.below (Two.below (Two.below I2.out b3 rfl) d30 rfl) d3 rfl)
        have B3 := Lib.hid (bel_of (bel_of (bel_of B2.out b3) d30) d3)
        have U3 := Lib.hid (((U2.out.below b3 rfl).below d30 rfl).below d3 rfl)
        have S3 := Lib.hid (((S2.out.below b3).below d30).below d3)
        have R3 := Lib.hid ((hs3.below d30).below d3)
        have X3 := Lib.hid (Three.new (w3.alloc (.cells #[.bool G, .string X] 36)) (.slice q3' k c3) (.string S) (.int .i64 t1) 24 (w3.heap.size + 1) (World.size_alloc _ _).symm)
        clear b3 d3 d30 hs3 B2 V2 T2 U2 S2 q0 q1 q2 q3 q4 q5 q6
        go_wp2_with fail
        refine (awake6 _ (HTab.out.below B3.out)).mono ?_; rintro e w4 ⟨rfl, b4⟩
        have J4 := Lib.hid (Two.below J3.out b4 rfl)
        have I4 := Lib.hid (Two.below I3.out b4 rfl)
        have B4 := Lib.hid (bel_of B3.out b4)
        have U4 := Lib.hid (U3.out.below b4 rfl)
        have X4 := Lib.hid (X3.out.below b4 rfl)
        have S4 := Lib.hid (S3.out.below b4)
        have R4 := Lib.hid (R3.out.below b4)
        clear b4 B3 U3 X3 S3 R3
        obtain ⟨u0, u1, u2, u3, u4, u5, u6⟩ := U4.out
        obtain ⟨x0, x1, x2, x3, x4, x5, x6⟩ := X4.out
        obtain ⟨i0, i1, i2, i3, i4⟩ := I4.out
        obtain ⟨j0, j1, j2, j3, j4⟩ := J4.out
        go_wp2_with fail
        refine (same_yes _ _ k f f _ _ _ S4.out R4.out hk (fun _ _ => rfl)).mono ?_; rintro e w5 ⟨rfl, b5⟩
        have B5 := Lib.hid (bel_of B4.out b5)
        go_wp2
        go_ret
        exact ⟨rfl, B5.out⟩
end Go.Proofs.YtehbbghobagkjaaGreatDoor
