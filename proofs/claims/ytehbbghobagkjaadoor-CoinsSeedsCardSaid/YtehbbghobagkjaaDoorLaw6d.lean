/-
  Layer 6's statements: CoinsSeeds.
-/
import Derived.Test.YtehbbghobagkjaaDoorLaw6c
namespace Go.Proofs.YtehbbghobagkjaaDoor
open Go.RowKit Go.Deep
set_option linter.unusedVariables false

theorem firstN_lt {S : List UInt8} {t n x : Nat} : ∀ (k a : Nat), firstN S t n a k = some x → x < n
  | 0, a, h => by cases h
  | k + 1, a, h => by
    unfold firstN at h
    split at h
    · rename_i hl; obtain rfl := Option.some.inj h; exact hl
    · exact firstN_lt k (a + 1) h
theorem nextV_seed {k : Nat} {f : Nat → ByteArray} {S n : ByteArray} {t : Nat} (h : ¬ t < k) (h2 : ¬ t = 2147483647) (hS : S.size ≠ 0) : nextV k f S t n = FBv (firstN S.data.toList t (V n) 0 256) := by
  unfold nextV
  rw [if_neg h, if_neg (fun q => q.elim h2 hS)]

set_option maxHeartbeats 16000000 in
set_option maxRecDepth 400000 in
theorem law_CoinsSeeds (v : Value) (k : Nat) (f : Nat → ByteArray) (S n : ByteArray) (wS : S.size ≤ maxLen) (wn : n.size ≤ maxLen) (w : World) (hv : SV w v k f) (hk : k ≤ maxLen) (htab : TabW w) :
    Calls Tryd.prog 7 #[v, .string S, .string n] w fun e w' => e = .returned (.bool true) ∧ Below w.heap.size w w' := by
  have HTab := Lib.hid htab; clear htab
  unfold maxLen at hk wS wn
  have HV0 := Lib.hid hv
  obtain ⟨p, cap, rfl, -⟩ := hv
  go_enter Tryd.func7, Tryd.ntmps7
  go_wp2_with fail
  refine (few_any _ k f S 0 _ HV0.out hk).mono ?_; rintro e w1 ⟨⟨b, rfl, hb⟩, b1⟩
  have HF := Lib.hid hb; clear hb
  have B1 := Lib.hid b1
  have V1 := Lib.hid (HV0.out.below b1)
  clear b1 HV0
  cases b with
  | false =>
    go_wp2_with fail
    refine (awake6 _ (HTab.out.below B1.out)).mono ?_; rintro e w9 ⟨rfl, b9⟩
    have B9 := Lib.hid (bel_of B1.out b9); clear b9
    go_wp2
    go_ret
    exact ⟨rfl, B9.out⟩
  | true =>
    obtain ⟨hk40, hS100, -⟩ := few_facts HF.out
    clear HF
    by_cases hn : (40 : Int) < n.size
    · have hd := decide_eq_true hn
      go_wp2_with fail
      refine (awake6 _ (HTab.out.below B1.out)).mono ?_; rintro e w9 ⟨rfl, b9⟩
      have B9 := Lib.hid (bel_of B1.out b9); clear b9
      go_wp2
      go_ret
      exact ⟨rfl, B9.out⟩
    · have hd := decide_eq_false hn
      by_cases hc : Can n
      · have HC := Lib.hid hc; clear hc
        go_wp2_with fail
        refine (valid_yes n _ HC.out).mono ?_; rintro e wx ⟨rfl, rfl⟩
        by_cases h0 : n.size = 0
        · have hE := empty_of h0
          go_wp2_with fail
          refine (awake6 _ (HTab.out.below B1.out)).mono ?_; rintro e w9 ⟨rfl, b9⟩
          have B9 := Lib.hid (bel_of B1.out b9); clear b9
          go_wp2
          go_ret
          exact ⟨rfl, B9.out⟩
        · have hE := not_empty_of h0
          have H0 := Lib.hid (Nat.pos_of_ne_zero h0); clear h0
          by_cases hs0 : S.size = 0
          · have hE2 := empty_of hs0
            go_wp2_with fail
            refine (awake6 _ (HTab.out.below B1.out)).mono ?_; rintro e w9 ⟨rfl, b9⟩
            have B9 := Lib.hid (bel_of B1.out b9); clear b9
            go_wp2
            go_ret
            exact ⟨rfl, B9.out⟩
          · have hE2 := not_empty_of hs0
            have HS0 := Lib.hid hs0; clear hs0
            have HK40 := Lib.hid hk40
            have HS1 := Lib.hid hS100
            go_wp2_with fail
            go_loop [7] (fun x => ∃ i : Nat, i ≤ k ∧ x = .int .i64 i ∧ Hid (∀ j, j < i → Can (f j))) (fun x => k - (intOf x).toNat)
            case atStart => exact ⟨0, by omega, rfl, fun j hj => absurd hj (by omega)⟩
            case round =>
              obtain ⟨i, hi, rfl, HI⟩ := hrel
              by_cases hlt : i < k
              · obtain ⟨p', cap', e', hc2⟩ := V1.out
                obtain ⟨rfl, rfl⟩ : p = p' ∧ cap = cap' := by cases e'; exact ⟨rfl, rfl⟩
                obtain ⟨a, rfl, ha, hcell⟩ := hc2 i hlt
                clear hc2 e'
                have hlti : (i : Int) < (k : Int) := by omega
                by_cases hcan : Can (f i)
                · have HN := Lib.hid (all_upto (P := fun j => Can (f j)) HI.out hcan)
                  have HCN := Lib.hid hcan; clear hcan
                  go_wp2_with fail
                  refine (valid_yes (f i) _ HCN.out).mono ?_; rintro e wx ⟨rfl, rfl⟩
                  go_wp2
                  go_round
                  case rel => exact ⟨i + 1, by omega, by go_num, HN.out⟩
                  case measure => simp [intOf]; omega
                · have HCN := Lib.hid hcan; clear hcan
                  go_wp2_with fail
                  refine (valid_no (f i) _ HCN.out).mono ?_; rintro e wx ⟨rfl, rfl⟩
                  go_wp2_with fail
                  refine (awake6 _ (HTab.out.below B1.out)).mono ?_; rintro e w9 ⟨rfl, b9⟩
                  have B9 := Lib.hid (bel_of B1.out b9); clear b9
                  go_wp2
                  go_ret
                  exact ⟨rfl, B9.out⟩
              · obtain rfl : i = k := by omega
                have HW := Lib.hid (show WF i f (i : Int) from ⟨HI.out, by omega, by have := HK40.out; omega⟩)
                have HW0 := Lib.hid (show WF 0 f (i : Int) from ⟨fun j hj => absurd hj (by omega), by omega, by have := HK40.out; omega⟩)
                have hx1 := nextV_seed (f := f) (n := n) (show ¬ i < i by omega) (show ¬ i = 2147483647 by have := HK40.out; omega) HS0.out
                have hx2 := nextV_seed (f := f) (n := n) (show ¬ i < 0 by omega) (show ¬ i = 2147483647 by have := HK40.out; omega) HS0.out
                have HNL : ¬ i < i := by omega
                cases hx : firstN S.data.toList i (V n) 0 256 with
                | none =>
                  rw [hx] at hx1 hx2
                  have CA := Lib.hid (fun W hV hT => (show Calls Tryd.prog 18 #[.agg #[.slice p i cap, .string S, .int .i64 i], .string n] W fun e w' => NoTape 14 W e w' from below_none _ i f S i n W hV hk HW.out HC.out H0.out (by have := HS1.out; omega) hT hx1 (by omega)))
                  have CB := Lib.hid (fun W hT => (show Calls Tryd.prog 18 #[.agg #[.slice none 0 0, .string S, .int .i64 i], .string n] W fun e w' => NoTape 14 W e w' from below_none _ 0 f S i n W (SV.nil W f) (by omega) HW0.out HC.out H0.out (by have := HS1.out; omega) hT hx2 (by omega)))
                  clear hx hx1 hx2 hi hk40 hS100
                  go_wp2_with fail
                  refine (CA.out _ V1.out (HTab.out.below B1.out)).mono ?_; rintro e w3 ⟨rfl, b3⟩
                  have B3 := Lib.hid (bel_of (bel_of B1.out b3) (bel_alloc w3 (.cells #[.slice none 0 0, .string ⟨#[]⟩, .int .i64 0] 24)))
                  clear b3
                  go_wp2_with fail
                  refine (CB.out _ (HTab.out.below B3.out)).mono ?_; rintro e w4 ⟨rfl, b4⟩
                  have B4 := Lib.hid (bel_of (bel_of B3.out b4) (bel_alloc w4 (.cells #[.slice none 0 0, .string ⟨#[]⟩, .int .i64 0] 24)))
                  clear b4
                  go_wp2_with fail
                  refine (awake6 _ (HTab.out.below B4.out)).mono ?_; rintro e w9 ⟨rfl, b9⟩
                  have B9 := Lib.hid (bel_of B4.out b9); clear b9
                  go_wp2
                  go_ret
                  exact ⟨rfl, B9.out⟩
                | some x =>
                  have hxn := firstN_lt 256 0 hx
                  rw [hx] at hx1 hx2
                  have hcx : Can (E x) := can_E' (by have := V_lim HC.out; omega)
                  have hcmp := Lib.hid (fun W => (show Calls Tryd.prog 19 #[.string (E x), .string n] W fun e w' => e = .returned (.int .i64 (-1)) ∧ W = w' by
                    have h := cmp_yes (E x) n W hcx HC.out
                    rw [V_E, sgn_lt0 hxn] at h
                    exact h))
                  obtain ⟨t1, ht1⟩ : ∃ t1 : Int, t1 = ((i + 1 : Nat) : Int) := ⟨_, rfl⟩
                  have CA := Lib.hid (fun W hV hT => (show Calls Tryd.prog 18 #[.agg #[.slice p i cap, .string S, .int .i64 i], .string n] W fun e w' => DrawP (E x) i f S t1 W e w' by rw [ht1]; exact below_some _ i f S i n W hV (by have := HK40.out; omega) HW.out HC.out H0.out (by have := HS1.out; omega) hT hx1))
                  have CB := Lib.hid (fun W hT => (show Calls Tryd.prog 18 #[.agg #[.slice none 0 0, .string S, .int .i64 i], .string n] W fun e w' => DrawP (E x) 0 f S t1 W e w' by rw [ht1]; exact below_some _ 0 f S i n W (SV.nil W f) (by omega) HW0.out HC.out H0.out (by have := HS1.out; omega) hT hx2))
                  have HK := Lib.hid hk
                  clear hx hx1 hx2 hi hk40 hS100 hxn hcx ht1
                  go_wp2_with fail
                  refine (CA.out _ V1.out (HTab.out.below B1.out)).mono ?_; rintro e w3 ⟨g3, c3, rfl, hg3, hs3, b3⟩
                  have d3 := bel_alloc w3 (.cells #[.slice (some ⟨g3, 0, none⟩) i c3, .string S, .int .i64 t1] 24)
                  have B3 := Lib.hid (bel_of (bel_of B1.out b3) d3)
                  have U3 := Lib.hid (Three.new w3 (.slice (some ⟨g3, 0, none⟩) i c3) (.string S) (.int .i64 t1) 24 _ rfl)
                  have X3 := Lib.hid (hs3.below d3)
                  have V3 := Lib.hid ((V1.out.below b3).below d3)
                  clear b3 d3 hs3 hg3
                  go_wp2_with fail
                  refine (CB.out _ (HTab.out.below B3.out)).mono ?_; rintro e w4 ⟨g4, c4, rfl, hg4, hs4, b4⟩
                  have d4 := bel_alloc w4 (.cells #[.slice (some ⟨g4, 0, none⟩) 0 c4, .string S, .int .i64 t1] 24)
                  have B4 := Lib.hid (bel_of (bel_of B3.out b4) d4)
                  have U4 := Lib.hid ((U3.out.below b4 rfl).below d4 rfl)
                  have X4 := Lib.hid ((X3.out.below b4).below d4)
                  have V4 := Lib.hid ((V3.out.below b4).below d4)
                  have Y4 := Lib.hid (Three.new w4 (.slice (some ⟨g4, 0, none⟩) 0 c4) (.string S) (.int .i64 t1) 24 _ rfl)
                  clear b4 d4 hs4 hg4 U3 X3 V3 CA CB
                  go_wp2_with fail
                  refine (awake6 _ (HTab.out.below B4.out)).mono ?_; rintro e w5 ⟨rfl, b5⟩
                  have B5 := Lib.hid (bel_of B4.out b5)
                  have X5 := Lib.hid (X4.out.below b5)
                  have V5 := Lib.hid (V4.out.below b5)
                  have U5 := Lib.hid (U4.out.below b5 rfl)
                  have Y5 := Lib.hid (Y4.out.below b5 rfl)
                  clear b5 X4 V4 U4 Y4
                  obtain ⟨u0, u1, u2, u3, u4, u5, u6⟩ := U5.out
                  obtain ⟨y0, y1, y2, y3, y4, y5, y6⟩ := Y5.out
                  go_wp2_with fail
                  refine (hcmp.out _).mono ?_; rintro e wx ⟨rfl, rfl⟩
                  go_wp2_with fail
                  refine (snats_yes _ _ i f _ X5.out V5.out HK.out).mono ?_; rintro e w6 ⟨rfl, b6⟩
                  have B6 := Lib.hid (bel_of B5.out b6)
                  have Y6 := Lib.hid (Y5.out.below b6 rfl)
                  clear b6 u0 u1 u2 u3 u4 u5 u6 y0 y1 y2 y3 y4 y5 y6
                  obtain ⟨y0, y1, y2, y3, y4, y5, y6⟩ := Y6.out
                  go_wp2
                  go_ret
                  exact ⟨rfl, B6.out⟩
      · have HC := Lib.hid hc; clear hc
        go_wp2_with fail
        refine (valid_no n _ HC.out).mono ?_; rintro e wx ⟨rfl, rfl⟩
        go_wp2_with fail
        refine (awake6 _ (HTab.out.below B1.out)).mono ?_; rintro e w9 ⟨rfl, b9⟩
        have B9 := Lib.hid (bel_of B1.out b9); clear b9
        go_wp2
        go_ret
        exact ⟨rfl, B9.out⟩
end Go.Proofs.YtehbbghobagkjaaDoor
