/-
  Layer 6's statements: CoinsExplicit.
-/
import Derived.Test.YtehbbghobagkjaaDoorLaw6b
import Derived.Test.YtehbbghobagkjaaDoorFew
import Derived.Test.YtehbbghobagkjaaDoorRC2
import Derived.Deep.RegionHeld3
import Derived.Deep.RegionWith
namespace Go.Proofs.YtehbbghobagkjaaDoor
open Go.RowKit Go.Deep
set_option linter.unusedVariables false

theorem few_facts {k : Nat} {f : Nat → ByteArray} {S : ByteArray} (h : FewP k f S true) : k ≤ 40 ∧ S.size ≤ 100 ∧ ∀ j, j < k → (f j).size ≤ 140 := h rfl
theorem snats_yes (v1 v2 : Value) (k : Nat) (f : Nat → ByteArray) (w : World) (h1 : SV w v1 k f) (h2 : SV w v2 k f) (hk : k ≤ 9223372036854775807) :
    Calls Tryd.prog 20 #[v1, v2] w fun e w' => e = .returned (.bool true) ∧ Below w.heap.size w w' := by
  refine (sameNats_any v1 v2 k k f f w h1 h2 hk hk).mono ?_
  rintro e w' ⟨⟨b, rfl, hb⟩, hw⟩
  obtain rfl : b = true := hb.mpr ⟨rfl, fun _ _ => rfl⟩
  exact ⟨rfl, hw⟩
theorem same_yes (v1 v2 : Value) (k : Nat) (f g : Nat → ByteArray) (S : ByteArray) (t : Int) (w : World) (h1 : SV w v1 k f) (h2 : SV w v2 k g) (hk : k ≤ 9223372036854775807) (he : ∀ j, j < k → f j = g j) :
    Calls Tryd.prog 10 #[.agg #[v1, .string S, .int .i64 t], .agg #[v2, .string S, .int .i64 t]] w fun e w' => e = .returned (.bool true) ∧ Below w.heap.size w w' := by
  refine (same_any v1 v2 k k f g S S t t w h1 h2 hk hk).mono ?_
  rintro e w' ⟨⟨b, rfl, hb⟩, hw⟩
  obtain rfl : b = true := hb.mpr ⟨rfl, rfl, rfl, he⟩
  exact ⟨rfl, hw⟩
/-- The cells of two tapes' variables, an element of the first, both lists. -/
def ExS (w : World) (a b : Nat) (p : Addr) (k g c : Nat) (cap : Nat) (q : Option Addr) (f : Nat → ByteArray) (S x : ByteArray) (t t1 : Int) (W : World) : Prop :=
  W.cell? ⟨a, 0, none⟩ = some (.slice q k cap) ∧ W.cell? ⟨a, 1, none⟩ = some (.string S) ∧ W.cell? ⟨a, 2, none⟩ = some (.int .i64 t) ∧
  W.cell? ⟨b, 0, none⟩ = some (.slice (some ⟨g, 0, none⟩) k c) ∧ W.cell? ⟨b, 1, none⟩ = some (.string S) ∧ W.cell? ⟨b, 2, none⟩ = some (.int .i64 t1) ∧
  W.cell? p = some (.string x) ∧ SV W (.slice q k cap) k f ∧ SV W (.slice (some ⟨g, 0, none⟩) k c) k f ∧ Below w.heap.size w W
theorem ExS.next {w : World} {a b : Nat} {p : Addr} {k g c cap : Nat} {q : Option Addr} {f : Nat → ByteArray} {S x : ByteArray} {t t1 : Int} {W V : World} (h : ExS w a b p k g c cap q f S x t t1 W) (b99 : Below W.heap.size W V) : ExS w a b p k g c cap q f S x t t1 V := by
  obtain ⟨h0, h1, h2, h3, h4, h5, h6, h7, h8, h9⟩ := h
  exact ⟨kc6 b99 h0, kc6 b99 h1, kc6 b99 h2, kc6 b99 h3, kc6 b99 h4, kc6 b99 h5, kc6 b99 h6, h7.below b99, h8.below b99, bel_of h9 b99⟩
theorem ExS.drew {w : World} {a b : Nat} {p : Addr} {k g c cap : Nat} {q : Option Addr} {f : Nat → ByteArray} {S x : ByteArray} {t t1 : Int} {W : World} (h : ExS w a b p k g c cap q f S x t t1 W) : ExS w a b p k g c cap q f S x t t1 W.drew := by
  obtain ⟨h0, h1, h2, h3, h4, h5, h6, h7, h8, h9⟩ := h
  exact ⟨h0, h1, h2, h3, h4, h5, h6, h7, h8, h9.drew⟩
theorem ExS.bel {w : World} {a b : Nat} {p : Addr} {k g c cap : Nat} {q : Option Addr} {f : Nat → ByteArray} {S x : ByteArray} {t t1 : Int} {W : World} (h : ExS w a b p k g c cap q f S x t t1 W) : Below w.heap.size w W := h.2.2.2.2.2.2.2.2.2
theorem ExS.sv1 {w : World} {a b : Nat} {p : Addr} {k g c cap : Nat} {q : Option Addr} {f : Nat → ByteArray} {S x : ByteArray} {t t1 : Int} {W : World} (h : ExS w a b p k g c cap q f S x t t1 W) : SV W (.slice q k cap) k f := h.2.2.2.2.2.2.2.1
theorem ExS.sv2 {w : World} {a b : Nat} {p : Addr} {k g c cap : Nat} {q : Option Addr} {f : Nat → ByteArray} {S x : ByteArray} {t t1 : Int} {W : World} (h : ExS w a b p k g c cap q f S x t t1 W) : SV W (.slice (some ⟨g, 0, none⟩) k c) k f := h.2.2.2.2.2.2.2.2.1

set_option maxHeartbeats 16000000 in
set_option maxRecDepth 400000 in
theorem law_CoinsExplicit (v : Value) (k : Nat) (f : Nat → ByteArray) (S : ByteArray) (t : Int) (n : ByteArray) (wS : S.size ≤ maxLen) (wt : (Lit.int .i64 t).wf = true) (wn : n.size ≤ maxLen) (w : World) (hv : SV w v k f) (hk : k ≤ maxLen) (htab : TabW w) :
    Calls Tryd.prog 4 #[.agg #[v, .string S, .int .i64 t], .string n] w fun e w' => e = .returned (.bool true) ∧ Below w.heap.size w w' := by
  have HTab := Lib.hid htab; clear htab
  unfold maxLen at hk wS wn
  have hti := bounds_i64 wt
  clear wt
  have HB0 := Lib.hid (bel_alloc w (.cells #[v, .string S, .int .i64 t] 24))
  have HV0 := Lib.hid (hv.below HB0.out)
  have HT0 := Lib.hid (Three.new w v (.string S) (.int .i64 t) 24 _ rfl)
  obtain ⟨p, cap, rfl, -⟩ := hv
  obtain ⟨q0, q1, q2, q3, q4, q5, q6⟩ := HT0.out
  go_enter Tryd.func4, Tryd.ntmps4
  go_wp2_with fail
  refine (few_any _ k f S t _ HV0.out hk).mono ?_; rintro e w1 ⟨⟨b, rfl, hb⟩, b1⟩
  have HF := Lib.hid hb; clear hb
  have B1 := Lib.hid (bel_of HB0.out b1)
  have V1 := Lib.hid (HV0.out.below b1)
  have T1 := Lib.hid (HT0.out.below b1 rfl)
  clear b1 HB0 HV0 HT0 q0 q1 q2 q3 q4 q5 q6
  obtain ⟨q0, q1, q2, q3, q4, q5, q6⟩ := T1.out
  cases b with
  | false =>
    go_wp2_with fail
    refine (awake6 _ (HTab.out.below B1.out)).mono ?_; rintro e w9 ⟨rfl, b9⟩
    have B9 := Lib.hid (bel_of B1.out b9); clear b9
    go_wp2
    go_ret
    exact ⟨rfl, B9.out⟩
  | true =>
    obtain ⟨hk40, hS100, -⟩ := few_facts HF.out
    clear HF
    by_cases hn : (140 : Int) < n.size
    · have hd := decide_eq_true hn
      go_wp2_with fail
      refine (awake6 _ (HTab.out.below B1.out)).mono ?_; rintro e w9 ⟨rfl, b9⟩
      have B9 := Lib.hid (bel_of B1.out b9); clear b9
      go_wp2
      go_ret
      exact ⟨rfl, B9.out⟩
    · have hd := decide_eq_false hn
      by_cases ht0 : t < 0
      · have hd2 := decide_eq_true ht0
        go_wp2_with fail
        refine (awake6 _ (HTab.out.below B1.out)).mono ?_; rintro e w9 ⟨rfl, b9⟩
        have B9 := Lib.hid (bel_of B1.out b9); clear b9
        go_wp2
        go_ret
        exact ⟨rfl, B9.out⟩
      · have hd2 := decide_eq_false ht0
        by_cases htk : (k : Int) ≤ t
        · have hd3 := decide_eq_true htk
          go_wp2_with fail
          refine (awake6 _ (HTab.out.below B1.out)).mono ?_; rintro e w9 ⟨rfl, b9⟩
          have B9 := Lib.hid (bel_of B1.out b9); clear b9
          go_wp2
          go_ret
          exact ⟨rfl, B9.out⟩
        · have hd3 := decide_eq_false htk
          obtain ⟨s, rfl⟩ := Int.eq_ofNat_of_zero_le (show 0 ≤ t by omega)
          by_cases hw : WF k f (s : Int)
          · obtain ⟨d, hd4⟩ : ∃ d, d = k - s := ⟨_, rfl⟩
            have CL := Lib.hid (fun v W (hV : SV W v k f) => (show Calls Tryd.prog 15 #[.agg #[v, .string S, .int .i64 s]] W fun e w' => e = .returned (.int .i64 (d : Int)) ∧ Below W.heap.size W w' by rw [hd4]; exact left_yes v k f S s W hV hk hw))
            have hdz : ((d : Int) == 0) = false := beq_eq_false_iff_ne.2 (by omega)
            have HD4 := Lib.hid hd4; clear hd4
            have hkn : ¬ k ≤ s := by omega
            have hd5 : decide (k ≤ s) = false := decide_eq_false hkn
            go_wp2_with fail
            refine (CL.out _ _ V1.out).mono ?_; rintro e w2 ⟨rfl, b2⟩
            have B2 := Lib.hid (bel_of B1.out b2)
            have V2 := Lib.hid (V1.out.below b2)
            have T2 := Lib.hid (T1.out.below b2 rfl)
            clear b2 B1 V1 T1 q0 q1 q2 q3 q4 q5 q6
            obtain ⟨q0, q1, q2, q3, q4, q5, q6⟩ := T2.out
            by_cases hc : Can n
            · have HC := Lib.hid hc; clear hc
              go_wp2_with fail
              refine (valid_yes n _ HC.out).mono ?_; rintro e wx ⟨rfl, rfl⟩
              by_cases h0 : n.size = 0
              · have hE := empty_of h0
                go_wp2_with fail
                refine (awake6 _ (HTab.out.below B2.out)).mono ?_; rintro e w9 ⟨rfl, b9⟩
                have B9 := Lib.hid (bel_of B2.out b9); clear b9
                go_wp2
                go_ret
                exact ⟨rfl, B9.out⟩
              · have hE := not_empty_of h0
                have H0 := Lib.hid (Nat.pos_of_ne_zero h0); clear h0
                have HW := Lib.hid hw; clear hw
                obtain ⟨p', cap', e', hc2⟩ := V2.out
                obtain ⟨rfl, rfl⟩ : p = p' ∧ cap = cap' := by cases e'; exact ⟨rfl, rfl⟩
                obtain ⟨a, rfl, ha, hcell⟩ := hc2 s (by omega)
                clear hc2 e'
                have hsk : s < k := by omega
                have HCS := Lib.hid (HW.out.1 s hsk)
                by_cases hlt : V (f s) < V n
                · have hX : nextV k f S s n = .tuple #[.string (f s), .int .i64 0] := by
                    unfold nextV
                    rw [if_pos hsk, if_pos hlt, if_neg (by omega)]
                  have hsgn : sgn (V (f s)) (V n) = -1 := by unfold sgn; rw [if_pos hlt]
                  have hcmp := Lib.hid (fun W => (show Calls Tryd.prog 19 #[.string (f s), .string n] W fun e w' => e = .returned (.int .i64 (-1)) ∧ W = w' by rw [← hsgn]; exact cmp_yes (f s) n W HCS.out HC.out))
                  clear hsgn
                  obtain ⟨t1, ht1⟩ : ∃ t1 : Int, t1 = ((s + 1 : Nat) : Int) := ⟨_, rfl⟩
                  have CB := Lib.hid (fun W hV hT => (show Calls Tryd.prog 18 #[.agg #[.slice (some a) k cap, .string S, .int .i64 s], .string n] W fun e w' => DrawP (f s) k f S t1 W e w' by rw [ht1]; exact below_some _ k f S s n W hV (by omega) HW.out HC.out H0.out (by omega) hT hX))
                  have hw1 : IntKind.i64.wrap ((s : Int) + 1) = t1 := by rw [ht1, IntWalk.i64_in _ (by omega)]; omega
                  obtain ⟨d1, hd7⟩ : ∃ d1, d1 = k - (s + 1) := ⟨_, rfl⟩
                  have CM := Lib.hid (fun v W (hV : SV W v k f) => (show Calls Tryd.prog 15 #[.agg #[v, .string S, .int .i64 t1]] W fun e w' => e = .returned (.int .i64 (d1 : Int)) ∧ Below W.heap.size W w' by rw [ht1, hd7]; exact left_yes v k f S (s + 1) W hV hk ⟨HW.out.1, by omega, by omega⟩))
                  have hw2 : IntKind.i64.wrap ((d : Int) - 1) = (d1 : Int) := by have hd4 := HD4.out; rw [IntWalk.i64_in _ (by omega)]; omega
                  have hki : (s : Int) < (k : Int) := by omega
                  have HK := Lib.hid hk
                  clear hX ht1 hd7 hlt hk40 hS100 hsk
                  go_wp2_with fail
                  refine (CB.out _ V2.out (HTab.out.below B2.out)).mono ?_; rintro e w3 ⟨g3, c3, rfl, hg3, hs3, b3⟩
                  have d3 := bel_alloc w3 (.cells #[.slice (some ⟨g3, 0, none⟩) k c3, .string S, .int .i64 t1] 24)
                  have HE := Lib.hid (show ExS w w.heap.size w3.heap.size (a.add s) k g3 c3 cap (some a) f S (f s) (s : Int) t1 (w3.alloc (.cells #[.slice (some ⟨g3, 0, none⟩) k c3, .string S, .int .i64 t1] 24)) from
                    ⟨kc6 d3 (kc6 b3 q0), kc6 d3 (kc6 b3 q1), kc6 d3 (kc6 b3 q2), (Three.new w3 _ _ _ 24 _ rfl).1, (Three.new w3 _ _ _ 24 _ rfl).2.1, (Three.new w3 _ _ _ 24 _ rfl).2.2.1, kc6 d3 (kc6 b3 hcell), (V2.out.below b3).below d3, hs3.below d3, bel_of (bel_of B2.out b3) d3⟩)
                  clear b3 d3 hs3 hg3 hcell B2 V2 T2 CB q0 q1 q2 q3 q4 q5 q6
                  obtain ⟨q0, q1, q2, u0, u1, u2, hcell, -⟩ := HE.out
                  go_wp2_with fail
                  refine (hcmp.out _).mono ?_; rintro e wx ⟨rfl, rfl⟩
                  go_wp2_with fail
                  go_region_held3 (fun W => W.cell? ⟨w.heap.size, 0, none⟩ = some (.slice (some a) k cap) ∧ W.cell? ⟨w.heap.size, 1, none⟩ = some (.string S) ∧ W.cell? ⟨w.heap.size, 2, none⟩ = some (.int .i64 (s : Int)) ∧ W.cell? ⟨w3.heap.size, 0, none⟩ = some (.slice (some ⟨g3, 0, none⟩) k c3) ∧ W.cell? ⟨w3.heap.size, 1, none⟩ = some (.string S) ∧ W.cell? ⟨w3.heap.size, 2, none⟩ = some (.int .i64 t1) ∧ W.cell? (a.add s) = some (.string (f s)) ∧ SV W (.slice (some a) k cap) k f ∧ SV W (.slice (some ⟨g3, 0, none⟩) k c3) k f ∧ Below w.heap.size w W) (first | exact ExS.drew HE.out | exact ExS.next (by assumption) b99)
                    (first
                    | (go_at_call 9; ((refine (awake6 _ (HTab.out.below (ExS.bel (by assumption)))).mono ?_); rintro e w99 ⟨rfl, b99⟩))
                    | (go_at_call 20; ((refine (snats_yes _ _ k f _ (ExS.sv2 (by assumption)) (ExS.sv1 (by assumption)) HK.out).mono ?_); rintro e w99 ⟨rfl, b99⟩))
                    | (go_at_call_of 15 t1; ((refine (CM.out _ _ (ExS.sv2 (by assumption))).mono ?_); rintro e w99 ⟨rfl, b99⟩))
                    | (go_at_call_of 15 s; ((refine (CL.out _ _ (ExS.sv1 (by assumption))).mono ?_); rintro e w99 ⟨rfl, b99⟩)))
                  go_wp2
                  go_ret
                  exact ⟨rfl, ExS.bel (by assumption)⟩
                · have hX : nextV k f S s n = .tuple #[.string ⟨#[]⟩, .int .i64 2] := by
                    unfold nextV
                    rw [if_pos hsk, if_neg hlt]
                  have CB := Lib.hid (fun W hV hT => (show Calls Tryd.prog 18 #[.agg #[.slice (some a) k cap, .string S, .int .i64 s], .string n] W fun e w' => NoTape 2 W e w' from below_none _ k f S s n W hV hk HW.out HC.out H0.out (by omega) hT hX (by omega)))
                  have hcmp := Lib.hid (fun W => cmp_yes (f s) n W HCS.out HC.out)
                  have hsg : ¬ sgn (V (f s)) (V n) < 0 := by unfold sgn; split; exact absurd ‹_› hlt; split <;> omega
                  obtain ⟨y, hy⟩ : ∃ y, y = sgn (V (f s)) (V n) := ⟨_, rfl⟩
                  rw [← hy] at hcmp hsg
                  have hsg2 : (0 : Int) ≤ y := by omega
                  clear hX hlt hk40 hS100 hsk hy
                  go_wp2_with fail
                  refine (CB.out _ V2.out (HTab.out.below B2.out)).mono ?_; rintro e w3 ⟨rfl, b3⟩
                  have d3 := bel_alloc w3 (.cells #[.slice none 0 0, .string ⟨#[]⟩, .int .i64 0] 24)
                  have B3 := Lib.hid (bel_of (bel_of B2.out b3) d3)
                  have U3 := Lib.hid (Three.new w3 (.slice none 0 0) (.string ⟨#[]⟩) (.int .i64 0) 24 _ rfl)
                  have T3 := Lib.hid ((T2.out.below b3 rfl).below d3 rfl)
                  have hcell2 := kc6 d3 (kc6 b3 hcell)
                  clear b3 d3 hcell B2 V2 T2 CB q0 q1 q2 q3 q4 q5 q6
                  obtain ⟨q0, q1, q2, q3, q4, q5, q6⟩ := T3.out
                  go_wp2_with fail
                  refine (hcmp.out _).mono ?_; rintro e wx ⟨rfl, rfl⟩
                  clear q0 q1 q2 q3 q4 q5 q6 T3 hcell2
                  go_wp2_with fail
                  refine (awake6 _ (HTab.out.below B3.out)).mono ?_; rintro e w4 ⟨rfl, b4⟩
                  have B4 := Lib.hid (bel_of B3.out b4)
                  have U4 := Lib.hid (U3.out.below b4 rfl)
                  clear b4 B3 U3
                  obtain ⟨u0, u1, u2, u3, u4, u5, u6⟩ := U4.out
                  go_wp2_with fail
                  refine (same_yes _ _ 0 f f _ _ _ (SV.nil _ f) (SV.nil _ f) (by omega) (fun _ _ => rfl)).mono ?_; rintro e w5 ⟨rfl, b5⟩
                  have B5 := Lib.hid (bel_of B4.out b5)
                  go_wp2
                  go_ret
                  exact ⟨rfl, B5.out⟩
            · have HC := Lib.hid hc; clear hc
              go_wp2_with fail
              refine (valid_no n _ HC.out).mono ?_; rintro e wx ⟨rfl, rfl⟩
              go_wp2_with fail
              refine (awake6 _ (HTab.out.below B2.out)).mono ?_; rintro e w9 ⟨rfl, b9⟩
              have B9 := Lib.hid (bel_of B2.out b9); clear b9
              go_wp2
              go_ret
              exact ⟨rfl, B9.out⟩
          · go_wp2_with fail
            refine (left_no _ k f S s _ V1.out hk hw).mono ?_; rintro e w2 ⟨rfl, b2⟩
            have B2 := Lib.hid (bel_of B1.out b2); clear b2
            go_wp2_with fail
            refine (awake6 _ (HTab.out.below B2.out)).mono ?_; rintro e w9 ⟨rfl, b9⟩
            have B9 := Lib.hid (bel_of B2.out b9); clear b9
            go_wp2
            go_ret
            exact ⟨rfl, B9.out⟩
end Go.Proofs.YtehbbghobagkjaaDoor
