/-
  Layer 6's statements: CoinsRepeat.
-/
import Derived.Test.YtehbbghobagkjaaDoorCD
import Derived.Test.YtehbbghobagkjaaDoorCoi13
namespace Go.Proofs.YtehbbghobagkjaaDoor
open Go.RowKit Go.Deep
set_option linter.unusedVariables false

theorem chk_exists (k : Nat) (f : Nat → ByteArray) (t : Int) (n : ByteArray) : ∃ c, ChkT k f t n c := by
  by_cases h : WF k f t ∧ Can n
  · by_cases h0 : n.size = 0
    · exact ⟨11, .inr (.inl ⟨rfl, h.1, h.2, h0⟩)⟩
    · exact ⟨0, .inr (.inr ⟨rfl, h.1, h.2, Nat.pos_of_ne_zero h0⟩)⟩
  · exact ⟨3, .inl ⟨rfl, h⟩⟩
theorem chk_zero {k : Nat} {f : Nat → ByteArray} {t : Int} {n : ByteArray} (h : ChkT k f t n 0) : WF k f t ∧ Can n ∧ 0 < n.size := by
  rcases h with ⟨h, -⟩ | ⟨h, -⟩ | ⟨-, h⟩
  · omega
  · omega
  · exact h
theorem e_det (E : Nat → Int) (c : Nat) : (∀ j, j < c → E j = 0) ∨ ∃ i, i < c ∧ (∀ j, j < i → E j = 0) ∧ E i ≠ 0 := by
  induction c with
  | zero => exact .inl fun j hj => absurd hj (by omega)
  | succ c ih =>
    rcases ih with h | ⟨i, hi, h⟩
    · by_cases he : E c = 0
      · exact .inl fun j hj => by
          by_cases hjc : j = c
          · rw [hjc]; exact he
          · exact h j (by omega)
      · exact .inr ⟨c, by omega, h, he⟩
    · exact .inr ⟨i, by omega, h⟩
/-- Many, where a draw fails. -/
theorem many_fails (v : Value) (k : Nat) (f : Nat → ByteArray) (S : ByteArray) (t c : Nat) (n : ByteArray) (w : World) (hv : SV w v k f) (hk : k ≤ 1099511627776) (hwf : WF k f t) (hn : Can n) (hn0 : 0 < n.size) (hS : S.size ≤ 1099511627776) (htab : TabW w) (hc : c ≤ 4096)
    (X : Nat → ByteArray) (E : Nat → Int) (hX : NextsP k f S n t X E) {i : Nat} (hi : i < c) (h0 : ∀ j, j < i → E j = 0) (hne : E i ≠ 0) :
    Calls Tryd.prog 21 #[.agg #[v, .string S, .int .i64 t], .string n, .int .i64 c] w fun e w' => NoMany (E i) w e w' := by
  refine (many_any v k f S t c n w hv hk hwf hn hn0 hS htab hc X E hX).mono ?_
  rintro e w' (⟨j, hj, g0, gne, rfl, b⟩ | ⟨g0, -⟩)
  · obtain rfl : i = j := by
      rcases Nat.lt_trichotomy i j with q | q | q
      · exact absurd (g0 i q) hne
      · exact q
      · exact absurd (h0 j q) gne
    exact ⟨rfl, b⟩
  · exact absurd (g0 i hi) hne
theorem many_yes (v : Value) (k : Nat) (f : Nat → ByteArray) (S : ByteArray) (t c : Nat) (n : ByteArray) (w : World) (hv : SV w v k f) (hk : k ≤ 1099511627776) (hwf : WF k f t) (hn : Can n) (hn0 : 0 < n.size) (hS : S.size ≤ 1099511627776) (htab : TabW w) (hc : c ≤ 4096)
    (X : Nat → ByteArray) (E : Nat → Int) (hX : NextsP k f S n t X E) (h0 : ∀ j, j < c → E j = 0) :
    Calls Tryd.prog 21 #[.agg #[v, .string S, .int .i64 t], .string n, .int .i64 c] w fun e w' => ∃ q cq g cg, e = .returned (.tuple #[.slice q c cq, .agg #[.slice (some ⟨g, 0, none⟩) k cg, .string S, .int .i64 ((t + c : Nat) : Int)], .int .i64 0]) ∧ SV w' (.slice q c cq) c X ∧ SV w' (.slice (some ⟨g, 0, none⟩) k cg) k f ∧ Below w.heap.size w w' ∧ w.heap.size ≤ g ∧ (q = none ∨ ∃ g', q = some ⟨g', 0, none⟩ ∧ w.heap.size ≤ g') := by
  refine (many_any v k f S t c n w hv hk hwf hn hn0 hS htab hc X E hX).mono ?_
  intro e w' h
  exact (many_okc h0 h).2
theorem Three.away {w : World} {b g : Nat} {c0 c1 c2 : Value} (h : Three w g c0 c1 c2) (hne : b ≠ g) (x y z : Value) : Three (((w.setCell ⟨b, 0, none⟩ x).setCell ⟨b, 1, none⟩ y).setCell ⟨b, 2, none⟩ z) g c0 c1 c2 := by
  obtain ⟨q0, q1, q2, q3, q4, q5, q6⟩ := h
  refine ⟨?_, ?_, ?_, ?_, ?_, ?_, ?_⟩
  · rw [World.cell?_setCell_far _ _ _ _ hne, World.cell?_setCell_far _ _ _ _ hne, World.cell?_setCell_far _ _ _ _ hne]; exact q0
  · rw [World.cell?_setCell_far _ _ _ _ hne, World.cell?_setCell_far _ _ _ _ hne, World.cell?_setCell_far _ _ _ _ hne]; exact q1
  · rw [World.cell?_setCell_far _ _ _ _ hne, World.cell?_setCell_far _ _ _ _ hne, World.cell?_setCell_far _ _ _ _ hne]; exact q2
  · simp [go_sem, q3]
  · simp [go_sem, q4]
  · simp [go_sem, q5]
  · simp only [World.size_setCell]; exact q6
/-- What the loop of CoinsRepeat knows: its tape's variable, the tape behind Many, the coins. -/
def RepR (w : World) (k : Nat) (f X : Nat → ByteArray) (S : ByteArray) (t c : Nat) (q : Option Addr) (cq bu gu cu : Nat) (y : Nat) (vi : Value) (wr : World) : Prop :=
  ∃ i p cap, i + y = c ∧ vi = .int .i64 i ∧ t + i ≤ 2147483647 ∧ Below w.heap.size w wr ∧ Three wr w.heap.size (.slice p k cap) (.string S) (.int .i64 ((t + i : Nat) : Int)) ∧ SV wr (.slice p k cap) k f ∧
    Three wr bu (.slice (some ⟨gu, 0, none⟩) k cu) (.string S) (.int .i64 ((t + c : Nat) : Int)) ∧ SV wr (.slice (some ⟨gu, 0, none⟩) k cu) k f ∧ SV wr (.slice q c cq) c X

set_option maxHeartbeats 16000000 in
set_option maxRecDepth 400000 in
theorem repeat_any (v : Value) (k : Nat) (f : Nat → ByteArray) (S : ByteArray) (t : Int) (n : ByteArray) (a c : Nat) (hac : (a : Int) % 8 = (c : Int)) (hc8 : c < 8) (w : World) (hv : SV w v k f) (hk : k ≤ 9223372036854775807) (htab : TabW w) :
    Calls Tryd.prog 5 #[.agg #[v, .string S, .int .i64 t], .string n, .int .u8 (a : Int)] w fun e w' => e = .returned (.bool true) ∧ Below w.heap.size w w' := by
  have HTab := Lib.hid htab; clear htab
  have HB0 := Lib.hid (bel_alloc w (.cells #[v, .string S, .int .i64 t] 24))
  have HV0 := Lib.hid (hv.below HB0.out)
  have HT0 := Lib.hid (Three.new w v (.string S) (.int .i64 t) 24 _ rfl)
  have HC8 := Lib.hid hc8
  obtain ⟨p, cap, rfl, -⟩ := hv
  obtain ⟨q0, q1, q2, q3, q4, q5, q6⟩ := HT0.out
  go_enter Tryd.func5, Tryd.ntmps5
  go_wp2_with fail
  refine (few_any _ k f S t _ HV0.out hk).mono ?_; rintro e w1 ⟨⟨b, rfl, hb⟩, b1⟩
  have HF := Lib.hid hb; clear hb
  have B1 := Lib.hid (bel_of HB0.out b1)
  have V1 := Lib.hid (HV0.out.below b1)
  have T1 := Lib.hid (HT0.out.below b1 rfl)
  clear b1 HB0 HV0 HT0 q0 q1 q2 q3 q4 q5 q6
  obtain ⟨q0, q1, q2, q3, q4, q5, q6⟩ := T1.out
  cases b with
  | false =>
    go_wp2_with fail
    refine (awake6 _ (HTab.out.below B1.out)).mono ?_; rintro e w9 ⟨rfl, b9⟩
    have B9 := Lib.hid (bel_of B1.out b9); clear b9
    go_wp2
    go_ret
    exact ⟨rfl, B9.out⟩
  | true =>
    have HK := Lib.hid (few_facts HF.out).1
    have HS := Lib.hid (few_facts HF.out).2.1
    clear HF
    by_cases hn : (40 : Int) < n.size
    · have hd := decide_eq_true hn
      go_wp2_with fail
      refine (awake6 _ (HTab.out.below B1.out)).mono ?_; rintro e w9 ⟨rfl, b9⟩
      have B9 := Lib.hid (bel_of B1.out b9); clear b9
      go_wp2
      go_ret
      exact ⟨rfl, B9.out⟩
    · have hd := decide_eq_false hn
      obtain ⟨e0, hchk⟩ := chk_exists k f t n
      by_cases he0 : e0 = 0
      · subst he0
        obtain ⟨hwf, hcn, hn0⟩ := chk_zero hchk
        obtain ⟨s, rfl⟩ := Int.eq_ofNat_of_zero_le hwf.2.1
        obtain ⟨X, E, hX⟩ := nexts_exist k f S n s
        rcases e_det E c with h0 | ⟨i, hi, h0, hne⟩
        · have CM := Lib.hid (fun v W hV hT => many_yes v k f S s c n W hV (by have := HK.out; omega) hwf hcn hn0 (by have := HS.out; omega) hT (by omega) X E hX h0)
          have HWF := Lib.hid hwf
          have HCN := Lib.hid hcn
          have HN0 := Lib.hid hn0
          have HX := Lib.hid hX
          have HE0 := Lib.hid h0
          obtain ⟨z, hz⟩ : ∃ z : Int, z = ((s + c : Nat) : Int) := ⟨_, rfl⟩
          rw [← hz] at CM
          have HZ := Lib.hid hz
          clear hchk hwf hcn hn0 hX h0 hz hc8
          go_wp2_with fail
          refine (CM.out _ _ V1.out (HTab.out.below B1.out)).mono ?_; rintro e w2 ⟨ql, cl, gu, cu, rfl, hsl, hsu, b2, hgu, hql⟩
          have d2 := bel_alloc w2 (.cells #[.slice (some ⟨gu, 0, none⟩) k cu, .string S, .int .i64 z] 24)
          have B2 := Lib.hid (bel_of (bel_of B1.out b2) d2)
          have V2 := Lib.hid ((V1.out.below b2).below d2)
          have T2 := Lib.hid ((T1.out.below b2 rfl).below d2 rfl)
          have L2 := Lib.hid (hsl.below d2)
          have U2 := Lib.hid (hsu.below d2)
          have X2 := Lib.hid (Three.new w2 (.slice (some ⟨gu, 0, none⟩) k cu) (.string S) (.int .i64 z) 24 _ rfl)
          have HGU := Lib.hid (show w.heap.size ≠ gu by omega)
          have HQL := Lib.hid (show ql = none ∨ ∃ g, ql = some ⟨g, 0, none⟩ ∧ w.heap.size ≠ g by
            rcases hql with h | ⟨g, h, hg⟩
            · exact .inl h
            · exact .inr ⟨g, h, by omega⟩)
          have HW2 := Lib.hid (show w.heap.size < w2.heap.size from Nat.lt_of_lt_of_le q6 b2.size)
          clear b2 d2 hsl hsu hgu hql B1 V1 T1 q0 q1 q2 q3 q4 q5 q6
          obtain ⟨q0, q1, q2, q3, q4, q5, q6⟩ := T2.out
          go_wp2_with fail
          refine (CM.out _ _ V2.out (HTab.out.below B2.out)).mono ?_; rintro e w3 ⟨qm, cm, gv, cv, rfl, hsm, hsv, b3, -, -⟩
          have d3 := bel_alloc w3 (.cells #[.slice (some ⟨gv, 0, none⟩) k cv, .string S, .int .i64 z] 24)
          have B3 := Lib.hid (bel_of (bel_of B2.out b3) d3)
          have V3 := Lib.hid ((V2.out.below b3).below d3)
          have T3 := Lib.hid ((T2.out.below b3 rfl).below d3 rfl)
          have L3 := Lib.hid ((L2.out.below b3).below d3)
          have U3 := Lib.hid ((U2.out.below b3).below d3)
          have X3 := Lib.hid ((X2.out.below b3 rfl).below d3 rfl)
          have M3 := Lib.hid (hsm.below d3)
          have N3 := Lib.hid (hsv.below d3)
          have Y3 := Lib.hid (Three.new w3 (.slice (some ⟨gv, 0, none⟩) k cv) (.string S) (.int .i64 z) 24 _ rfl)
          clear b3 d3 hsm hsv B2 V2 T2 L2 U2 X2 CM q0 q1 q2 q3 q4 q5 q6
          go_wp2_with fail
          refine (snats_yes _ _ c X _ L3.out M3.out (by have := HC8.out; omega)).mono ?_; rintro e w4 ⟨rfl, b4⟩
          have B4 := Lib.hid (bel_of B3.out b4)
          have V4 := Lib.hid (V3.out.below b4)
          have T4 := Lib.hid (T3.out.below b4 rfl)
          have L4 := Lib.hid (L3.out.below b4)
          have U4 := Lib.hid (U3.out.below b4)
          have X4 := Lib.hid (X3.out.below b4 rfl)
          have N4 := Lib.hid (N3.out.below b4)
          have Y4 := Lib.hid (Y3.out.below b4 rfl)
          clear b4 B3 V3 T3 L3 U3 X3 M3 N3 Y3
          obtain ⟨x0, x1, x2, x3, x4, x5, x6⟩ := X4.out
          obtain ⟨y0, y1, y2, y3, y4, y5, y6⟩ := Y4.out
          go_wp2_with fail
          refine (same_yes _ _ k f f _ _ _ U4.out N4.out hk (fun _ _ => rfl)).mono ?_; rintro e w5 ⟨rfl, b5⟩
          have HR := Lib.hid (show RepR w k f X S s c ql cl w2.heap.size gu cu c (.int .i64 0) w5 from
            ⟨0, p, cap, by omega, rfl, by have := HWF.out.2.2; omega, bel_of B4.out b5, T4.out.below b5 rfl, V4.out.below b5, by rw [← HZ.out]; exact X4.out.below b5 rfl, U4.out.below b5, L4.out.below b5⟩)
          clear b5 B4 V4 T4 L4 U4 X4 N4 Y4 x0 x1 x2 x3 x4 x5 x6 y0 y1 y2 y3 y4 y5 y6
          have HK9 := Lib.hid hk
          go_wp2_with fail
          go_loopg [14] c (fun y vi wr => RepR w k f X S s c ql cl w2.heap.size gu cu y vi wr)
          case atStart => exact HR.out
          case round =>
            obtain ⟨i, p, cap, hiy, rfl, hu, hb, hT, hV, hX, hU, hL⟩ := hrel
            clear HR
            have HY := Lib.hid hiy
            have HU := Lib.hid hu
            have B6 := Lib.hid hb
            have T6 := Lib.hid hT
            have V6 := Lib.hid hV
            have X6 := Lib.hid hX
            have U6 := Lib.hid hU
            have L6 := Lib.hid hL
            clear hiy hu hb hT hV hX hU hL
            by_cases hlt : i < c
            · have hlti : (i : Int) < (c : Int) := by omega
              have hnle : ¬ c ≤ i := by omega
              have hdd : decide (c ≤ i) = false := decide_eq_false hnle
              obtain ⟨u, hue⟩ : ∃ u, u = s + i := ⟨_, rfl⟩
              obtain ⟨x, hx⟩ : ∃ x, x = X i := ⟨_, rfl⟩
              obtain ⟨z1, hz1⟩ : ∃ z1 : Int, z1 = ((s + (i + 1) : Nat) : Int) := ⟨_, rfl⟩
              have hnx : nextV k f S u n = .tuple #[.string x, .int .i64 0] := by
                have h := HX.out i
                rw [HE0.out i hlt, ← hx, ← hue] at h
                exact h
              have hcoin := nextV_coin HWF.out.1 HCN.out hnx
              have hend := nextV_end hnx
              have CBi := Lib.hid (show Calls Tryd.prog 18 #[.agg #[.slice p k cap, .string S, .int .i64 (u : Int)], .string n] wr fun e w' => DrawP x k f S z1 wr e w' by
                have h := below_some (.slice p k cap) k f S u n wr V6.out (by have := HK.out; omega) ⟨HWF.out.1, by omega, by have := HU.out; omega⟩ HCN.out HN0.out (by have := HS.out; omega) (HTab.out.below B6.out) hnx
                rw [hz1, show s + (i + 1) = u + 1 by omega]
                exact h)
              have hcmp := Lib.hid (fun W => (show Calls Tryd.prog 19 #[.string x, .string n] W fun e w' => e = .returned (.int .i64 (-1)) ∧ W = w' by
                have h := cmp_yes x n W hcoin.1 HCN.out
                rw [sgn_lt0 hcoin.2] at h
                exact h))
              have HUE := Lib.hid hue
              have HXI := Lib.hid hx
              have HZ1 := Lib.hid hz1
              have HEND := Lib.hid hend
              obtain ⟨q0, q1, q2, q3, q4, q5, q6⟩ := T6.out
              rw [← hue] at q2
              clear hue hx hz1 hnx hcoin hend
              go_wp2_with fail
              refine CBi.out.mono ?_; rintro e w7 ⟨g7, c7, rfl, hg7, hs7, b7⟩
              have d7 := bel_alloc w7 (.cells #[.slice (some ⟨g7, 0, none⟩) k c7, .string S, .int .i64 z1] 24)
              have B8 := Lib.hid (bel_of (bel_of B6.out b7) d7)
              have T8 := Lib.hid ((T6.out.below b7 rfl).below d7 rfl)
              have X8 := Lib.hid ((X6.out.below b7 rfl).below d7 rfl)
              have U8 := Lib.hid ((U6.out.below b7).below d7)
              have L8 := Lib.hid ((L6.out.below b7).below d7)
              have N8 := Lib.hid (hs7.below d7)
              have Z8 := Lib.hid (Three.new w7 (.slice (some ⟨g7, 0, none⟩) k c7) (.string S) (.int .i64 z1) 24 _ rfl)
              have HG7 := Lib.hid (show w.heap.size < g7 by omega)
              have HW7 := Lib.hid (show w.heap.size < w7.heap.size from Nat.lt_of_lt_of_le q6 b7.size)
              clear b7 d7 hs7 hg7 B6 V6 T6 X6 U6 L6 CBi q0 q1 q2 q3 q4 q5 q6
              obtain ⟨q', c', e', hc2⟩ := L8.out
              obtain ⟨rfl, rfl⟩ : ql = q' ∧ cl = c' := by cases e'; exact ⟨rfl, rfl⟩
              obtain ⟨al, rfl, hal, hcell⟩ := hc2 i hlt
              rw [← HXI.out] at hcell
              clear hc2 e'
              go_wp2_with fail
              refine (hcmp.out _).mono ?_; rintro e wx ⟨rfl, rfl⟩
              obtain ⟨q0, q1, q2, q3, q4, q5, q6⟩ := T8.out
              obtain ⟨x0, x1, x2, x3, x4, x5, x6⟩ := Z8.out
              clear hcell
              go_wp2
              go_roundg (gk - 1)
              case measure => have := HY.out; omega
              case rel =>
                have hg7 := HG7.out
                have hw2 := HW2.out
                have hen := HEND.out
                have hue := HUE.out
                have huu := HU.out
                have hyy := HY.out
                refine ⟨i + 1, _, _, by omega, by go_num, by omega, Below.set3 B8.out (Nat.le_refl _) _ _ _, ?_, N8.out.set3 (by omega) _ _ _, ?_, U8.out.set3 HGU.out _ _ _, L8.out.away3 HQL.out _ _ _⟩
                · have h := T8.out.set3 (.slice (some ⟨g7, 0, none⟩) k c7) (.string S) (.int .i64 z1)
                  rw [HZ1.out] at h ⊢
                  exact h
                · exact X8.out.away (by omega) _ _ _
            · obtain rfl : i = c := by have := HY.out; omega
              obtain ⟨u, hue⟩ : ∃ u : Int, u = ((s + i : Nat) : Int) := ⟨_, rfl⟩
              have T7 := Lib.hid T6.out
              have X7 := Lib.hid X6.out
              rw [← hue] at T7 X7
              clear hue T6 X6
              go_wp2_with fail
              refine (awake6 _ (HTab.out.below B6.out)).mono ?_; rintro e w7 ⟨rfl, b7⟩
              have B7 := Lib.hid (bel_of B6.out b7)
              have V7 := Lib.hid (V6.out.below b7)
              have U7 := Lib.hid (U6.out.below b7)
              have T8 := Lib.hid (T7.out.below b7 rfl)
              have X8 := Lib.hid (X7.out.below b7 rfl)
              clear b7 B6 V6 U6 T7 X7
              obtain ⟨q0, q1, q2, q3, q4, q5, q6⟩ := T8.out
              obtain ⟨x0, x1, x2, x3, x4, x5, x6⟩ := X8.out
              go_wp2_with fail
              refine (same_yes _ _ k f f _ _ _ V7.out U7.out HK9.out (fun _ _ => rfl)).mono ?_; rintro e w8 ⟨rfl, b8⟩
              have B9 := Lib.hid (bel_of B7.out b8)
              go_wp2
              go_ret
              exact ⟨rfl, B9.out⟩
        · have CM := Lib.hid (fun v W hV hT => many_fails v k f S s c n W hV (by have := HK.out; omega) hwf hcn hn0 (by have := HS.out; omega) hT (by omega) X E hX hi h0 hne)
          obtain ⟨ee, hee⟩ : ∃ ee, ee = E i := ⟨_, rfl⟩
          rw [← hee] at CM hne
          have heb : (ee == 0) = false := beq_eq_false_iff_ne.2 hne
          clear hchk hwf hcn hn0 hX h0 hee hne hi hc8
          go_wp2_with fail
          refine (CM.out _ _ V1.out (HTab.out.below B1.out)).mono ?_; rintro e w2 ⟨rfl, b2⟩
          have B2 := Lib.hid (bel_of (bel_of B1.out b2) (bel_alloc w2 (.cells #[.slice none 0 0, .string ⟨#[]⟩, .int .i64 0] 24)))
          have V2 := Lib.hid ((V1.out.below b2).below (bel_alloc w2 (.cells #[.slice none 0 0, .string ⟨#[]⟩, .int .i64 0] 24)))
          have T2 := Lib.hid ((T1.out.below b2 rfl).alloc (.cells #[.slice none 0 0, .string ⟨#[]⟩, .int .i64 0] 24))
          have U2 := Lib.hid (Three.new w2 (.slice none 0 0) (.string ⟨#[]⟩) (.int .i64 0) 24 _ rfl)
          clear b2 B1 V1 T1 q0 q1 q2 q3 q4 q5 q6
          obtain ⟨q0, q1, q2, q3, q4, q5, q6⟩ := T2.out
          go_wp2_with fail
          refine (CM.out _ _ V2.out (HTab.out.below B2.out)).mono ?_; rintro e w3 ⟨rfl, b3⟩
          have B3 := Lib.hid (bel_of (bel_of B2.out b3) (bel_alloc w3 (.cells #[.slice none 0 0, .string ⟨#[]⟩, .int .i64 0] 24)))
          have U3 := Lib.hid ((U2.out.below b3 rfl).alloc (.cells #[.slice none 0 0, .string ⟨#[]⟩, .int .i64 0] 24))
          have W3 := Lib.hid (Three.new w3 (.slice none 0 0) (.string ⟨#[]⟩) (.int .i64 0) 24 _ rfl)
          clear b3 B2 V2 T2 U2 q0 q1 q2 q3 q4 q5 q6
          obtain ⟨u0, u1, u2, u3, u4, u5, u6⟩ := U3.out
          obtain ⟨x0, x1, x2, x3, x4, x5, x6⟩ := W3.out
          go_wp2_with fail
          refine (snats_yes _ _ 0 f _ (SV.nil _ f) (SV.nil _ f) (by omega)).mono ?_; rintro e w4 ⟨rfl, b4⟩
          have B4 := Lib.hid (bel_of B3.out b4)
          have U4 := Lib.hid (U3.out.below b4 rfl)
          have W4 := Lib.hid (W3.out.below b4 rfl)
          clear b4 B3 U3 W3 u0 u1 u2 u3 u4 u5 u6 x0 x1 x2 x3 x4 x5 x6
          obtain ⟨u0, u1, u2, u3, u4, u5, u6⟩ := U4.out
          obtain ⟨x0, x1, x2, x3, x4, x5, x6⟩ := W4.out
          go_wp2_with fail
          refine (same_yes _ _ 0 f f _ _ _ (SV.nil _ f) (SV.nil _ f) (by omega) (fun _ _ => rfl)).mono ?_; rintro e w5 ⟨rfl, b5⟩
          have B5 := Lib.hid (bel_of B4.out b5)
          have U5 := Lib.hid (U4.out.below b5 rfl)
          clear b5 B4 U4 W4 u0 u1 u2 u3 u4 u5 u6 x0 x1 x2 x3 x4 x5 x6
          go_wp2_with fail
          refine (awake6 _ (HTab.out.below B5.out)).mono ?_; rintro e w6 ⟨rfl, b6⟩
          have B6 := Lib.hid (bel_of B5.out b6)
          have U6 := Lib.hid (U5.out.below b6 rfl)
          clear b6 B5 U5
          obtain ⟨u0, u1, u2, u3, u4, u5, u6⟩ := U6.out
          go_wp2_with fail
          refine (same_yes _ _ 0 f f _ _ _ (SV.nil _ f) (SV.nil _ f) (by omega) (fun _ _ => rfl)).mono ?_; rintro e w7 ⟨rfl, b7⟩
          have B7 := Lib.hid (bel_of B6.out b7)
          go_wp2
          go_ret
          exact ⟨rfl, B7.out⟩
      · have heb : (e0 == 0) = false := beq_eq_false_iff_ne.2 he0
        have CM := Lib.hid (fun v W hV => many_bad v k f S t n (c : Int) W hV hk hchk he0)
        clear hchk he0 hc8
        go_wp2_with fail
        refine (CM.out _ _ V1.out).mono ?_; rintro e w2 ⟨rfl, b2⟩
        have B2 := Lib.hid (bel_of (bel_of B1.out b2) (bel_alloc w2 (.cells #[.slice none 0 0, .string ⟨#[]⟩, .int .i64 0] 24)))
        have V2 := Lib.hid ((V1.out.below b2).below (bel_alloc w2 (.cells #[.slice none 0 0, .string ⟨#[]⟩, .int .i64 0] 24)))
        have T2 := Lib.hid ((T1.out.below b2 rfl).alloc (.cells #[.slice none 0 0, .string ⟨#[]⟩, .int .i64 0] 24))
        have U2 := Lib.hid (Three.new w2 (.slice none 0 0) (.string ⟨#[]⟩) (.int .i64 0) 24 _ rfl)
        clear b2 B1 V1 T1 q0 q1 q2 q3 q4 q5 q6
        obtain ⟨q0, q1, q2, q3, q4, q5, q6⟩ := T2.out
        go_wp2_with fail
        refine (CM.out _ _ V2.out).mono ?_; rintro e w3 ⟨rfl, b3⟩
        have B3 := Lib.hid (bel_of (bel_of B2.out b3) (bel_alloc w3 (.cells #[.slice none 0 0, .string ⟨#[]⟩, .int .i64 0] 24)))
        have U3 := Lib.hid ((U2.out.below b3 rfl).alloc (.cells #[.slice none 0 0, .string ⟨#[]⟩, .int .i64 0] 24))
        have W3 := Lib.hid (Three.new w3 (.slice none 0 0) (.string ⟨#[]⟩) (.int .i64 0) 24 _ rfl)
        clear b3 B2 V2 T2 U2 q0 q1 q2 q3 q4 q5 q6
        obtain ⟨u0, u1, u2, u3, u4, u5, u6⟩ := U3.out
        obtain ⟨x0, x1, x2, x3, x4, x5, x6⟩ := W3.out
        go_wp2_with fail
        refine (snats_yes _ _ 0 f _ (SV.nil _ f) (SV.nil _ f) (by omega)).mono ?_; rintro e w4 ⟨rfl, b4⟩
        have B4 := Lib.hid (bel_of B3.out b4)
        have U4 := Lib.hid (U3.out.below b4 rfl)
        have W4 := Lib.hid (W3.out.below b4 rfl)
        clear b4 B3 U3 W3 u0 u1 u2 u3 u4 u5 u6 x0 x1 x2 x3 x4 x5 x6
        obtain ⟨u0, u1, u2, u3, u4, u5, u6⟩ := U4.out
        obtain ⟨x0, x1, x2, x3, x4, x5, x6⟩ := W4.out
        go_wp2_with fail
        refine (same_yes _ _ 0 f f _ _ _ (SV.nil _ f) (SV.nil _ f) (by omega) (fun _ _ => rfl)).mono ?_; rintro e w5 ⟨rfl, b5⟩
        have B5 := Lib.hid (bel_of B4.out b5)
        have U5 := Lib.hid (U4.out.below b5 rfl)
        clear b5 B4 U4 W4 u0 u1 u2 u3 u4 u5 u6 x0 x1 x2 x3 x4 x5 x6
        go_wp2_with fail
        refine (awake6 _ (HTab.out.below B5.out)).mono ?_; rintro e w6 ⟨rfl, b6⟩
        have B6 := Lib.hid (bel_of B5.out b6)
        have U6 := Lib.hid (U5.out.below b6 rfl)
        clear b6 B5 U5
        obtain ⟨u0, u1, u2, u3, u4, u5, u6⟩ := U6.out
        go_wp2_with fail
        refine (same_yes _ _ 0 f f _ _ _ (SV.nil _ f) (SV.nil _ f) (by omega) (fun _ _ => rfl)).mono ?_; rintro e w7 ⟨rfl, b7⟩
        have B7 := Lib.hid (bel_of B6.out b7)
        go_wp2
        go_ret
        exact ⟨rfl, B7.out⟩
theorem law_CoinsRepeat (v : Value) (k : Nat) (f : Nat → ByteArray) (S : ByteArray) (t : Int) (n : ByteArray) (a : Int) (wS : S.size ≤ maxLen) (wt : (Lit.int .i64 t).wf = true) (wn : n.size ≤ maxLen) (wa : (Lit.int .u8 a).wf = true) (w : World) (hv : SV w v k f) (hk : k ≤ maxLen) (htab : TabW w) :
    Calls Tryd.prog 5 #[.agg #[v, .string S, .int .i64 t], .string n, .int .u8 a] w fun e w' => e = .returned (.bool true) ∧ Below w.heap.size w w' := by
  unfold maxLen at hk
  have hw := bounds_u8 wa
  obtain ⟨m, rfl⟩ := Int.eq_ofNat_of_zero_le hw.1
  exact repeat_any v k f S t n m (m % 8) (by omega) (by omega) w hv hk htab
end Go.Proofs.YtehbbghobagkjaaDoor
