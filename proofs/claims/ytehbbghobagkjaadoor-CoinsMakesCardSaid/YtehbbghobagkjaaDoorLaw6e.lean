/-
  Layer 6's statements: CoinsMakes.
-/
import Derived.Test.YtehbbghobagkjaaDoorRC6
namespace Go.Proofs.YtehbbghobagkjaaDoor
open Go.RowKit Go.Deep
set_option linter.unusedVariables false

/-- What the last statement of CoinsMakes reads. -/
def MkS (w : World) (a k m : Nat) (v tv : Value) (f g : Nat → ByteArray) (S : ByteArray) (t : Int) (W : World) : Prop :=
  W.cell? ⟨a, 0, none⟩ = some tv ∧ W.cell? ⟨a, 1, none⟩ = some (.string S) ∧ W.cell? ⟨a, 2, none⟩ = some (.int .i64 t) ∧ SV W v k f ∧ SV W tv m g ∧ Below w.heap.size w W
theorem MkS.next {w : World} {a k m : Nat} {v tv : Value} {f g : Nat → ByteArray} {S : ByteArray} {t : Int} {W V : World} (h : MkS w a k m v tv f g S t W) (b99 : Below W.heap.size W V) : MkS w a k m v tv f g S t V := by
  obtain ⟨h0, h1, h2, h3, h4, h5⟩ := h
  exact ⟨kc6 b99 h0, kc6 b99 h1, kc6 b99 h2, h3.below b99, h4.below b99, bel_of h5 b99⟩
theorem MkS.drew {w : World} {a k m : Nat} {v tv : Value} {f g : Nat → ByteArray} {S : ByteArray} {t : Int} {W : World} (h : MkS w a k m v tv f g S t W) : MkS w a k m v tv f g S t W.drew := by
  obtain ⟨h0, h1, h2, h3, h4, h5⟩ := h
  exact ⟨h0, h1, h2, h3, h4, h5.drew⟩
theorem MkS.bel {w : World} {a k m : Nat} {v tv : Value} {f g : Nat → ByteArray} {S : ByteArray} {t : Int} {W : World} (h : MkS w a k m v tv f g S t W) : Below w.heap.size w W := h.2.2.2.2.2
theorem MkS.sv {w : World} {a k m : Nat} {v tv : Value} {f g : Nat → ByteArray} {S : ByteArray} {t : Int} {W : World} (h : MkS w a k m v tv f g S t W) : SV W v k f := h.2.2.2.1
theorem MkS.svt {w : World} {a k m : Nat} {v tv : Value} {f g : Nat → ByteArray} {S : ByteArray} {t : Int} {W : World} (h : MkS w a k m v tv f g S t W) : SV W tv m g := h.2.2.2.2.1
theorem left_agree (m : Nat) (g : Nat → ByteArray) (S : ByteArray) (t : Int) (hm : m ≤ 9223372036854775807) : ∃ d : Int,
    (∀ v w, SV w v m g → Calls Tryd.prog 15 #[.agg #[v, .string S, .int .i64 t]] w fun e w' => e = .returned (.int .i64 d) ∧ Below w.heap.size w w') ∧
    (∀ v w, SV w v m g → Calls Tryd.prog 16 #[.agg #[v, .string S, .int .i64 t]] w fun e w' => e = .returned (.int .i64 d) ∧ Below w.heap.size w w') := by
  by_cases h : WF m g t
  · obtain ⟨s, rfl⟩ := Int.eq_ofNat_of_zero_le h.2.1
    exact ⟨_, fun v w hv => left_yes v m g S s w hv hm h, fun v w hv => rleft_yes v m g S s w hv hm h⟩
  · exact ⟨0, fun v w hv => left_no v m g S t w hv hm h, fun v w hv => rleft_no v m g S t w hv hm h⟩

set_option maxHeartbeats 16000000 in
set_option maxRecDepth 400000 in
theorem law_CoinsMakes (v : Value) (k : Nat) (f : Nat → ByteArray) (S : ByteArray) (tv : Value) (m : Nat) (g : Nat → ByteArray) (T : ByteArray) (t : Int) (wS : S.size ≤ maxLen) (wT : T.size ≤ maxLen) (wt : (Lit.int .i64 t).wf = true) (w : World) (hv : SV w v k f) (hk : k ≤ maxLen) (ht : SV w tv m g) (hm : m ≤ maxLen) (htab : TabW w) :
    Calls Tryd.prog 3 #[v, .string S, .agg #[tv, .string T, .int .i64 t]] w fun e w' => e = .returned (.bool true) ∧ Below w.heap.size w w' := by
  have HTab := Lib.hid htab; clear htab
  unfold maxLen at hk hm
  have HM := Lib.hid hm
  have b0 := bel_alloc w (.cells #[tv, .string T, .int .i64 t] 24)
  obtain ⟨r0, r1, r2, -⟩ := Three.new w tv (.string T) (.int .i64 t) 24 _ rfl
  have HS := Lib.hid (show MkS w w.heap.size k m v tv f g T t (w.alloc (.cells #[tv, .string T, .int .i64 t] 24)) from ⟨r0, r1, r2, hv.below b0, ht.below b0, b0⟩)
  obtain ⟨p, cap, rfl, -⟩ := hv
  obtain ⟨p2, cap2, rfl, -⟩ := ht
  clear b0
  go_enter Tryd.func3, Tryd.ntmps3
  go_wp2_with fail
  refine (few_any _ k f S 0 _ HS.out.sv hk).mono ?_; rintro e w1 ⟨⟨b, rfl, hb⟩, b1⟩
  have HF := Lib.hid hb; clear hb
  have H1 := Lib.hid (HS.out.next b1)
  clear b1 HS r0 r1 r2
  obtain ⟨q0, q1, q2, -⟩ := H1.out
  cases b with
  | false =>
    go_wp2_with fail
    refine (awake6 _ (HTab.out.below H1.out.bel)).mono ?_; rintro e w9 ⟨rfl, b9⟩
    have B9 := Lib.hid (bel_of H1.out.bel b9); clear b9
    go_wp2
    go_ret
    exact ⟨rfl, B9.out⟩
  | true =>
    have HK := Lib.hid (few_facts HF.out).1
    go_wp2_with fail
    refine (few_any _ m g T t _ H1.out.svt HM.out).mono ?_; rintro e w2 ⟨⟨b, rfl, hb⟩, b2⟩
    have H2 := Lib.hid (H1.out.next b2)
    clear b2 H1 hb q0 q1 q2
    obtain ⟨q0, q1, q2, -⟩ := H2.out
    cases b with
    | false =>
      go_wp2_with fail
      refine (awake6 _ (HTab.out.below H2.out.bel)).mono ?_; rintro e w9 ⟨rfl, b9⟩
      have B9 := Lib.hid (bel_of H2.out.bel b9); clear b9
      go_wp2
      go_ret
      exact ⟨rfl, B9.out⟩
    | true =>
      obtain ⟨d, hd1, hd2⟩ := left_agree m g T t HM.out
      have D1 := Lib.hid hd1
      have D2 := Lib.hid hd2
      clear hd1 hd2 hk hm HF wS wT wt
      go_wp2_with fail
      go_region_held3 (fun W => W.cell? ⟨w.heap.size, 0, none⟩ = some (.slice p2 m cap2) ∧ W.cell? ⟨w.heap.size, 1, none⟩ = some (.string T) ∧ W.cell? ⟨w.heap.size, 2, none⟩ = some (.int .i64 t) ∧ SV W (.slice p k cap) k f ∧ SV W (.slice p2 m cap2) m g ∧ Below w.heap.size w W) (first | exact MkS.drew H2.out | exact MkS.next (by assumption) b99 | exact MkS.next (by assumption) b98 | exact MkS.next (by assumption) b97)
        (first
        | (go_at_call 9; ((refine (awake6 _ (HTab.out.below (MkS.bel (by assumption)))).mono ?_); rintro e w99 ⟨rfl, b99⟩))
        | (go_at_call 11; ((refine (values_any _ k f _ (MkS.sv (by assumption)) (by have := HK.out; omega)).mono ?_); rintro e w98 ⟨g98, c98, rfl, hg98, hs98, b98⟩))
        | (go_at_call 12; ((refine (rvalues_any _ k f _ (MkS.sv (by assumption)) (by have := HK.out; omega)).mono ?_); rintro e w97 ⟨q97, c97, rfl, hs97, hn97, b97⟩))
        | (go_at_call 10; ((refine (same_yes _ _ k f f _ _ _ (by first | exact hs98 | exact hs98.below b97) (by first | exact hs97 | exact hs97.below b98) (by have := HK.out; omega) (fun _ _ => rfl)).mono ?_); rintro e w99 ⟨rfl, b99⟩))
        | (go_at_call 13; ((refine (seed_any S _).mono ?_); rintro e w99 ⟨rfl, b99⟩))
        | (go_at_call 14; ((refine (rseed_any S _).mono ?_); rintro e w99 ⟨rfl, b99⟩))
        | (go_at_call 10; ((refine (same_yes _ _ 0 f f _ _ _ (SV.nil _ f) (SV.nil _ f) (by omega) (fun _ _ => rfl)).mono ?_); rintro e w99 ⟨rfl, b99⟩))
        | (go_at_call 15; ((refine (D1.out _ _ (MkS.svt (by assumption))).mono ?_); rintro e w99 ⟨rfl, b99⟩))
        | (go_at_call 16; ((refine (D2.out _ _ (MkS.svt (by assumption))).mono ?_); rintro e w99 ⟨rfl, b99⟩)))
      all_goals go_wp2
      all_goals go_ret
      all_goals exact ⟨rfl, MkS.bel (by assumption)⟩
end Go.Proofs.YtehbbghobagkjaaDoor
