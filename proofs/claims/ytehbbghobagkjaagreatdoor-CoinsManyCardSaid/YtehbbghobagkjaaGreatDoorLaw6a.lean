/-
  The examples of layer 6's statements hold.
-/
import Derived.Test.YtehbbghobagkjaaGreatDoorCoi11
import Derived.Deep.RegionHeld3
import Derived.Deep.DeepCutAuto
namespace Go.Proofs.YtehbbghobagkjaaGreatDoor
open Go.RowKit Go.Deep
set_option linter.unusedVariables false

theorem sv59 (w : World) : SV (w.alloc (.cells #[.string (E 5), .string (E 9)] 25)) (.slice (some ⟨w.heap.size, 0, none⟩) 2 2) 2 f59 :=
  SV.of_row (t := 25) (by
    rw [show (svC 2 f59).toArray = #[.string (E 5), .string (E 9)] from rfl]
    exact heap_alloc_last w _)
theorem sv0 (w : World) : SV (w.alloc (.cells #[.string (E 0)] 25)) (.slice (some ⟨w.heap.size, 0, none⟩) 1 1) 1 f0 :=
  SV.of_row (t := 25) (by
    rw [show (svC 1 f0).toArray = #[.string (E 0)] from rfl]
    exact heap_alloc_last w _)
/-- A tape of 5 and 9 in a variable. -/
def AwT (w : World) (b g c : Nat) (t : Int) (W : World) : Prop :=
  Below w.heap.size w W ∧ Three W b (.slice (some ⟨g, 0, none⟩) 2 c) (.string ⟨#[]⟩) (.int .i64 t) ∧ SV W (.slice (some ⟨g, 0, none⟩) 2 c) 2 f59
theorem AwT.next {w W V : World} {b g c : Nat} {t : Int} (h : AwT w b g c t W) (k : Below W.heap.size W V) : AwT w b g c t V := ⟨bel_of h.1 k, h.2.1.below k rfl, h.2.2.below k⟩
theorem AwT.drew {w W : World} {b g c : Nat} {t : Int} (h : AwT w b g c t W) : AwT w b g c t W.drew := ⟨h.1.drew, h.2.1, h.2.2⟩
theorem AwT.alloc {w W : World} {b g c : Nat} {t : Int} (h : AwT w b g c t W) (T : Obj) : AwT w b g c t (W.alloc T) := h.next (bel_alloc W T)
theorem AwT.set3 {w W : World} {b g c b' : Nat} {t : Int} (h : AwT w b g c t W) (h1 : b' ≠ b) (h2 : b' ≠ g) (hb : w.heap.size ≤ b') (x y z : Value) : AwT w b g c t (((W.setCell ⟨b', 0, none⟩ x).setCell ⟨b', 1, none⟩ y).setCell ⟨b', 2, none⟩ z) := by
  obtain ⟨k, ⟨q0, q1, q2, q3, q4, q5, q6⟩, hs⟩ := h
  refine ⟨Below.set3 k hb x y z, ⟨?_, ?_, ?_, ?_, ?_, ?_, ?_⟩, hs.set3 h2 x y z⟩
  · rw [World.cell?_setCell_far _ _ _ _ h1, World.cell?_setCell_far _ _ _ _ h1, World.cell?_setCell_far _ _ _ _ h1]; exact q0
  · rw [World.cell?_setCell_far _ _ _ _ h1, World.cell?_setCell_far _ _ _ _ h1, World.cell?_setCell_far _ _ _ _ h1]; exact q1
  · rw [World.cell?_setCell_far _ _ _ _ h1, World.cell?_setCell_far _ _ _ _ h1, World.cell?_setCell_far _ _ _ _ h1]; exact q2
  · simp [go_sem, q3]
  · simp [go_sem, q4]
  · simp [go_sem, q5]
  · simp only [World.size_setCell]; exact q6
/-- The tape behind a draw, in a variable that was there before the draw. -/
theorem AwT.of_set {w W : World} {b g c : Nat} {x y z : Value} {t : Int} (k : Below w.heap.size w W) (hT : Three W b x y z) (hs : SV W (.slice (some ⟨g, 0, none⟩) 2 c) 2 f59) (hb : w.heap.size ≤ b) (hg : b < g) :
    AwT w b g c t (((W.setCell ⟨b, 0, none⟩ (.slice (some ⟨g, 0, none⟩) 2 c)).setCell ⟨b, 1, none⟩ (.string ⟨#[]⟩)).setCell ⟨b, 2, none⟩ (.int .i64 t)) :=
  ⟨Below.set3 k hb _ _ _, hT.set3 _ _ _, hs.set3 (by omega) _ _ _⟩
theorem AwT.of_new {w W : World} {g c : Nat} {t : Int} (k : Below w.heap.size w W) (hs : SV W (.slice (some ⟨g, 0, none⟩) 2 c) 2 f59) (T : TypeId) :
    AwT w W.heap.size g c t (W.alloc (.cells #[.slice (some ⟨g, 0, none⟩) 2 c, .string ⟨#[]⟩, .int .i64 t] T)) :=
  ⟨bel_of k (bel_alloc W _), Three.new W _ _ _ T _ rfl, hs.below (bel_alloc W _)⟩
theorem AwT.lt {w W : World} {b g c : Nat} {t : Int} (h : AwT w b g c t W) : g < W.heap.size ∧ b < W.heap.size ∧ w.heap.size ≤ W.heap.size := by
  refine ⟨?_, h.2.1.2.2.2.2.2.2, h.1.size⟩
  obtain ⟨q, cc, e, hc⟩ := h.2.2
  obtain ⟨a, e1, e2, -⟩ := hc 0 (by omega)
  obtain rfl : some (⟨g, 0, none⟩ : Addr) = q := by cases e; rfl
  obtain rfl : (⟨g, 0, none⟩ : Addr) = a := Option.some.inj e1
  exact e2
/-- A variable for a tape. -/
def Box (W : World) (b : Nat) : Prop := Three W b (.slice none 0 0) (.string ⟨#[]⟩) (.int .i64 0)
theorem kc6 {w w' : World} {a : Addr} {v : Value} (b : Below w.heap.size w w') (h : w.cell? a = some v) : w'.cell? a = some v := by
  rw [b.cell (World.block_lt_of_cell? w a h), h]
theorem aw6k {w w1 w2 : World} {b y v : Nat} {s : Value} {b0 b1 b2 y0 y1 v2 : Value} (b99 : Below w1.heap.size w1 w2)
    (h : w1.cell? ⟨b, 0, none⟩ = some b0 ∧ w1.cell? ⟨b, 1, none⟩ = some b1 ∧ w1.cell? ⟨b, 2, none⟩ = some b2 ∧ w1.cell? ⟨y, 0, none⟩ = some y0 ∧ w1.cell? ⟨y, 1, none⟩ = some y1 ∧ w1.cell? ⟨v, 2, none⟩ = some v2 ∧ SV w1 s 2 f59 ∧ Below w.heap.size w w1) :
    w2.cell? ⟨b, 0, none⟩ = some b0 ∧ w2.cell? ⟨b, 1, none⟩ = some b1 ∧ w2.cell? ⟨b, 2, none⟩ = some b2 ∧ w2.cell? ⟨y, 0, none⟩ = some y0 ∧ w2.cell? ⟨y, 1, none⟩ = some y1 ∧ w2.cell? ⟨v, 2, none⟩ = some v2 ∧ SV w2 s 2 f59 ∧ Below w.heap.size w w2 := by
  obtain ⟨h0, h1, h2, h3, h4, h5, h6, k⟩ := h
  exact ⟨kc6 b99 h0, kc6 b99 h1, kc6 b99 h2, kc6 b99 h3, kc6 b99 h4, kc6 b99 h5, h6.below b99, bel_of k b99⟩
theorem aw6sv {w w1 : World} {b y v : Nat} {s : Value} {b0 b1 b2 y0 y1 v2 : Value}
    (h : w1.cell? ⟨b, 0, none⟩ = some b0 ∧ w1.cell? ⟨b, 1, none⟩ = some b1 ∧ w1.cell? ⟨b, 2, none⟩ = some b2 ∧ w1.cell? ⟨y, 0, none⟩ = some y0 ∧ w1.cell? ⟨y, 1, none⟩ = some y1 ∧ w1.cell? ⟨v, 2, none⟩ = some v2 ∧ SV w1 s 2 f59 ∧ Below w.heap.size w w1) : SV w1 s 2 f59 := h.2.2.2.2.2.2.1
theorem aw6l {w w1 : World} {b y v : Nat} {s : Value} {b0 b1 b2 y0 y1 v2 : Value}
    (h : w1.cell? ⟨b, 0, none⟩ = some b0 ∧ w1.cell? ⟨b, 1, none⟩ = some b1 ∧ w1.cell? ⟨b, 2, none⟩ = some b2 ∧ w1.cell? ⟨y, 0, none⟩ = some y0 ∧ w1.cell? ⟨y, 1, none⟩ = some y1 ∧ w1.cell? ⟨v, 2, none⟩ = some v2 ∧ SV w1 s 2 f59 ∧ Below w.heap.size w w1) : Below w.heap.size w w1 := h.2.2.2.2.2.2.2
set_option maxHeartbeats 8000000 in
set_option maxRecDepth 100000 in
theorem awake6 (w : World) (htab : TabW w) : Calls Tryz.prog 7 #[] w fun e w' => e = .returned (.bool true) ∧ Below w.heap.size w w' := by
  have HTab := Lib.hid htab
  clear htab
  go_enter Tryz.func7, Tryz.ntmps7
  go_wp2_with fail
  refine (of_any 5 _ (by omega)).mono ?_; rintro e w1 ⟨rfl, b1⟩
  go_wp2_with fail
  refine (of_any 9 _ (by omega)).mono ?_; rintro e w2 ⟨rfl, b2⟩
  have HB3 := Lib.hid (bel_of (bel_of b1 b2) (bel_alloc w2 (.cells #[.string (E 5), .string (E 9)] 25)))
  have HV3 := Lib.hid (sv59 w2)
  clear b1 b2
  go_wp2_with fail
  refine (values_any _ 2 f59 _ HV3.out (by omega)).mono ?_; rintro e w4 ⟨g4, c4, rfl, hg4, hs4, b4⟩
  have b5 := bel_alloc w4 (.cells #[.slice (some ⟨g4, 0, none⟩) 2 c4, .string ⟨#[]⟩, .int .i64 0] 24)
  have HA := Lib.hid (show AwT w w4.heap.size g4 c4 0 (w4.alloc (.cells #[.slice (some ⟨g4, 0, none⟩) 2 c4, .string ⟨#[]⟩, .int .i64 0] 24)).drew from
    AwT.drew ⟨bel_of (bel_of HB3.out b4) b5, Three.new w4 (.slice (some ⟨g4, 0, none⟩) 2 c4) (.string ⟨#[]⟩) (.int .i64 0) 24 _ rfl, hs4.below b5⟩)
  obtain ⟨B1, hB1⟩ : ∃ B1, B1 = w4.heap.size := ⟨_, rfl⟩
  have hl0 : g4 < w4.heap.size + 1 := Nat.lt_of_lt_of_eq (AwT.lt HA.out).1 (World.size_alloc _ _)
  have hw0 : w.heap.size ≤ w4.heap.size := (bel_of HB3.out b4).size
  clear HB3 HV3 hg4 hs4 b4 b5
  go_upto_region 2 with fail
  go_cut [2, 3, 4] (fun x u e wx => ∃ b g c : Nat, x = .string (E 5) ∧ u = .pointer (some ⟨b, 0, none⟩) ∧ e = .int .i64 0 ∧ AwT w b g c 1 wx ∧ AwT w w4.heap.size g4 c4 0 wx)
  case first =>
    obtain ⟨-, ⟨q0, q1, q2, q3, q4, q5, q6⟩, -⟩ := HA.out
    go_region_with (first
      | (go_at_call 17; refine (of_any 10 _ (by omega)).mono ?_; rintro e w6 ⟨rfl, b6⟩; have HA6 := Lib.hid (AwT.next (by first | exact HA.out | exact HA.out.alloc _) b6); first | (have HX6 := Lib.hid ((Three.new (w4.alloc (.cells #[.slice (some ⟨g4, 0, none⟩) 2 c4, .string ⟨#[]⟩, .int .i64 0] 24)).drew (.slice none 0 0) (.string ⟨#[]⟩) (.int .i64 0) 24 (w4.heap.size + 1) ((World.size_alloc _ _).symm)).below b6 rfl); clear b6; obtain ⟨x0, x1, x2, x3, x4, x5, x6⟩ := HX6.out; obtain ⟨-, ⟨r0, r1, r2, r3, r4, r5, r6⟩, -⟩ := HA6.out) | (clear b6; obtain ⟨-, ⟨r0, r1, r2, r3, r4, r5, r6⟩, -⟩ := HA6.out))
      | (go_at_call 8; refine (ex_below10 _ _ (by first | exact HA6.out.2.2 | exact (HA6.out.alloc _).2.2) (HTab.out.below (by first | exact HA6.out.1 | exact (HA6.out.alloc _).1))).mono ?_; rintro e w7 ⟨g7, c7, rfl, hg7, hs7, b7⟩; have HA7 := Lib.hid (AwT.next (by first | exact HA6.out | exact HA6.out.alloc _) b7); have HS7 := Lib.hid hs7; have HG7 := Lib.hid hg7; first | (have HX7 := Lib.hid (HX6.out.below b7 rfl); obtain ⟨y0, y1, y2, y3, y4, y5, y6⟩ := HX7.out; clear b7 hs7 hg7) | (have HX7 := Lib.hid ((Three.new w6 (.slice none 0 0) (.string ⟨#[]⟩) (.int .i64 0) 24 _ rfl).below b7 rfl); obtain ⟨y0, y1, y2, y3, y4, y5, y6⟩ := HX7.out; clear b7 hs7 hg7) | (clear b7 hs7 hg7)))
    all_goals go_wp2_with fail
    all_goals go_meet
    all_goals have l6 := AwT.lt HA6.out
    all_goals have lg := HG7.out
    all_goals try simp only [World.size_alloc] at lg
    all_goals first
      | exact ⟨_, g7, c7, rfl, rfl, rfl, AwT.of_new HA7.out.1 HS7.out _, HA7.out.alloc _⟩
      | (have lx := HX6.out.2.2.2.2.2.2; exact ⟨_, g7, c7, rfl, rfl, rfl, AwT.of_set HA7.out.1 HX7.out HS7.out (by omega) (by omega), HA7.out.set3 (by omega) (by omega) (by omega) _ _ _⟩)
      | exact ⟨_, g7, c7, rfl, rfl, rfl, AwT.of_set HA7.out.1 HX7.out HS7.out (by omega) (by omega), HA7.out.set3 (by omega) (by omega) (by omega) _ _ _⟩
  case rest =>
    obtain ⟨bu, gu, cu, rfl, rfl, rfl, ku, ka⟩ := hcut
    have HU := Lib.hid (AwT.drew ku)
    have HA2 := Lib.hid (AwT.drew ka)
    have HA0 := Lib.hid ka
    clear ku ka HA hl0
    go_upto_region 3 with fail
    go_cut [5, 6, 7] (fun x u e wx => e = .int .i64 2 ∧ AwT w bu gu cu 1 wx)
    case first =>
      obtain ⟨-, ⟨q0, q1, q2, q3, q4, q5, q6⟩, -⟩ := HA0.out
      have hlu := AwT.lt HU.out
      have hla := AwT.lt HA2.out
      have n0 : ¬ w4.heap.size = wc.heap.size := Nat.ne_of_lt hla.2.1
      have n1 : ¬ wc.heap.size = w4.heap.size := Ne.symm n0
      have l0 : w4.heap.size < wc.heap.size := hla.2.1
      go_region_with (first
        | (go_at_call 17; refine (of_any 5 _ (by omega)).mono ?_; rintro e w6 ⟨rfl, b6⟩; have HA6 := Lib.hid (AwT.next (by first | exact HA2.out | exact HA2.out.alloc _) b6); have HU6 := Lib.hid (AwT.next (by first | exact HU.out | exact HU.out.alloc _) b6); first | (have HX6 := Lib.hid ((Three.new wc.drew (.slice none 0 0) (.string ⟨#[]⟩) (.int .i64 0) 24 wc.heap.size rfl).below b6 rfl); clear b6; obtain ⟨x0, x1, x2, x3, x4, x5, x6⟩ := HX6.out; obtain ⟨-, ⟨r0, r1, r2, r3, r4, r5, r6⟩, -⟩ := HA6.out) | (clear b6; obtain ⟨-, ⟨r0, r1, r2, r3, r4, r5, r6⟩, -⟩ := HA6.out); have n2 : ¬ w4.heap.size = w6.heap.size := Nat.ne_of_lt r6; have n3 : ¬ w6.heap.size = w4.heap.size := Ne.symm n2)
        | (go_at_call 8; refine (ex_below5 _ _ (by first | exact HA6.out.2.2 | exact (HA6.out.alloc _).2.2) (HTab.out.below (by first | exact HA6.out.1 | exact (HA6.out.alloc _).1))).mono ?_; rintro e w7 ⟨rfl, b7⟩; have HU7 := Lib.hid (AwT.next (by first | exact HU6.out | exact HU6.out.alloc _) b7); first | (have HX7 := Lib.hid (HX6.out.below b7 rfl); obtain ⟨y0, y1, y2, y3, y4, y5, y6⟩ := HX7.out; clear b7) | (have HX7 := Lib.hid ((Three.new w6 (.slice none 0 0) (.string ⟨#[]⟩) (.int .i64 0) 24 _ rfl).below b7 rfl); obtain ⟨y0, y1, y2, y3, y4, y5, y6⟩ := HX7.out; clear b7) | (clear b7)))
      all_goals go_wp2_with fail
      all_goals go_meet
      all_goals have l6 := AwT.lt HU6.out
      all_goals first
        | exact ⟨rfl, HU7.out.alloc _⟩
        | exact ⟨rfl, HU7.out.set3 (by omega) (by omega) (by omega) _ _ _⟩
        | (have z : wc.drew.heap.size = wc.heap.size := rfl; exact ⟨rfl, HU7.out.set3 (by omega) (by omega) (by omega) _ _ _⟩)
    case rest =>
      obtain ⟨rfl, ku⟩ := hcut
      have HU2 := Lib.hid ku
      clear ku HU HA2 HA0
      go_wp2_with fail
      refine (of_any 0 _ (by omega)).mono ?_; rintro e w5 ⟨rfl, b5⟩
      have b5' := bel_alloc w5 (.cells #[.string (E 0)] 25)
      have HU5 := Lib.hid ((HU2.out.next b5).next b5')
      have V5 := Lib.hid (sv0 w5)
      clear b5 b5' HU2
      go_wp2_with fail
      refine (values_any _ 1 f0 _ V5.out (by omega)).mono ?_; rintro e w6 ⟨g6, c6, rfl, hg6, hs6, b6⟩
      have HU6 := Lib.hid (HU5.out.next b6)
      have V6 := Lib.hid hs6
      clear hg6 hs6 b6 HU5 V5
      go_wp2_with fail
      refine (of_any 3 _ (by omega)).mono ?_; rintro e w7 ⟨rfl, b7⟩
      have HU7 := Lib.hid (HU6.out.next b7)
      have V7 := Lib.hid (V6.out.below b7)
      clear b7 HU6 V6
      go_wp2_with fail
      refine (ex_signed _ _ V7.out (HTab.out.below HU7.out.1)).mono ?_; rintro e w8 ⟨g8, c8, rfl, hg8, hs8, b8⟩
      have d1 := bel_alloc w8 (.cells #[.bool true, .string ⟨#[2]⟩] 36)
      have d2 := bel_alloc (w8.alloc (.cells #[.bool true, .string ⟨#[2]⟩] 36)) (.cells #[.slice (some ⟨g8, 0, none⟩) 1 c8, .string ⟨#[]⟩, .int .i64 1] 24)
      have HU8 := Lib.hid (((HU7.out.next b8).next d1).next d2)
      have HY8 := Lib.hid (Two.below (Two.new w8 (.bool true) (.string ⟨#[2]⟩) 36 _ rfl) d2 rfl)
      clear hg8 hs8 b8 d1 d2 HU7 V7
      go_wp2_with fail
      refine (seed_any seedB _).mono ?_; rintro e w9 ⟨rfl, b9⟩
      have HU9 := Lib.hid (HU8.out.next b9)
      have HY9 := Lib.hid (Two.below HY8.out b9 rfl)
      clear b9 HU8 HY8
      go_wp2_with fail
      refine (of_any 1 _ (by omega)).mono ?_; rintro e w10 ⟨rfl, b10⟩
      have HU10 := Lib.hid (HU9.out.next b10)
      have HY10 := Lib.hid (Two.below HY9.out b10 rfl)
      clear b10 HU9 HY9
      go_wp2_with fail
      refine (ex_seed _ (HTab.out.below HU10.out.1)).mono ?_; rintro e w11 ⟨g11, c11, rfl, hg11, hs11, b11⟩
      have d3 := bel_alloc w11 (.cells #[.slice (some ⟨g11, 0, none⟩) 0 c11, .string seedB, .int .i64 1] 24)
      have HU11 := Lib.hid ((HU10.out.next b11).next d3)
      have HY11 := Lib.hid (Two.below (Two.below HY10.out b11 rfl) d3 rfl)
      have HV11 := Lib.hid (Three.new w11 (.slice (some ⟨g11, 0, none⟩) 0 c11) (.string seedB) (.int .i64 1) 24 _ rfl)
      clear hg11 hs11 b11 d3 HU10 HY10
      obtain ⟨kb, ⟨u0, u1, u2, u3, u4, u5, u6⟩, us⟩ := HU11.out
      obtain ⟨y0, y1, y2, y3, y4⟩ := HY11.out
      obtain ⟨v0, v1, v2, v3, v4, v5, v6⟩ := HV11.out
      have KB := Lib.hid kb
      have US := Lib.hid us
      clear kb us HU11 HY11 HV11 u3 u4 u5 u6 y2 y3 y4 v0 v1 v3 v4 v5 v6
      go_wp2_with fail
      go_region_held3 (fun w' => w'.cell? ⟨bu, 0, none⟩ = some (.slice (some ⟨gu, 0, none⟩) 2 cu) ∧ w'.cell? ⟨bu, 1, none⟩ = some (.string ⟨#[]⟩) ∧ w'.cell? ⟨bu, 2, none⟩ = some (.int .i64 1) ∧ w'.cell? ⟨w8.heap.size, 0, none⟩ = some (.bool true) ∧ w'.cell? ⟨w8.heap.size, 1, none⟩ = some (.string ⟨#[2]⟩) ∧ w'.cell? ⟨w11.heap.size, 2, none⟩ = some (.int .i64 1) ∧ SV w' (.slice (some ⟨gu, 0, none⟩) 2 cu) 2 f59 ∧ Below w.heap.size w w') (first | exact ⟨u0, u1, u2, y0, y1, v2, US.out, KB.out.drew⟩ | exact aw6k b99 (by assumption))
        (first
        | (go_at_call 17; ((refine (of_any 5 _ (by omega)).mono ?_); rintro e w99 ⟨rfl, b99⟩))
        | (go_at_call 19; ((refine (ex_left _ _ (aw6sv (by assumption))).mono ?_); rintro e w99 ⟨rfl, b99⟩))
        | (go_at_call 20; ((refine (ex_of2 _).mono ?_); rintro e w99 ⟨rfl, b99⟩)))
      go_wp2
      go_ret
      exact ⟨rfl, aw6l (by assumption)⟩
end Go.Proofs.YtehbbghobagkjaaGreatDoor
