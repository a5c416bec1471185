/-
  Layer 4's statements: slices.Equal, the chapter's examples.
-/
import Derived.Test.YtfokiokcofabcaaDoorPri8
namespace Go.Proofs.YtfokiokcofabcaaDoor
open Go.RowKit Go.Deep
set_option linter.unusedVariables false

set_option maxHeartbeats 1000000 in
set_option maxRecDepth 20000 in
theorem equal_same (v1 v2 : Value) (k : Nat) (f : Nat → ByteArray) (w : World) (h1 : StrsV w v1 k f) (h2 : StrsV w v2 k f) (hk : k ≤ 100000) :
    Calls Tryd.prog 26 #[v1, v2] w fun e w' => e = .returned (.bool true) ∧ Below w.heap.size w w' := by
  obtain ⟨p1, c1, rfl, hc1⟩ := h1
  obtain ⟨p2, c2, rfl, hc2⟩ := h2
  have H1 := Lib.hid hc1; clear hc1
  have H2 := Lib.hid hc2; clear hc2
  go_enter Tryd.func26, Tryd.ntmps26
  go_wp2
  go_loopw [13] (fun v wr => ∃ i : Nat, i ≤ k ∧ v = .int .i64 i ∧ ∃ q, wr = w.drewN q) (fun v _ => k - (intOf v).toNat)
  case atStart => exact ⟨0, by omega, rfl, 0, rfl⟩
  case round =>
    obtain ⟨i, hi, rfl, q, rfl⟩ := hrel
    by_cases hlt : i < k
    · obtain ⟨g1, rfl, hg1, hcell1⟩ := H1.out i hlt
      obtain ⟨g2, rfl, hg2, hcell2⟩ := H2.out i hlt
      have hlti : (i : Int) < (k : Int) := by omega
      go_wp2
      go_quiet (fail)
      go_wp2
      go_roundw
      case rel => exact ⟨i + 1, by omega, by go_num, _, rfl⟩
      case measure => simp [intOf]; omega
    · obtain rfl : i = k := by omega
      go_wp2
      go_ret
      exact ⟨rfl, below_d4 (Below.refl _ _) _⟩

/-! ### The chapter's examples -/
theorem pr97 : QR.Pr 97 := QR.trial (k := 8) (by decide) (by decide) (by decide +kernel)
theorem ex4_is97 (w : World) : Calls Tryd.prog 13 #[.string (E 97)] w fun e w' => e = .returned (.tuple #[.bool true, .int .i64 0]) ∧ Below w.heap.size w w' := by
  refine (is_yes 97 w (by omega)).mono ?_
  rintro e w' ⟨⟨b, rfl, hb⟩, hw⟩
  obtain rfl : b = true := hb.mpr (QR.prime_StrongOk pr97 _)
  exact ⟨rfl, hw⟩
theorem ex4_is91 (w : World) : Calls Tryd.prog 13 #[.string (E 91)] w fun e w' => e = .returned (.tuple #[.bool false, .int .i64 0]) ∧ Below w.heap.size w w' := by
  refine (is_yes 91 w (by omega)).mono ?_
  rintro e w' ⟨⟨b, rfl, hb⟩, hw⟩
  have h : ¬ QR.StrongOk 91 QR.first12 := QR.divisor_not (l := 7) (by omega) ⟨13, rfl⟩ (by omega) (by decide) (by omega)
  cases b with
  | true => exact absurd (hb.mp rfl) h
  | false => exact ⟨rfl, hw⟩
theorem pass2 : QR.PassN 2047 2 := (QR.PassN_iff (s := 1) (d := 1023) rfl rfl).mpr (.inr (.inl (by decide +kernel)))
theorem pass3 : ¬ QR.PassN 2047 3 := by
  rw [QR.PassN_iff (s := 1) (d := 1023) rfl rfl]
  rintro (h | h | ⟨i, hi, h⟩)
  · exact absurd h (by decide +kernel)
  · exact absurd h (by decide +kernel)
  · obtain rfl : i = 0 := by omega
    exact absurd h (by decide +kernel)
theorem lim2047 : 2047 < Lim := small_lim (by omega)
theorem ex4_strong2 (w : World) : Calls Tryd.prog 16 #[.string (E 2047), .string (E 2)] w fun e w' => e = .returned (.tuple #[.bool true, .int .i64 0]) ∧ Below w.heap.size w w' := by
  refine (pstrong_yes 2047 (E 2) w lim2047 (can_E' (small_lim (by omega)))).mono ?_
  rintro e w' ⟨⟨b, rfl, hb⟩, hw⟩
  obtain rfl : b = true := hb.mpr (.inr ⟨by omega, by omega, fun j hj => by rw [V_E]; exact pass2⟩)
  exact ⟨rfl, hw⟩
theorem ex4_strong3 (w : World) : Calls Tryd.prog 16 #[.string (E 2047), .string (E 3)] w fun e w' => e = .returned (.tuple #[.bool false, .int .i64 0]) ∧ Below w.heap.size w w' := by
  refine (pstrong_yes 2047 (E 3) w lim2047 (can_E' (small_lim (by omega)))).mono ?_
  rintro e w' ⟨⟨b, rfl, hb⟩, hw⟩
  cases b with
  | true =>
    rcases hb.mp rfl with h | ⟨_, _, h⟩
    · omega
    · have := h 0 (by omega)
      rw [V_E] at this
      exact absurd this pass3
  | false => exact ⟨rfl, hw⟩
theorem even_not {n : Nat} (h : n % 2 = 0) (h2 : n ≠ 2) {L : List Nat} : ¬ QR.StrongOk n L := by
  rintro (q | ⟨q, _⟩) <;> omega
theorem e17 : E 17 = ⟨#[17]⟩ := by kernel_rfl
theorem ex4_next (w : World) : Calls Tryd.prog 19 #[.string (E 13)] w fun e w' => e = .returned (.tuple #[.string ⟨#[17]⟩, .int .i64 0]) ∧ Below w.heap.size w w' := by
  refine (next_yes 13 w (by omega)).mono ?_
  rintro e w' ⟨⟨v, rfl, hv⟩, hw⟩
  have h17 : QR.StrongOk 17 QR.first12 := QR.prime_StrongOk QR.pr17 _
  rcases hv with ⟨m, h1, h2, h3, h4, rfl⟩ | ⟨h4, rfl⟩
  · have hm : m = 14 ∨ m = 15 ∨ m = 16 ∨ m = 17 ∨ 17 < m := by omega
    rcases hm with rfl | rfl | rfl | rfl | h
    · exact absurd h3 (even_not (by omega) (by omega))
    · exact absurd h3 (QR.divisor_not (l := 3) (by omega) ⟨5, rfl⟩ (by omega) (by decide) (by omega))
    · exact absurd h3 (even_not (by omega) (by omega))
    · rw [e17]; exact ⟨rfl, hw⟩
    · exact absurd h17 (h4 17 (by omega) h)
  · exact absurd h17 (h4 17 (by omega) (by omega))
theorem ex4_safe23 (w : World) : Calls Tryd.prog 22 #[.string (E 23)] w fun e w' => e = .returned (.tuple #[.bool true, .int .i64 0]) ∧ Below w.heap.size w w' := by
  refine (safe_yes 23 w (by omega)).mono ?_
  rintro e w' ⟨⟨b, rfl, hb⟩, hw⟩
  obtain rfl : b = true := hb.mpr ⟨QR.prime_StrongOk QR.pr23 _, QR.prime_StrongOk QR.pr11 _⟩
  exact ⟨rfl, hw⟩
theorem ex4_safe13 (w : World) : Calls Tryd.prog 22 #[.string (E 13)] w fun e w' => e = .returned (.tuple #[.bool false, .int .i64 0]) ∧ Below w.heap.size w w' := by
  refine (safe_yes 13 w (by omega)).mono ?_
  rintro e w' ⟨⟨b, rfl, hb⟩, hw⟩
  cases b with
  | true => exact absurd (hb.mp rfl).2 (even_not (by omega) (by omega))
  | false => exact ⟨rfl, hw⟩
theorem facs360 : QR.facs 360 = [2, 2, 2, 3, 3, 5] := by decide +kernel
def F360 (j : Nat) : ByteArray := E ([2, 2, 2, 3, 3, 5].getD j 0)
def Fac360 (w : World) (e : Ending) (w' : World) : Prop := ∃ p cap, e = .returned (.tuple #[.slice p 6 cap, .int .i64 0]) ∧ StrsV w' (.slice p 6 cap) 6 F360 ∧ Below w.heap.size w w'
theorem ex4_fac (w : World) : Calls Tryd.prog 24 #[.string (E 360)] w fun e w' => Fac360 w e w' := by
  refine (pfac_yes 360 w (by omega) (by omega)).mono ?_
  rintro e w' ⟨v, rfl, hv, hw⟩
  rw [facs360] at hv
  obtain ⟨p, cap, rfl, h⟩ := hv
  exact ⟨p, cap, rfl, ⟨p, cap, rfl, h⟩, hw⟩
def big9 : ByteArray := ⟨#[1, 0, 0, 0, 0, 0, 0, 0, 0]⟩
theorem ex4_long (w : World) : Calls Tryd.prog 13 #[.string ⟨#[1, 0, 0, 0, 0, 0, 0, 0, 0]⟩] w fun e w' => e = .returned (.tuple #[.bool false, .int .i64 5]) ∧ w = w' :=
  is_long big9 w ⟨by decide, by show can [1, 0, 0, 0, 0, 0, 0, 0, 0]; unfold can; decide⟩ (by decide)
theorem lit360 (w : World) (t : TypeId) : StrsV (w.alloc (.cells #[.string ⟨#[2]⟩, .string ⟨#[2]⟩, .string ⟨#[2]⟩, .string ⟨#[3]⟩, .string ⟨#[3]⟩, .string ⟨#[5]⟩] t)) (.slice (some ⟨w.heap.size, 0, none⟩) 6 6) 6 F360 := by
  refine ⟨_, _, rfl, fun j hj => ⟨w.heap.size, rfl, by rw [World.size_alloc]; omega, ?_⟩⟩
  have h := World.rowIs_alloc w #[.string ⟨#[2]⟩, .string ⟨#[2]⟩, .string ⟨#[2]⟩, .string ⟨#[3]⟩, .string ⟨#[3]⟩, .string ⟨#[5]⟩] t (fun i => .string (F360 i)) (fun i hi => by
    have h : i = 0 ∨ i = 1 ∨ i = 2 ∨ i = 3 ∨ i = 4 ∨ i = 5 := by simp at hi; omega
    rcases h with rfl | rfl | rfl | rfl | rfl | rfl
    all_goals (show _ = _; kernel_rfl))
  exact h.cell hj
set_option maxHeartbeats 4000000 in
set_option maxRecDepth 100000 in
theorem awake4 (w : World) : Calls Tryd.prog 12 #[] w fun e w' => e = .returned (.bool true) ∧ Below w.heap.size w w' := by
  go_enter Tryd.func12, Tryd.ntmps12
  go_wp2_with fail
  refine (rof4_any 97 _ (by omega)).mono ?_; rintro e w1 ⟨rfl, b1⟩
  have B1 := Lib.hid b1; clear b1
  go_wp2_with fail
  refine (ex4_is97 _).mono ?_; rintro e w2 ⟨rfl, b2⟩
  have B2 := Lib.hid (bnext B1.out b2); clear b2
  go_wp2_with fail
  refine (rof4_any 91 _ (by omega)).mono ?_; rintro e w3 ⟨rfl, b3⟩
  have B3 := Lib.hid (bnext B2.out b3); clear b3
  go_wp2_with fail
  refine (ex4_is91 _).mono ?_; rintro e w4 ⟨rfl, b4⟩
  have B4 := Lib.hid (bnext B3.out b4); clear b4
  go_wp2_with fail
  refine (rof4_any 2047 _ (by omega)).mono ?_; rintro e w5 ⟨rfl, b5⟩
  have B5 := Lib.hid (bnext B4.out b5); clear b5
  go_wp2_with fail
  refine (rof4_any 2 _ (by omega)).mono ?_; rintro e w6 ⟨rfl, b6⟩
  have B6 := Lib.hid (bnext B5.out b6); clear b6
  go_wp2_with fail
  refine (ex4_strong2 _).mono ?_; rintro e w7 ⟨rfl, b7⟩
  have B7 := Lib.hid (bnext B6.out b7); clear b7
  go_wp2_with fail
  refine (rof4_any 2047 _ (by omega)).mono ?_; rintro e w8 ⟨rfl, b8⟩
  have B8 := Lib.hid (bnext B7.out b8); clear b8
  go_wp2_with fail
  refine (rof4_any 3 _ (by omega)).mono ?_; rintro e w9 ⟨rfl, b9⟩
  have B9 := Lib.hid (bnext B8.out b9); clear b9
  go_wp2_with fail
  refine (ex4_strong3 _).mono ?_; rintro e w10 ⟨rfl, b10⟩
  have B10 := Lib.hid (bnext B9.out b10); clear b10
  go_wp2_with fail
  refine (rof4_any 13 _ (by omega)).mono ?_; rintro e w11 ⟨rfl, b11⟩
  have B11 := Lib.hid (bnext B10.out b11); clear b11
  go_wp2_with fail
  refine (ex4_next _).mono ?_; rintro e w12 ⟨rfl, b12⟩
  have B12 := Lib.hid (bnext B11.out b12); clear b12
  go_wp2_with fail
  refine (rof4_any 23 _ (by omega)).mono ?_; rintro e w13 ⟨rfl, b13⟩
  have B13 := Lib.hid (bnext B12.out b13); clear b13
  go_wp2_with fail
  refine (ex4_safe23 _).mono ?_; rintro e w14 ⟨rfl, b14⟩
  have B14 := Lib.hid (bnext B13.out b14); clear b14
  go_wp2_with fail
  refine (rof4_any 13 _ (by omega)).mono ?_; rintro e w15 ⟨rfl, b15⟩
  have B15 := Lib.hid (bnext B14.out b15); clear b15
  go_wp2_with fail
  refine (ex4_safe13 _).mono ?_; rintro e w16 ⟨rfl, b16⟩
  have B16 := Lib.hid (bnext B15.out b16); clear b16
  go_wp2_with fail
  refine (rof4_any 360 _ (by omega)).mono ?_; rintro e w17 ⟨rfl, b17⟩
  have B17 := Lib.hid (bnext B16.out b17); clear b17
  go_wp2_with fail
  refine (ex4_fac _).mono ?_; rintro e w18 ⟨p, cap, rfl, hs, b18⟩
  have B18 := Lib.hid (bnext B17.out b18); clear b18
  have HS := Lib.hid hs; clear hs
  go_wp2_with fail
  refine (ex4_long _).mono ?_; rintro e wx ⟨rfl, rfl⟩
  have HL := Lib.hid (lit360 w18 22)
  have hb := (Below.refl w18.heap.size w18).alloc (Nat.le_refl _) (.cells #[.string ⟨#[2]⟩, .string ⟨#[2]⟩, .string ⟨#[2]⟩, .string ⟨#[3]⟩, .string ⟨#[3]⟩, .string ⟨#[5]⟩] 22)
  have HS2 := Lib.hid (HS.out.below hb)
  have BB := Lib.hid (bnext B18.out hb); clear hb
  go_wp2_with fail
  refine (equal_same _ _ 6 F360 _ HS2.out HL.out (by omega)).mono ?_; rintro e wz ⟨rfl, bz⟩
  have BLAST := Lib.hid (bnext BB.out bz); clear bz
  go_wp2
  go_ret
  exact ⟨rfl, BLAST.out⟩
end Go.Proofs.YtfokiokcofabcaaDoor
