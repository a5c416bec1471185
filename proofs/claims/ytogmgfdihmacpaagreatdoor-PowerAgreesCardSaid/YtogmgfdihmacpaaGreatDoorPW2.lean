/-
  Groups of unknown order: rsagroup.isGroup, rsagroup.Has. Well-formed groups: power.isUnknown, isKnown, Check.
-/
import Derived.Test.YtogmgfdihmacpaaGreatDoorPW1
namespace Go.Proofs.YtogmgfdihmacpaaGreatDoor
open Go.RowKit
set_option linter.unusedVariables false

theorem valid_yesB (s : ByteArray) (w : World) (h : Can s) : Calls Tryz.prog 34 #[.string s] w fun e w' => e = .returned (.bool true) ∧ Below w.heap.size w w' := (valid_yes s w h).mono fun _ _ => same_belowP
theorem valid_noB (s : ByteArray) (w : World) (h : ¬ Can s) : Calls Tryz.prog 34 #[.string s] w fun e w' => e = .returned (.bool false) ∧ Below w.heap.size w w' := (valid_no s w h).mono fun _ _ => same_belowP
theorem cmp_yesB (s t : ByteArray) (w : World) (hs : Can s) (ht : Can t) : Calls Tryz.prog 61 #[.string s, .string t] w fun e w' => e = .returned (.int .i64 (sgn (V s) (V t))) ∧ Below w.heap.size w w' := (cmp_yes s t w hs ht).mono fun _ _ => same_belowP
theorem bit_yesB (s : ByteArray) (i : Nat) (w : World) (h : Can s) (hi : i ≤ 9223372036854775807) : Calls Tryz.prog 63 #[.string s, .int .i64 i] w fun e w' => e = .returned (.bool ((V s).testBit i)) ∧ Below w.heap.size w w' := (bit_yes s i w h hi).mono fun _ _ => same_belowP
/-- Two cells of a variable of the call's own, and nothing that was there has turned. -/
abbrev GrS (w : World) (g : Nat) (c0 c1 : Value) (W : World) : Prop := W.cell? ⟨g, 0, none⟩ = some c0 ∧ W.cell? ⟨g, 1, none⟩ = some c1 ∧ W.frozen? ⟨g, 0, none⟩ = false ∧ W.frozen? ⟨g, 1, none⟩ = false ∧ g < W.heap.size ∧ Below w.heap.size w W
theorem GrS.two {w W : World} {g : Nat} {c0 c1 : Value} (h : GrS w g c0 c1 W) : Two W g c0 c1 := ⟨h.1, h.2.1, h.2.2.1, h.2.2.2.1, h.2.2.2.2.1⟩
theorem GrS.bel {w W : World} {g : Nat} {c0 c1 : Value} (h : GrS w g c0 c1 W) : Below w.heap.size w W := h.2.2.2.2.2
theorem GrS.mk_ {w W : World} {g : Nat} {c0 c1 : Value} (h : Two W g c0 c1) (b : Below w.heap.size w W) : GrS w g c0 c1 W := ⟨h.1, h.2.1, h.2.2.1, h.2.2.2.1, h.2.2.2.2, b⟩
theorem GrS.next {w W W' : World} {g : Nat} {c0 c1 : Value} (h : GrS w g c0 c1 W) (b : Below W.heap.size W W') : GrS w g c0 c1 W' := GrS.mk_ (h.two.below b rfl) (belP h.bel b)
theorem GrS.drew {w W : World} {g : Nat} {c0 c1 : Value} (h : GrS w g c0 c1 W) : GrS w g c0 c1 W.drew := h.next (Below.refl _ _).drew
theorem GrS.new (w : World) (c0 c1 : Value) (T : TypeId) : GrS w w.heap.size c0 c1 (w.alloc (.cells #[c0, c1] T)) := GrS.mk_ (Two.new w c0 c1 T _ rfl) (belA w _)

/-- The form of a group of unknown order. -/
def FormU (M : ByteArray) : Prop := V M % 2 = 1 ∧ 8 < V M
theorem formU_bit {M : ByteArray} (h : V M % 2 = 1) : (V M).testBit 0 = true := by rw [Nat.testBit_zero, decide_eq_true h]
theorem formU_bit0 {M : ByteArray} (h : ¬ V M % 2 = 1) : (V M).testBit 0 = false := by rw [Nat.testBit_zero, decide_eq_false h]
theorem e8_can : Can (E 8) := can_E' (small_lim (by omega))
theorem e1_can : Can (E 1) := can_E' (small_lim (by omega))
theorem of8 (w : World) : Calls Tryz.prog 28 #[.int .u64 8] w fun e w' => e = .returned (.string (E 8)) ∧ Below w.heap.size w w' := of_any 8 w (by omega)
theorem of1 (w : World) : Calls Tryz.prog 28 #[.int .u64 1] w fun e w' => e = .returned (.string (E 1)) ∧ Below w.heap.size w w' := of_any 1 w (by omega)
theorem sgnP_gt {a b : Nat} (h : b < a) : 0 < sgn a b := by unfold sgn; rw [if_neg (by omega), if_pos h]; omega
theorem sgn_le {a b : Nat} (h : a ≤ b) : ¬ 0 < sgn a b := by unfold sgn; split <;> (first | omega | (split <;> omega))

set_option maxHeartbeats 1000000 in
set_option maxRecDepth 20000 in
theorem isunk_t (M Q : ByteArray) (w : World) (hM : Can M) (h : FormU M) :
    Calls Tryz.prog 36 #[.agg #[.string M, .string Q]] w fun e w' => e = .returned (.bool true) ∧ Below w.heap.size w w' := by
  have hb := formU_bit h.1
  obtain ⟨y, hy⟩ : ∃ y, y = sgn (V M) 8 := ⟨_, rfl⟩
  have CC := Lib.hid (fun W => (show Calls Tryz.prog 61 #[.string M, .string (E 8)] W fun e w' => e = .returned (.int .i64 y) ∧ Below W.heap.size W w' by have := cmp_yesB M (E 8) W hM e8_can; rwa [V_E, ← hy] at this))
  have hy0 : 0 < y := by rw [hy]; exact sgnP_gt h.2
  have hd0 : decide (0 < y) = true := decide_eq_true hy0
  have CB := Lib.hid (fun W => (show Calls Tryz.prog 63 #[.string M, .int .i64 0] W fun e w' => e = .returned (.bool true) ∧ Below W.heap.size W w' by rw [← hb]; exact bit_yesB M 0 W hM (by omega)))
  clear hM h hb hy
  have S0 := Lib.hid (GrS.new w (.string M) (.string Q) 24)
  go_enter Tryz.func36, Tryz.ntmps36
  go_wp2_with fail
  first
  | (go_region_held3 (fun W => W.cell? ⟨w.heap.size, 0, none⟩ = some (.string M) ∧ W.cell? ⟨w.heap.size, 1, none⟩ = some (.string Q) ∧ W.frozen? ⟨w.heap.size, 0, none⟩ = false ∧ W.frozen? ⟨w.heap.size, 1, none⟩ = false ∧ w.heap.size < W.heap.size ∧ Below w.heap.size w W) (first | assumption | exact GrS.drew S0.out | exact GrS.next (by assumption) b99)
      (first
      | (go_at_call 63; ((with_reducible refine (CB.out _).mono ?_); rintro e w99 ⟨rfl, b99⟩))
      | (go_at_call 28; ((with_reducible refine (of8 _).mono ?_); rintro e w99 ⟨rfl, b99⟩))
      | (go_at_call 61; ((with_reducible refine (CC.out _).mono ?_); rintro e w99 ⟨rfl, b99⟩))))
  | fail
  all_goals go_wp2
  all_goals go_ret
  all_goals exact ⟨rfl, GrS.bel (by assumption)⟩
set_option maxHeartbeats 1000000 in
set_option maxRecDepth 20000 in
theorem isunk_f1 (M Q : ByteArray) (w : World) (hM : Can M) (h : ¬ V M % 2 = 1) :
    Calls Tryz.prog 36 #[.agg #[.string M, .string Q]] w fun e w' => e = .returned (.bool false) ∧ Below w.heap.size w w' := by
  have hb := formU_bit0 h
  have CB := Lib.hid (fun W => (show Calls Tryz.prog 63 #[.string M, .int .i64 0] W fun e w' => e = .returned (.bool false) ∧ W = w' by rw [← hb]; exact bit_yes M 0 W hM (by omega)))
  have S0 := Lib.hid (GrS.new w (.string M) (.string Q) 24)
  clear hM h hb
  go_enter Tryz.func36, Tryz.ntmps36
  go_wp2_with fail
  first
  | (go_region_with (first
      | (go_at_call 63; refine (CB.out _).mono ?_; rintro e wx ⟨rfl, rfl⟩)))
  | fail
  all_goals go_wp2
  all_goals go_ret
  all_goals exact ⟨rfl, (GrS.drew S0.out).bel⟩
set_option maxHeartbeats 1000000 in
set_option maxRecDepth 20000 in
theorem isunk_f2 (M Q : ByteArray) (w : World) (hM : Can M) (h1 : V M % 2 = 1) (h : ¬ 8 < V M) :
    Calls Tryz.prog 36 #[.agg #[.string M, .string Q]] w fun e w' => e = .returned (.bool false) ∧ Below w.heap.size w w' := by
  have hb := formU_bit h1
  obtain ⟨y, hy⟩ : ∃ y, y = sgn (V M) 8 := ⟨_, rfl⟩
  have CC := Lib.hid (fun W => (show Calls Tryz.prog 61 #[.string M, .string (E 8)] W fun e w' => e = .returned (.int .i64 y) ∧ Below W.heap.size W w' by have := cmp_yesB M (E 8) W hM e8_can; rwa [V_E, ← hy] at this))
  have hy0 : ¬ 0 < y := by rw [hy]; exact sgn_le (by omega)
  have hd0 : decide (0 < y) = false := decide_eq_false hy0
  have CB := Lib.hid (fun W => (show Calls Tryz.prog 63 #[.string M, .int .i64 0] W fun e w' => e = .returned (.bool true) ∧ Below W.heap.size W w' by rw [← hb]; exact bit_yesB M 0 W hM (by omega)))
  clear hM h h1 hb hy
  have S0 := Lib.hid (GrS.new w (.string M) (.string Q) 24)
  go_enter Tryz.func36, Tryz.ntmps36
  go_wp2_with fail
  first
  | (go_region_held3 (fun W => W.cell? ⟨w.heap.size, 0, none⟩ = some (.string M) ∧ W.cell? ⟨w.heap.size, 1, none⟩ = some (.string Q) ∧ W.frozen? ⟨w.heap.size, 0, none⟩ = false ∧ W.frozen? ⟨w.heap.size, 1, none⟩ = false ∧ w.heap.size < W.heap.size ∧ Below w.heap.size w W) (first | assumption | exact GrS.drew S0.out | exact GrS.next (by assumption) b99)
      (first
      | (go_at_call 63; ((with_reducible refine (CB.out _).mono ?_); rintro e w99 ⟨rfl, b99⟩))
      | (go_at_call 28; ((with_reducible refine (of8 _).mono ?_); rintro e w99 ⟨rfl, b99⟩))
      | (go_at_call 61; ((with_reducible refine (CC.out _).mono ?_); rintro e w99 ⟨rfl, b99⟩))))
  | fail
  all_goals go_wp2
  all_goals go_ret
  all_goals exact ⟨rfl, GrS.bel (by assumption)⟩
theorem isunk_f (M Q : ByteArray) (w : World) (hM : Can M) (h : ¬ FormU M) :
    Calls Tryz.prog 36 #[.agg #[.string M, .string Q]] w fun e w' => e = .returned (.bool false) ∧ Below w.heap.size w w' := by
  by_cases h1 : V M % 2 = 1
  · exact isunk_f2 M Q w hM h1 (fun q => h ⟨h1, q⟩)
  · exact isunk_f1 M Q w hM h1
set_option maxHeartbeats 1000000 in
set_option maxRecDepth 20000 in
theorem isgr_t (M Q : ByteArray) (w : World) (hM : Can M) (hQ : Q.size = 0) (h : FormU M) :
    Calls Tryz.prog 91 #[.agg #[.string M, .string Q]] w fun e w' => e = .returned (.bool true) ∧ Below w.heap.size w w' := by
  have hE := empty_of hQ
  have hb := formU_bit h.1
  obtain ⟨y, hy⟩ : ∃ y, y = sgn (V M) 8 := ⟨_, rfl⟩
  have CC := Lib.hid (fun W => (show Calls Tryz.prog 61 #[.string M, .string (E 8)] W fun e w' => e = .returned (.int .i64 y) ∧ Below W.heap.size W w' by have := cmp_yesB M (E 8) W hM e8_can; rwa [V_E, ← hy] at this))
  have hy0 : 0 < y := by rw [hy]; exact sgnP_gt h.2
  have hd0 : decide (0 < y) = true := decide_eq_true hy0
  have CB := Lib.hid (fun W => (show Calls Tryz.prog 63 #[.string M, .int .i64 0] W fun e w' => e = .returned (.bool true) ∧ Below W.heap.size W w' by rw [← hb]; exact bit_yesB M 0 W hM (by omega)))
  have CV := Lib.hid (fun W => valid_yesB M W hM)
  clear hM h hb hy hQ
  have S0 := Lib.hid (GrS.new w (.string M) (.string Q) 24)
  go_enter Tryz.func91, Tryz.ntmps91
  go_wp2_with fail
  first
  | (go_region_held3 (fun W => W.cell? ⟨w.heap.size, 0, none⟩ = some (.string M) ∧ W.cell? ⟨w.heap.size, 1, none⟩ = some (.string Q) ∧ W.frozen? ⟨w.heap.size, 0, none⟩ = false ∧ W.frozen? ⟨w.heap.size, 1, none⟩ = false ∧ w.heap.size < W.heap.size ∧ Below w.heap.size w W) (first | assumption | exact GrS.drew S0.out | exact GrS.next (by assumption) b99)
      (first
      | (go_at_call 34; ((with_reducible refine (CV.out _).mono ?_); rintro e w99 ⟨rfl, b99⟩))
      | (go_at_call 63; ((with_reducible refine (CB.out _).mono ?_); rintro e w99 ⟨rfl, b99⟩))
      | (go_at_call 28; ((with_reducible refine (of8 _).mono ?_); rintro e w99 ⟨rfl, b99⟩))
      | (go_at_call 61; ((with_reducible refine (CC.out _).mono ?_); rintro e w99 ⟨rfl, b99⟩))))
  | fail
  all_goals go_wp2
  all_goals go_ret
  all_goals exact ⟨rfl, GrS.bel (by assumption)⟩
set_option maxHeartbeats 1000000 in
set_option maxRecDepth 20000 in
theorem isgr_f1 (M Q : ByteArray) (w : World) (hM : Can M) (hQ : Q.size = 0) (h : ¬ V M % 2 = 1) :
    Calls Tryz.prog 91 #[.agg #[.string M, .string Q]] w fun e w' => e = .returned (.bool false) ∧ Below w.heap.size w w' := by
  have hE := empty_of hQ
  have hb := formU_bit0 h
  have CB := Lib.hid (fun W => (show Calls Tryz.prog 63 #[.string M, .int .i64 0] W fun e w' => e = .returned (.bool false) ∧ W = w' by rw [← hb]; exact bit_yes M 0 W hM (by omega)))
  have CV := Lib.hid (fun W => valid_yes M W hM)
  clear hM h hb hQ
  have S0 := Lib.hid (GrS.new w (.string M) (.string Q) 24)
  go_enter Tryz.func91, Tryz.ntmps91
  go_wp2_with fail
  first
  | (go_region_with (first
      | (go_at_call 34; refine (CV.out _).mono ?_; rintro e wx ⟨rfl, rfl⟩)
      | (go_at_call 63; refine (CB.out _).mono ?_; rintro e wx ⟨rfl, rfl⟩)))
  | fail
  all_goals go_wp2
  all_goals go_ret
  all_goals exact ⟨rfl, (GrS.drew S0.out).bel⟩
set_option maxHeartbeats 1000000 in
set_option maxRecDepth 20000 in
theorem isgr_f2 (M Q : ByteArray) (w : World) (hM : Can M) (hQ : Q.size = 0) (h1 : V M % 2 = 1) (h : ¬ 8 < V M) :
    Calls Tryz.prog 91 #[.agg #[.string M, .string Q]] w fun e w' => e = .returned (.bool false) ∧ Below w.heap.size w w' := by
  have hE := empty_of hQ
  have hb := formU_bit h1
  obtain ⟨y, hy⟩ : ∃ y, y = sgn (V M) 8 := ⟨_, rfl⟩
  have CC := Lib.hid (fun W => (show Calls Tryz.prog 61 #[.string M, .string (E 8)] W fun e w' => e = .returned (.int .i64 y) ∧ Below W.heap.size W w' by have := cmp_yesB M (E 8) W hM e8_can; rwa [V_E, ← hy] at this))
  have hy0 : ¬ 0 < y := by rw [hy]; exact sgn_le (by omega)
  have hd0 : decide (0 < y) = false := decide_eq_false hy0
  have CB := Lib.hid (fun W => (show Calls Tryz.prog 63 #[.string M, .int .i64 0] W fun e w' => e = .returned (.bool true) ∧ Below W.heap.size W w' by rw [← hb]; exact bit_yesB M 0 W hM (by omega)))
  have CV := Lib.hid (fun W => valid_yesB M W hM)
  clear hM h h1 hb hy hQ
  have S0 := Lib.hid (GrS.new w (.string M) (.string Q) 24)
  go_enter Tryz.func91, Tryz.ntmps91
  go_wp2_with fail
  first
  | (go_region_held3 (fun W => W.cell? ⟨w.heap.size, 0, none⟩ = some (.string M) ∧ W.cell? ⟨w.heap.size, 1, none⟩ = some (.string Q) ∧ W.frozen? ⟨w.heap.size, 0, none⟩ = false ∧ W.frozen? ⟨w.heap.size, 1, none⟩ = false ∧ w.heap.size < W.heap.size ∧ Below w.heap.size w W) (first | assumption | exact GrS.drew S0.out | exact GrS.next (by assumption) b99)
      (first
      | (go_at_call 34; ((with_reducible refine (CV.out _).mono ?_); rintro e w99 ⟨rfl, b99⟩))
      | (go_at_call 63; ((with_reducible refine (CB.out _).mono ?_); rintro e w99 ⟨rfl, b99⟩))
      | (go_at_call 28; ((with_reducible refine (of8 _).mono ?_); rintro e w99 ⟨rfl, b99⟩))
      | (go_at_call 61; ((with_reducible refine (CC.out _).mono ?_); rintro e w99 ⟨rfl, b99⟩))))
  | fail
  all_goals go_wp2
  all_goals go_ret
  all_goals exact ⟨rfl, GrS.bel (by assumption)⟩
set_option maxHeartbeats 1000000 in
set_option maxRecDepth 20000 in
theorem isgr_f3 (M Q : ByteArray) (w : World) (hM : ¬ Can M) (hQ : Q.size = 0) :
    Calls Tryz.prog 91 #[.agg #[.string M, .string Q]] w fun e w' => e = .returned (.bool false) ∧ Below w.heap.size w w' := by
  have hE := empty_of hQ
  have CV := Lib.hid (fun W => valid_no M W hM)
  clear hM hQ
  have S0 := Lib.hid (GrS.new w (.string M) (.string Q) 24)
  go_enter Tryz.func91, Tryz.ntmps91
  go_wp2_with fail
  first
  | (go_region_with (first
      | (go_at_call 34; refine (CV.out _).mono ?_; rintro e wx ⟨rfl, rfl⟩)))
  | fail
  all_goals go_wp2
  all_goals go_ret
  all_goals exact ⟨rfl, (GrS.drew S0.out).bel⟩
set_option maxHeartbeats 1000000 in
set_option maxRecDepth 20000 in
theorem isgr_f4 (M Q : ByteArray) (w : World) (hQ : Q.size ≠ 0) :
    Calls Tryz.prog 91 #[.agg #[.string M, .string Q]] w fun e w' => e = .returned (.bool false) ∧ Below w.heap.size w w' := by
  have hE := not_empty_of hQ
  clear hQ
  have S0 := Lib.hid (GrS.new w (.string M) (.string Q) 24)
  go_enter Tryz.func91, Tryz.ntmps91
  go_wp2_with fail
  first
  | (go_region_with (first
      | (go_at_call 34; exact absurd rfl (by assumption))))
  | fail
  all_goals go_wp2
  all_goals go_ret
  all_goals exact ⟨rfl, (GrS.drew S0.out).bel⟩
/-- A group of unknown order. -/
def GrU (M Q : ByteArray) : Prop := Can M ∧ Q.size = 0 ∧ FormU M
theorem isgr_f (M Q : ByteArray) (w : World) (h : ¬ GrU M Q) :
    Calls Tryz.prog 91 #[.agg #[.string M, .string Q]] w fun e w' => e = .returned (.bool false) ∧ Below w.heap.size w w' := by
  by_cases hQ : Q.size = 0
  · by_cases hM : Can M
    · by_cases h1 : V M % 2 = 1
      · exact isgr_f2 M Q w hM hQ h1 (fun q => h ⟨hM, hQ, h1, q⟩)
      · exact isgr_f1 M Q w hM hQ h1
    · exact isgr_f3 M Q w hM hQ
  · exact isgr_f4 M Q w hQ
/-- The form of a group of another order. -/
def FormK (M Q : ByteArray) : Prop := 1 < V M ∧ V Q ≠ 1 ∧ (V M - 1) % V Q = 0
theorem eq_E1 {Q : ByteArray} (hQ : Can Q) (h : V Q = 1) : Q = E 1 := by rw [← h, E_V hQ]
theorem ne_E1 {Q : ByteArray} (hQ : Can Q) (h : V Q ≠ 1) : (Q.toList == (E 1).toList) = false := by have := E_bne h; rwa [E_V hQ] at this
theorem E_yes {n : Nat} (h : n = 0) : (E n).toList.isEmpty = true := by rw [E_empty, decide_eq_true h]
theorem E_no {n : Nat} (h : ¬ n = 0) : (E n).toList.isEmpty = false := by rw [E_empty, decide_eq_false h]
set_option maxHeartbeats 1000000 in
set_option maxRecDepth 20000 in
theorem iskn_t (M Q : ByteArray) (w : World) (hM : Can M) (hQ : Can Q) (h0 : Q.size ≠ 0) (h1 : 1 < V M) (h2 : V Q ≠ 1) (h3 : (V M - 1) % V Q = 0) :
    Calls Tryz.prog 37 #[.agg #[.string M, .string Q]] w fun e w' => e = .returned (.bool true) ∧ Below w.heap.size w w' := by
  have hq0 := (size_posV hQ).2 h0
  have hq1 := ne_E1 hQ h2
  obtain ⟨y, hy⟩ : ∃ y, y = sgn (V M) 1 := ⟨_, rfl⟩
  have CC := Lib.hid (fun W => (show Calls Tryz.prog 61 #[.string M, .string (E 1)] W fun e w' => e = .returned (.int .i64 y) ∧ Below W.heap.size W w' by have := cmp_yesB M (E 1) W hM e1_can; rwa [V_E, ← hy] at this))
  have hy0 : ¬ y ≤ 0 := by have := sgnP_gt h1; rw [hy]; omega
  have hd0 : decide (y ≤ 0) = false := decide_eq_false hy0
  obtain ⟨l, hl⟩ : ∃ l, l = V M - 1 := ⟨_, rfl⟩
  obtain ⟨q, r, hr, hr2⟩ : ∃ q r, divN l (V Q) = .tuple #[.string (E q), .string (E r), .int .i64 0] ∧ r = l % V Q := ⟨_, _, divN_pos (by omega), rfl⟩
  have CS := Lib.hid (fun W => (show Calls Tryz.prog 62 #[.string M, .string (E 1)] W fun e w' => e = .returned (.tuple #[.string (E l), .int .i64 0]) ∧ Below W.heap.size W w' by have := sub_yes M (E 1) W hM e1_can; rwa [V_E, subN_yes (by omega), ← hl] at this))
  have CD := Lib.hid (fun W => (show Calls Tryz.prog 64 #[.string (E l), .string Q] W fun e w' => e = .returned (.tuple #[.string (E q), .string (E r), .int .i64 0]) ∧ Below W.heap.size W w' by have := divMod_yes (E l) Q W (can_E' (by have := V_lim hM; omega)) hQ; rwa [V_E, hr] at this))
  have hE := E_yes (n := r) (by rw [hr2, hl]; exact h3)
  have S0 := Lib.hid (GrS.new w (.string M) (.string Q) 24)
  clear hM hQ h0 h1 h2 hy hq0 hl hr h3 hr2
  go_enter Tryz.func37, Tryz.ntmps37
  go_wp2_with fail
  first
  | (go_region_held3 (fun W => W.cell? ⟨w.heap.size, 0, none⟩ = some (.string M) ∧ W.cell? ⟨w.heap.size, 1, none⟩ = some (.string Q) ∧ W.frozen? ⟨w.heap.size, 0, none⟩ = false ∧ W.frozen? ⟨w.heap.size, 1, none⟩ = false ∧ w.heap.size < W.heap.size ∧ Below w.heap.size w W) (first | assumption | exact GrS.drew S0.out | exact GrS.next (by assumption) b99)
      (first
      | (go_at_call 28; ((with_reducible refine (of1 _).mono ?_); rintro e w99 ⟨rfl, b99⟩))
      | (go_at_call 61; ((with_reducible refine (CC.out _).mono ?_); rintro e w99 ⟨rfl, b99⟩))))
  | fail
  have HS : GrS w w.heap.size (.string M) (.string Q) w99 := by assumption
  have S0 := Lib.hid HS; clear HS
  go_wp2_with fail
  first
  | (go_region_held3 (fun W => W.cell? ⟨w.heap.size, 0, none⟩ = some (.string M) ∧ W.cell? ⟨w.heap.size, 1, none⟩ = some (.string Q) ∧ W.frozen? ⟨w.heap.size, 0, none⟩ = false ∧ W.frozen? ⟨w.heap.size, 1, none⟩ = false ∧ w.heap.size < W.heap.size ∧ Below w.heap.size w W) (first | assumption | exact GrS.drew S0.out | exact GrS.next (by assumption) b99)
      (first
      | (go_at_call 28; ((with_reducible refine (of1 _).mono ?_); rintro e w99 ⟨rfl, b99⟩))
      | (go_at_call 62; ((with_reducible refine (CS.out _).mono ?_); rintro e w99 ⟨rfl, b99⟩))))
  | fail
  have HS : GrS w w.heap.size (.string M) (.string Q) w99 := by assumption
  have S0 := Lib.hid HS; clear HS
  have G := Lib.hid S0.out.two
  have K := Lib.hid S0.out.bel
  obtain ⟨q1, q2, q3, q4, q5⟩ := G.out
  go_wp2_with fail
  refine (CD.out _).mono ?_; rintro e w2 ⟨rfl, b2⟩
  have K := Lib.hid (belP K.out b2)
  have G := Lib.hid (G.out.below b2 rfl)
  clear b2 q1 q2 q3 q4 q5
  obtain ⟨q1, q2, q3, q4, q5⟩ := G.out
  go_wp2
  go_ret
  exact ⟨rfl, K.out⟩
set_option maxHeartbeats 1000000 in
set_option maxRecDepth 20000 in
theorem iskn_f3 (M Q : ByteArray) (w : World) (hM : Can M) (hQ : Can Q) (h0 : Q.size ≠ 0) (h1 : 1 < V M) (h2 : V Q ≠ 1) (h3 : (V M - 1) % V Q ≠ 0) :
    Calls Tryz.prog 37 #[.agg #[.string M, .string Q]] w fun e w' => e = .returned (.bool false) ∧ Below w.heap.size w w' := by
  have hq0 := (size_posV hQ).2 h0
  have hq1 := ne_E1 hQ h2
  obtain ⟨y, hy⟩ : ∃ y, y = sgn (V M) 1 := ⟨_, rfl⟩
  have CC := Lib.hid (fun W => (show Calls Tryz.prog 61 #[.string M, .string (E 1)] W fun e w' => e = .returned (.int .i64 y) ∧ Below W.heap.size W w' by have := cmp_yesB M (E 1) W hM e1_can; rwa [V_E, ← hy] at this))
  have hy0 : ¬ y ≤ 0 := by have := sgnP_gt h1; rw [hy]; omega
  have hd0 : decide (y ≤ 0) = false := decide_eq_false hy0
  obtain ⟨l, hl⟩ : ∃ l, l = V M - 1 := ⟨_, rfl⟩
  obtain ⟨q, r, hr, hr2⟩ : ∃ q r, divN l (V Q) = .tuple #[.string (E q), .string (E r), .int .i64 0] ∧ r = l % V Q := ⟨_, _, divN_pos (by omega), rfl⟩
  have CS := Lib.hid (fun W => (show Calls Tryz.prog 62 #[.string M, .string (E 1)] W fun e w' => e = .returned (.tuple #[.string (E l), .int .i64 0]) ∧ Below W.heap.size W w' by have := sub_yes M (E 1) W hM e1_can; rwa [V_E, subN_yes (by omega), ← hl] at this))
  have CD := Lib.hid (fun W => (show Calls Tryz.prog 64 #[.string (E l), .string Q] W fun e w' => e = .returned (.tuple #[.string (E q), .string (E r), .int .i64 0]) ∧ Below W.heap.size W w' by have := divMod_yes (E l) Q W (can_E' (by have := V_lim hM; omega)) hQ; rwa [V_E, hr] at this))
  have hE := E_no (n := r) (by rw [hr2, hl]; exact h3)
  have S0 := Lib.hid (GrS.new w (.string M) (.string Q) 24)
  clear hM hQ h0 h1 h2 hy hq0 hl hr h3 hr2
  go_enter Tryz.func37, Tryz.ntmps37
  go_wp2_with fail
  first
  | (go_region_held3 (fun W => W.cell? ⟨w.heap.size, 0, none⟩ = some (.string M) ∧ W.cell? ⟨w.heap.size, 1, none⟩ = some (.string Q) ∧ W.frozen? ⟨w.heap.size, 0, none⟩ = false ∧ W.frozen? ⟨w.heap.size, 1, none⟩ = false ∧ w.heap.size < W.heap.size ∧ Below w.heap.size w W) (first | assumption | exact GrS.drew S0.out | exact GrS.next (by assumption) b99)
      (first
      | (go_at_call 28; ((with_reducible refine (of1 _).mono ?_); rintro e w99 ⟨rfl, b99⟩))
      | (go_at_call 61; ((with_reducible refine (CC.out _).mono ?_); rintro e w99 ⟨rfl, b99⟩))))
  | fail
  have HS : GrS w w.heap.size (.string M) (.string Q) w99 := by assumption
  have S0 := Lib.hid HS; clear HS
  go_wp2_with fail
  first
  | (go_region_held3 (fun W => W.cell? ⟨w.heap.size, 0, none⟩ = some (.string M) ∧ W.cell? ⟨w.heap.size, 1, none⟩ = some (.string Q) ∧ W.frozen? ⟨w.heap.size, 0, none⟩ = false ∧ W.frozen? ⟨w.heap.size, 1, none⟩ = false ∧ w.heap.size < W.heap.size ∧ Below w.heap.size w W) (first | assumption | exact GrS.drew S0.out | exact GrS.next (by assumption) b99)
      (first
      | (go_at_call 28; ((with_reducible refine (of1 _).mono ?_); rintro e w99 ⟨rfl, b99⟩))
      | (go_at_call 62; ((with_reducible refine (CS.out _).mono ?_); rintro e w99 ⟨rfl, b99⟩))))
  | fail
  have HS : GrS w w.heap.size (.string M) (.string Q) w99 := by assumption
  have S0 := Lib.hid HS; clear HS
  have G := Lib.hid S0.out.two
  have K := Lib.hid S0.out.bel
  obtain ⟨q1, q2, q3, q4, q5⟩ := G.out
  go_wp2_with fail
  refine (CD.out _).mono ?_; rintro e w2 ⟨rfl, b2⟩
  have K := Lib.hid (belP K.out b2)
  have G := Lib.hid (G.out.below b2 rfl)
  clear b2 q1 q2 q3 q4 q5
  obtain ⟨q1, q2, q3, q4, q5⟩ := G.out
  go_wp2
  go_ret
  exact ⟨rfl, K.out⟩
set_option maxHeartbeats 1000000 in
set_option maxRecDepth 20000 in
theorem iskn_f1 (M Q : ByteArray) (w : World) (hM : Can M) (h : ¬ 1 < V M) :
    Calls Tryz.prog 37 #[.agg #[.string M, .string Q]] w fun e w' => e = .returned (.bool false) ∧ Below w.heap.size w w' := by
  obtain ⟨y, hy⟩ : ∃ y, y = sgn (V M) 1 := ⟨_, rfl⟩
  have CC := Lib.hid (fun W => (show Calls Tryz.prog 61 #[.string M, .string (E 1)] W fun e w' => e = .returned (.int .i64 y) ∧ W = w' by have := cmp_yes M (E 1) W hM e1_can; rwa [V_E, ← hy] at this))
  have hy0 : y ≤ 0 := by have := sgn_le (a := V M) (b := 1) (by omega); rw [hy]; omega
  have hd0 : decide (y ≤ 0) = true := decide_eq_true hy0
  clear hM h hy
  have S0 := Lib.hid (GrS.new w (.string M) (.string Q) 24)
  go_enter Tryz.func37, Tryz.ntmps37
  go_wp2_with fail
  first
  | (go_region_with (first
      | (go_at_call 28; refine (of1 _).mono ?_; rintro e w99 ⟨rfl, b99⟩; obtain ⟨z1, z2, z3, z4, z5, z6⟩ := GrS.next (GrS.drew S0.out) b99)
      | (go_at_call 61; refine (CC.out _).mono ?_; rintro e wx ⟨rfl, rfl⟩)))
  | fail
  all_goals go_wp2
  all_goals go_ret
  all_goals exact ⟨rfl, (by assumption)⟩
set_option maxHeartbeats 1000000 in
set_option maxRecDepth 20000 in
theorem iskn_f2 (M Q : ByteArray) (w : World) (hM : Can M) (h1 : 1 < V M) (hQ : Can Q) (h2 : V Q = 1) :
    Calls Tryz.prog 37 #[.agg #[.string M, .string Q]] w fun e w' => e = .returned (.bool false) ∧ Below w.heap.size w w' := by
  obtain ⟨y, hy⟩ : ∃ y, y = sgn (V M) 1 := ⟨_, rfl⟩
  have CC := Lib.hid (fun W => (show Calls Tryz.prog 61 #[.string M, .string (E 1)] W fun e w' => e = .returned (.int .i64 y) ∧ Below W.heap.size W w' by have := cmp_yesB M (E 1) W hM e1_can; rwa [V_E, ← hy] at this))
  have hy0 : ¬ y ≤ 0 := by have := sgnP_gt h1; rw [hy]; omega
  have hd0 : decide (y ≤ 0) = false := decide_eq_false hy0
  obtain rfl := eq_E1 hQ h2
  clear hM h1 h2 hy hQ
  have S0 := Lib.hid (GrS.new w (.string M) (.string (E 1)) 24)
  go_enter Tryz.func37, Tryz.ntmps37
  go_wp2_with fail
  first
  | (go_region_held3 (fun W => W.cell? ⟨w.heap.size, 0, none⟩ = some (.string M) ∧ W.cell? ⟨w.heap.size, 1, none⟩ = some (.string (E 1)) ∧ W.frozen? ⟨w.heap.size, 0, none⟩ = false ∧ W.frozen? ⟨w.heap.size, 1, none⟩ = false ∧ w.heap.size < W.heap.size ∧ Below w.heap.size w W) (first | assumption | exact GrS.drew S0.out | exact GrS.next (by assumption) b99)
      (first
      | (go_at_call 28; ((with_reducible refine (of1 _).mono ?_); rintro e w99 ⟨rfl, b99⟩))
      | (go_at_call 61; ((with_reducible refine (CC.out _).mono ?_); rintro e w99 ⟨rfl, b99⟩))))
  | fail
  all_goals go_wp2
  all_goals go_ret
  all_goals exact ⟨rfl, GrS.bel (by assumption)⟩
theorem iskn_f (M Q : ByteArray) (w : World) (hM : Can M) (hQ : Can Q) (h0 : Q.size ≠ 0) (h : ¬ FormK M Q) :
    Calls Tryz.prog 37 #[.agg #[.string M, .string Q]] w fun e w' => e = .returned (.bool false) ∧ Below w.heap.size w w' := by
  by_cases h1 : 1 < V M
  · by_cases h2 : V Q = 1
    · exact iskn_f2 M Q w hM h1 hQ h2
    · exact iskn_f3 M Q w hM hQ h0 h1 h2 (fun q => h ⟨h1, h2, q⟩)
  · exact iskn_f1 M Q w hM h1

/-! ### power.Check -/
/-- Well-formed (of canonical numbers). -/
def WfG (M Q : ByteArray) : Prop := (Q.size = 0 ∧ FormU M) ∨ (Q.size ≠ 0 ∧ FormK M Q)
open Classical in
/-- The error of a group. -/
noncomputable def chkG (M Q : ByteArray) : Int := if Can M ∧ Can Q then (if WfG M Q then 0 else 13) else 3
theorem chkG_form {M Q : ByteArray} (h : ¬ (Can M ∧ Can Q)) : chkG M Q = 3 := by unfold chkG; rw [if_neg h]
theorem chkG_bad {M Q : ByteArray} (h : Can M ∧ Can Q) (h2 : ¬ WfG M Q) : chkG M Q = 13 := by unfold chkG; rw [if_pos h, if_neg h2]
theorem chkG_ok {M Q : ByteArray} (h : Can M ∧ Can Q) (h2 : WfG M Q) : chkG M Q = 0 := by unfold chkG; rw [if_pos h, if_pos h2]
theorem chkG_zero {M Q : ByteArray} (h : chkG M Q = 0) : Can M ∧ Can Q ∧ WfG M Q := by
  unfold chkG at h
  split at h
  · split at h
    · exact ⟨(‹Can M ∧ Can Q›).1, (‹Can M ∧ Can Q›).2, ‹_›⟩
    · omega
  · omega
set_option maxHeartbeats 1000000 in
set_option maxRecDepth 20000 in
theorem pgchk_form (M Q : ByteArray) (w : World) (h : ¬ (Can M ∧ Can Q)) :
    Calls Tryz.prog 13 #[.agg #[.string M, .string Q]] w fun e w' => e = .returned (.int .i64 3) ∧ Below w.heap.size w w' := by
  have G := Lib.hid (Two.new w (.string M) (.string Q) 24 _ rfl)
  have K := Lib.hid (belA w (.cells #[.string M, .string Q] 24))
  obtain ⟨q1, q2, q3, q4, q5⟩ := G.out
  by_cases hM : Can M
  · have HM := Lib.hid hM
    have HQ := Lib.hid (show ¬ Can Q from fun q => h ⟨hM, q⟩)
    clear hM h
    go_enter Tryz.func13, Tryz.ntmps13
    go_wp2_with fail
    refine (valid_yes M _ HM.out).mono ?_; rintro e wx ⟨rfl, rfl⟩
    go_wp2_with fail
    refine (valid_no Q _ HQ.out).mono ?_; rintro e wx ⟨rfl, rfl⟩
    go_wp2
    go_ret
    exact ⟨rfl, K.out⟩
  · have HM := Lib.hid hM
    clear hM h
    go_enter Tryz.func13, Tryz.ntmps13
    go_wp2_with fail
    refine (valid_no M _ HM.out).mono ?_; rintro e wx ⟨rfl, rfl⟩
    go_wp2
    go_ret
    exact ⟨rfl, K.out⟩
set_option maxHeartbeats 1000000 in
set_option maxRecDepth 20000 in
theorem pgchk_u (M Q : ByteArray) (b : Bool) (c : Int) (w : World) (hM : Can M) (hQ : Can Q) (h0 : Q.size = 0) (hc : (b = true ∧ c = 0) ∨ (b = false ∧ c = 13))
    (hU : ∀ w, Calls Tryz.prog 36 #[.agg #[.string M, .string Q]] w fun e w' => e = .returned (.bool b) ∧ Below w.heap.size w w') :
    Calls Tryz.prog 13 #[.agg #[.string M, .string Q]] w fun e w' => e = .returned (.int .i64 c) ∧ Below w.heap.size w w' := by
  have G := Lib.hid (Two.new w (.string M) (.string Q) 24 _ rfl)
  have K := Lib.hid (belA w (.cells #[.string M, .string Q] 24))
  obtain ⟨q1, q2, q3, q4, q5⟩ := G.out
  have HM := Lib.hid hM
  have HQ := Lib.hid hQ
  have HU := Lib.hid hU
  have hE := empty_of h0
  clear hM hQ h0 hU
  rcases hc with ⟨rfl, rfl⟩ | ⟨rfl, rfl⟩
  all_goals
    go_enter Tryz.func13, Tryz.ntmps13
    go_wp2_with fail
    refine (valid_yes M _ HM.out).mono ?_; rintro e wx ⟨rfl, rfl⟩
    go_wp2_with fail
    refine (valid_yes Q _ HQ.out).mono ?_; rintro e wx ⟨rfl, rfl⟩
    go_wp2_with fail
    refine (HU.out _).mono ?_; rintro e w2 ⟨rfl, b2⟩
    have K := Lib.hid (belP K.out b2)
    have G := Lib.hid (G.out.below b2 rfl)
    clear b2 q1 q2 q3 q4 q5
    obtain ⟨q1, q2, q3, q4, q5⟩ := G.out
    go_wp2
    go_ret
    exact ⟨rfl, K.out⟩
set_option maxHeartbeats 1000000 in
set_option maxRecDepth 20000 in
theorem pgchk_k (M Q : ByteArray) (b : Bool) (c : Int) (w : World) (hM : Can M) (hQ : Can Q) (h0 : Q.size ≠ 0) (hc : (b = true ∧ c = 0) ∨ (b = false ∧ c = 13))
    (hU : ∀ w, Calls Tryz.prog 37 #[.agg #[.string M, .string Q]] w fun e w' => e = .returned (.bool b) ∧ Below w.heap.size w w') :
    Calls Tryz.prog 13 #[.agg #[.string M, .string Q]] w fun e w' => e = .returned (.int .i64 c) ∧ Below w.heap.size w w' := by
  have G := Lib.hid (Two.new w (.string M) (.string Q) 24 _ rfl)
  have K := Lib.hid (belA w (.cells #[.string M, .string Q] 24))
  obtain ⟨q1, q2, q3, q4, q5⟩ := G.out
  have HM := Lib.hid hM
  have HQ := Lib.hid hQ
  have HU := Lib.hid hU
  have hE := not_empty_of h0
  clear hM hQ h0 hU
  rcases hc with ⟨rfl, rfl⟩ | ⟨rfl, rfl⟩
  all_goals
    go_enter Tryz.func13, Tryz.ntmps13
    go_wp2_with fail
    refine (valid_yes M _ HM.out).mono ?_; rintro e wx ⟨rfl, rfl⟩
    go_wp2_with fail
    refine (valid_yes Q _ HQ.out).mono ?_; rintro e wx ⟨rfl, rfl⟩
    go_wp2_with fail
    refine (HU.out _).mono ?_; rintro e w2 ⟨rfl, b2⟩
    have K := Lib.hid (belP K.out b2)
    have G := Lib.hid (G.out.below b2 rfl)
    clear b2 q1 q2 q3 q4 q5
    obtain ⟨q1, q2, q3, q4, q5⟩ := G.out
    go_wp2
    go_ret
    exact ⟨rfl, K.out⟩
theorem pgchk_any (M Q : ByteArray) (w : World) :
    Calls Tryz.prog 13 #[.agg #[.string M, .string Q]] w fun e w' => e = .returned (.int .i64 (chkG M Q)) ∧ Below w.heap.size w w' := by
  by_cases hc : Can M ∧ Can Q
  · by_cases h0 : Q.size = 0
    · by_cases hf : FormU M
      · rw [chkG_ok hc (.inl ⟨h0, hf⟩)]
        exact pgchk_u M Q true 0 w hc.1 hc.2 h0 (.inl ⟨rfl, rfl⟩) (fun w => isunk_t M Q w hc.1 hf)
      · rw [chkG_bad hc (by rintro (⟨-, q⟩ | ⟨q, -⟩); exact hf q; exact q h0)]
        exact pgchk_u M Q false 13 w hc.1 hc.2 h0 (.inr ⟨rfl, rfl⟩) (fun w => isunk_f M Q w hc.1 hf)
    · by_cases hf : FormK M Q
      · rw [chkG_ok hc (.inr ⟨h0, hf⟩)]
        exact pgchk_k M Q true 0 w hc.1 hc.2 h0 (.inl ⟨rfl, rfl⟩) (fun w => iskn_t M Q w hc.1 hc.2 h0 hf.1 hf.2.1 hf.2.2)
      · rw [chkG_bad hc (by rintro (⟨q, -⟩ | ⟨-, q⟩); exact h0 q; exact hf q)]
        exact pgchk_k M Q false 13 w hc.1 hc.2 h0 (.inr ⟨rfl, rfl⟩) (fun w => iskn_f M Q w hc.1 hc.2 h0 hf)
  · rw [chkG_form hc]
    exact pgchk_form M Q w hc
end Go.Proofs.YtogmgfdihmacpaaGreatDoor
