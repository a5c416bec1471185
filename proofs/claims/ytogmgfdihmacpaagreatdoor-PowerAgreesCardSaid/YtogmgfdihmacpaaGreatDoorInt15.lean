/-
  Contracts of package integer: Extended.
-/
import Derived.Test.YtogmgfdihmacpaaGreatDoorInt14
import Derived.Deep.LoopGhost
namespace Go.Proofs.YtogmgfdihmacpaaGreatDoor
open Go.RowKit
set_option linter.unusedVariables false

/-- What Extended's variables hold ahead of each round. -/
def ExtR (a b : Nat) (w : World) (n gX gY r1 : Nat) (wr : World) : Prop :=
  ∃ (r0 X0 X1 Y0 Y1 : Nat) (σ : Bool), Inv a b r0 r1 σ X0 X1 Y0 Y1 ∧ r0 < Lim ∧ r1 < Lim ∧
    Two wr (n + 1 + 1) (.string (E r0)) (.string (E r1)) ∧
    Four wr gX (.bool (ZG (sg σ X0))) (.string (ZS (sg σ X0))) (.bool (ZG (sg (!σ) X1))) (.string (ZS (sg (!σ) X1))) ∧
    Four wr gY (.bool (ZG (sg (!σ) Y0))) (.string (ZS (sg (!σ) Y0))) (.bool (ZG (sg σ Y1))) (.string (ZS (sg σ Y1))) ∧
    Two wr n (.bool false) (.string ⟨#[]⟩) ∧ Two wr (n + 1) (.bool false) (.string ⟨#[]⟩) ∧ Below n w wr ∧ n + 1 + 1 < gX ∧ gX < gY
theorem Four.setAll {w : World} {g : Nat} {a b c d : Value} (h : Four w g a b c d) (x y z u : Value) :
    Four ((((w.setCell ⟨g, 0, none⟩ x).setCell ⟨g, 1, none⟩ y).setCell ⟨g, 2, none⟩ z).setCell ⟨g, 3, none⟩ u) g x y z u := h.set x y z u
theorem Two.set4_ne {w : World} {g : Nat} {a b : Value} (h : Two w g a b) (p : Nat) (x y z u : Value) (hn : p ≠ g) :
    Two ((((w.setCell ⟨p, 0, none⟩ x).setCell ⟨p, 1, none⟩ y).setCell ⟨p, 2, none⟩ z).setCell ⟨p, 3, none⟩ u) g a b := by
  obtain ⟨h0, h1, h2, h3, h4⟩ := h
  refine ⟨?_, ?_, by simp [h2], by simp [h3], by simp [h4]⟩
  · rw [World.cell?_setCell_other _ _ _ _ (addr_ne hn), World.cell?_setCell_other _ _ _ _ (addr_ne hn), World.cell?_setCell_other _ _ _ _ (addr_ne hn), World.cell?_setCell_other _ _ _ _ (addr_ne hn)]; exact h0
  · rw [World.cell?_setCell_other _ _ _ _ (addr_ne hn), World.cell?_setCell_other _ _ _ _ (addr_ne hn), World.cell?_setCell_other _ _ _ _ (addr_ne hn), World.cell?_setCell_other _ _ _ _ (addr_ne hn)]; exact h1
theorem Four.set4_ne {w : World} {g : Nat} {a b c d : Value} (h : Four w g a b c d) (p : Nat) (x y z u : Value) (hn : p ≠ g) :
    Four ((((w.setCell ⟨p, 0, none⟩ x).setCell ⟨p, 1, none⟩ y).setCell ⟨p, 2, none⟩ z).setCell ⟨p, 3, none⟩ u) g a b c d := by
  obtain ⟨h0, h1, h2, h3, h4⟩ := h
  refine ⟨h0.set4_ne p x y z u hn, ?_, ?_, by simp [h3], by simp [h4]⟩
  · rw [World.cell?_setCell_other _ _ _ _ (addr_ne hn), World.cell?_setCell_other _ _ _ _ (addr_ne hn), World.cell?_setCell_other _ _ _ _ (addr_ne hn), World.cell?_setCell_other _ _ _ _ (addr_ne hn)]; exact h1
  · rw [World.cell?_setCell_other _ _ _ _ (addr_ne hn), World.cell?_setCell_other _ _ _ _ (addr_ne hn), World.cell?_setCell_other _ _ _ _ (addr_ne hn), World.cell?_setCell_other _ _ _ _ (addr_ne hn)]; exact h2
theorem Four.set01 {w : World} {g : Nat} {a b c d : Value} (h : Four w g a b c d) (x y : Value) :
    Four ((w.setCell ⟨g, 0, none⟩ x).setCell ⟨g, 1, none⟩ y) g x y c d := by
  obtain ⟨h0, h5, h6, h7, h8⟩ := h
  refine ⟨h0.set x y, ?_, ?_, by simp [h7], by simp [h8]⟩
  · rw [far4 (by decide), far4 (by decide)]; exact h5
  · rw [far4 (by decide), far4 (by decide)]; exact h6
theorem bset4 {w a : World} {B g : Nat} {x y z u : Value} (h : Below B w a) (hB : B ≤ g) :
    Below B w ((((a.setCell ⟨g, 0, none⟩ x).setCell ⟨g, 1, none⟩ y).setCell ⟨g, 2, none⟩ z).setCell ⟨g, 3, none⟩ u) :=
  (((h.setCell (p := ⟨g, 0, none⟩) hB _).setCell (p := ⟨g, 1, none⟩) hB _).setCell (p := ⟨g, 2, none⟩) hB _).setCell (p := ⟨g, 3, none⟩) hB _

theorem bounds4 {a b r0 r1 X0 X1 Y0 Y1 : Nat} {σ : Bool} (h : Inv a b r0 r1 σ X0 X1 Y0 Y1) : X0 < Lim ∧ X1 < Lim ∧ Y0 < Lim ∧ Y1 < Lim := h.2.2.2.2.2.2
theorem mul_sg_lim (q : Nat) (g : Bool) {n m : Nat} (h : m + q * n < Lim) : ((q : Int) * sg g n).natAbs < Lim := by
  rw [Int.natAbs_mul, sg_natAbs, Int.natAbs_natCast]; omega
theorem step_inv (σ : Bool) (X0 X1 q : Nat) (w : World) (h0 : X0 < Lim) (h1 : X1 < Lim) (hq : q < Lim) (hn : X0 + q * X1 < Lim) :
    Calls Tryz.prog 128 #[.agg #[.bool (ZG (sg σ X0)), .string (ZS (sg σ X0)), .bool (ZG (sg (!σ) X1)), .string (ZS (sg (!σ) X1))], .string (E q)] w fun e w' =>
      e = .returned (.agg #[.bool (ZG (sg (!σ) X1)), .string (ZS (sg (!σ) X1)), .bool (ZG (sg σ (X0 + q * X1))), .string (ZS (sg σ (X0 + q * X1)))]) ∧ Below w.heap.size w w' := by
  have := step_any (sg σ X0) (sg (!σ) X1) q w (sg_lim _ h0) (sg_lim _ h1) hq (mul_sg_lim _ _ hn) (by rw [sg_step]; exact sg_lim _ hn)
  rwa [sg_step] at this
theorem step_inv' (σ : Bool) (X0 X1 q : Nat) (w : World) (h0 : X0 < Lim) (h1 : X1 < Lim) (hq : q < Lim) (hn : X0 + q * X1 < Lim) :
    Calls Tryz.prog 128 #[.agg #[.bool (ZG (sg (!σ) X0)), .string (ZS (sg (!σ) X0)), .bool (ZG (sg σ X1)), .string (ZS (sg σ X1))], .string (E q)] w fun e w' =>
      e = .returned (.agg #[.bool (ZG (sg σ X1)), .string (ZS (sg σ X1)), .bool (ZG (sg (!σ) (X0 + q * X1))), .string (ZS (sg (!σ) (X0 + q * X1)))]) ∧ Below w.heap.size w w' := by
  have := step_inv (!σ) X0 X1 q w h0 h1 hq hn
  rwa [Bool.not_not] at this
theorem of_one (w : World) : Calls Tryz.prog 127 #[.int .i64 1] w fun e w' => e = .returned (.agg #[.bool false, .string ⟨#[1]⟩]) ∧ Below w.heap.size w w' := iof_any 1 w (by omega) (by omega)
theorem of_nul (w : World) : Calls Tryz.prog 127 #[.int .i64 0] w fun e w' => e = .returned (.agg #[.bool false, .string ⟨#[]⟩]) ∧ Below w.heap.size w w' := iof_any 0 w (by omega) (by omega)

set_option maxHeartbeats 4000000 in
set_option maxRecDepth 20000 in
theorem iext_yes (s t : ByteArray) (w : World) (hs : Can s) (ht : Can t) (post : Ending → World → Prop)
    (hpost : ∀ g x y w', ExtP (V s) (V t) g x y → Below w.heap.size w w' → post (.returned (.tuple #[.string (E g), Z x, Z y, .int .i64 0])) w') :
    Calls Tryz.prog 105 #[.string s, .string t] w post := by
  have HS := Lib.hid hs
  have HT := Lib.hid ht
  have HP := Lib.hid hpost
  have HL := Lib.hid (V_lim hs)
  have HL2 := Lib.hid (V_lim ht)
  have HE1 := Lib.hid (E_V hs)
  have HE2 := Lib.hid (E_V ht)
  clear hs ht hpost
  have T1 := ((Two.new w (.bool false) (.string ⟨#[]⟩) 37 w.heap.size rfl).alloc (.cells #[.bool false, .string ⟨#[]⟩] 37)).alloc (.cells #[.string s, .string t] 143)
  have T2 := (Two.new (w.alloc (.cells #[.bool false, .string ⟨#[]⟩] 37)) (.bool false) (.string ⟨#[]⟩) 37 (w.heap.size + 1) (by simp)).alloc (.cells #[.string s, .string t] 143)
  have T3 := Two.new ((w.alloc (.cells #[.bool false, .string ⟨#[]⟩] 37)).alloc (.cells #[.bool false, .string ⟨#[]⟩] 37)) (.string s) (.string t) 143 (w.heap.size + 1 + 1) (by simp)
  have k0 := (((Below.refl w.heap.size w).alloc (Nat.le_refl _) (.cells #[.bool false, .string ⟨#[]⟩] 37)).alloc (by simp) (.cells #[.bool false, .string ⟨#[]⟩] 37)).alloc (by simp; omega) (.cells #[.string s, .string t] 143)
  go_enter Tryz.func105, Tryz.ntmps105
  go_wp2_with fail
  refine (valid_yes s _ HS.out).mono ?_; rintro e wx ⟨rfl, rfl⟩
  go_wp2_with fail
  refine (valid_yes t _ HT.out).mono ?_; rintro e wx ⟨rfl, rfl⟩
  go_wp2_with fail
  refine (of_one _).mono ?_; rintro e w1 ⟨rfl, b1⟩
  have k1 := bnextW k0 b1 (by simp; omega)
  have T1 := T1.below b1 rfl
  have T2 := T2.below b1 rfl
  have T3 := T3.below b1 rfl
  go_wp2_with fail
  refine (of_nul _).mono ?_; rintro e w2 ⟨rfl, b2⟩
  have k2 := bnextW k1 b2 k1.size
  have T1 := (T1.below b2 rfl).alloc (.cells #[.bool false, .string ⟨#[1]⟩, .bool false, .string ⟨#[]⟩] 59)
  have T2 := (T2.below b2 rfl).alloc (.cells #[.bool false, .string ⟨#[1]⟩, .bool false, .string ⟨#[]⟩] 59)
  have l2 := (T3.below b2 rfl).2.2.2.2
  have T3 := (T3.below b2 rfl).alloc (.cells #[.bool false, .string ⟨#[1]⟩, .bool false, .string ⟨#[]⟩] 59)
  have F1 := Four.new w2 (.bool false) (.string ⟨#[1]⟩) (.bool false) (.string ⟨#[]⟩) 59 w2.heap.size rfl
  have k2 := k2.alloc k2.size (.cells #[.bool false, .string ⟨#[1]⟩, .bool false, .string ⟨#[]⟩] 59)
  go_wp2_with fail
  refine (of_nul _).mono ?_; rintro e w3 ⟨rfl, b3⟩
  have k3 := bnextW k2 b3 k2.size
  have T1 := T1.below b3 rfl
  have T2 := T2.below b3 rfl
  have T3 := T3.below b3 rfl
  have F1 := F1.below b3 rfl
  go_wp2_with fail
  refine (of_one _).mono ?_; rintro e w4 ⟨rfl, b4⟩
  have k4 := bnextW k3 b4 k3.size
  have T1 := (T1.below b4 rfl).alloc (.cells #[.bool false, .string ⟨#[]⟩, .bool false, .string ⟨#[1]⟩] 59)
  have T2 := (T2.below b4 rfl).alloc (.cells #[.bool false, .string ⟨#[]⟩, .bool false, .string ⟨#[1]⟩] 59)
  have T3 := (T3.below b4 rfl).alloc (.cells #[.bool false, .string ⟨#[]⟩, .bool false, .string ⟨#[1]⟩] 59)
  have l4 := (F1.below b4 rfl).lt
  have F1 := (F1.below b4 rfl).alloc (.cells #[.bool false, .string ⟨#[]⟩, .bool false, .string ⟨#[1]⟩] 59)
  have F2 := Four.new w4 (.bool false) (.string ⟨#[]⟩) (.bool false) (.string ⟨#[1]⟩) 59 w4.heap.size rfl
  have k4 := k4.alloc k4.size (.cells #[.bool false, .string ⟨#[]⟩, .bool false, .string ⟨#[1]⟩] 59)
  go_wp2
  go_loopg [11, 12, 13] (V t) (fun r1 _ _ _ wr => ExtR (V s) (V t) w w.heap.size w2.heap.size w4.heap.size r1 wr)
  case atStart => exact ⟨V s, 1, 0, 0, 1, false, Inv.start _ _, HL.out, HL2.out, by rw [HE1.out, HE2.out]; exact T3, F1, F2, T1, T2, k4, l2, l4⟩
  case round =>
    obtain ⟨r0, X0, X1, Y0, Y1, σ, inv, hr0, hr1, T3, F1, F2, T1, T2, k, hX, hY⟩ := hrel
    have HR0 := Lib.hid hr0; clear hr0
    have HR1 := Lib.hid hr1; clear hr1
    have HI := Lib.hid inv; clear inv
    obtain ⟨i1, i2, i3, i4⟩ := bounds4 HI.out
    have HB := Lib.hid (show X0 < Lim ∧ X1 < Lim ∧ Y0 < Lim ∧ Y1 < Lim from ⟨i1, i2, i3, i4⟩)
    clear i1 i2 i3 i4
    by_cases h0 : gk = 0
    · have hE := empty_of (s := E gk) (by rw [h0]; rfl)
      have HI0 := Lib.hid (show Inv (V s) (V t) r0 0 σ X0 X1 Y0 Y1 by rw [← h0]; exact HI.out)
      clear h0 HI
      obtain ⟨p1, p2, p3, p4, p5⟩ := T3
      obtain ⟨r1, r2, r3, r4, r5⟩ := id T1
      obtain ⟨u1, u2, u3, u4, u5⟩ := id T2
      by_cases hx : sg σ X0 < 0
      · have hz : ZG (sg σ X0) = true := by unfold ZG; simp [hx]
        have hext := HI0.out.neg hx
        have hA := fun w => iadd_yes (ZG (sg σ X0)) (ZG (sg (!σ) X1)) (ZS (sg σ X0)) (ZS (sg (!σ) X1)) w (ival_Z _ (sg_lim _ HB.out.1)) (ival_Z _ (sg_lim _ HB.out.2.1))
        rw [IZ_Z, IZ_Z, zokN_yes hext.2.2.2.2.1, hz] at hA
        have hB := fun w => iadd_yes (ZG (sg (!σ) Y0)) (ZG (sg σ Y1)) (ZS (sg (!σ) Y0)) (ZS (sg σ Y1)) w (ival_Z _ (sg_lim _ HB.out.2.2.1)) (ival_Z _ (sg_lim _ HB.out.2.2.2))
        rw [IZ_Z, IZ_Z, zokN_yes hext.2.2.2.2.2] at hB
        have hp := fun w' hb => HP.out r0 _ _ w' hext hb
        obtain ⟨G1, S1, e1⟩ := Z_code (sg σ X0 + sg (!σ) X1)
        obtain ⟨G2, S2, e2⟩ := Z_code (sg (!σ) Y0 + sg σ Y1)
        rw [e1] at hA hp
        rw [e2] at hB hp
        rw [hz] at F1
        have HA := Lib.hid hA; clear hA
        have HB2 := Lib.hid hB; clear hB
        have HQ := Lib.hid hp; clear hp
        clear hz hext e1 e2 hx
        obtain ⟨⟨x1, x2, x3, x4, x5⟩, x6, x7, x8, x9⟩ := id F1
        go_wp2_with fail
        refine (HA.out _).mono ?_; rintro e w5 ⟨rfl, b5⟩
        have k5 := bnextW k b5 k.size
        have T1 := T1.below b5 rfl
        have T2 := T2.below b5 rfl
        have T3 := Two.below ⟨p1, p2, p3, p4, p5⟩ b5 rfl
        have F1 := F1.below b5 rfl
        have F2 := F2.below b5 rfl
        clear p1 p2 p3 p4 p5 x1 x2 x3 x4 x5 x6 x7 x8 x9 r1 r2 r3 r4 r5 u1 u2 u3 u4 u5
        obtain ⟨⟨x1, x2, x3, x4, x5⟩, x6, x7, x8, x9⟩ := id F1
        obtain ⟨y1, y2, y3, y4⟩ := F2.out
        go_wp2_with fail
        refine (HB2.out _).mono ?_; rintro e w6 ⟨rfl, b6⟩
        have k6 := bnextW (bset k5 (g := w2.heap.size) (u := .bool G1) (v := .string S1) (by omega)) b6 (by simp; exact k5.size)
        have T1 := (T1.set_ne w2.heap.size (.bool G1) (.string S1) (by omega)).below b6 rfl
        have T2 := (T2.set_ne w2.heap.size (.bool G1) (.string S1) (by omega)).below b6 rfl
        have T3 := (T3.set_ne w2.heap.size (.bool G1) (.string S1) (by omega)).below b6 rfl
        have F2 := (F2.set_ne w2.heap.size (.bool G1) (.string S1) (by omega)).below b6 rfl
        have F1 := (F1.set01 (.bool G1) (.string S1)).below b6 rfl
        clear x1 x2 x3 x4 x5 x6 x7 x8 x9 y1 y2 y3 y4
        have T1 := T1.set_ne w4.heap.size (.bool G2) (.string S2) (by omega)
        have T2 := T2.set_ne w4.heap.size (.bool G2) (.string S2) (by omega)
        have T3 := T3.set_ne w4.heap.size (.bool G2) (.string S2) (by omega)
        have F1 := F1.set_ne w4.heap.size (.bool G2) (.string S2) (by omega)
        obtain ⟨⟨x1, x2, x3, x4, x5⟩, x6, x7, x8, x9⟩ := id F2
        have F2 := F2.set01 (.bool G2) (.string S2)
        have k7 := bset k6 (g := w4.heap.size) (u := .bool G2) (v := .string S2) (by omega)
        go_wp2
        generalize (w6.setCell { block := w4.heap.size, off := 0 } (Value.bool G2)).setCell { block := w4.heap.size, off := 1 } (Value.string S2) = w7 at *
        clear x1 x2 x3 x4 x5 x6 x7 x8 x9
        obtain ⟨⟨x1, x2, x3, x4, x5⟩, x6, x7, x8, x9⟩ := F1
        obtain ⟨⟨y1, y2, y3, y4, y5⟩, y6, y7, y8, y9⟩ := F2
        obtain ⟨r1, r2, r3, r4, r5⟩ := id T1
        obtain ⟨u1, u2, u3, u4, u5⟩ := id T2
        obtain ⟨p1, p2, p3, p4, p5⟩ := T3
        go_region
        all_goals go_wp2
        obtain ⟨m1, m2⟩ := ((T1.set (.bool G1) (.string S1)).set_ne (w.heap.size + 1) (.bool G2) (.string S2) (by omega)).out
        obtain ⟨m3, m4⟩ := ((T2.set_ne w.heap.size (.bool G1) (.string S1) (by omega)).set (.bool G2) (.string S2)).out
        refine bodyPost_ret (v := .tuple #[.string (E r0), .agg #[.bool G1, .string S1], .agg #[.bool G2, .string S2], .int .i64 0]) (by simp [results, Tryz.results105, go_sem, m1, m2, m3, m4]) rfl (HQ.out _ ?_)
        exact (bset (bset k7 (Nat.le_refl _)) (by omega)).drew
      · have hz : ZG (sg σ X0) = false := by unfold ZG; simp [hx]
        have hext := HI0.out.pos (by omega)
        have hp := fun w' hb => HP.out r0 _ _ w' hext hb
        have e1 : Z (sg σ X0) = .agg #[.bool false, .string (ZS (sg σ X0))] := by unfold Z; rw [hz]
        have e2 : Z (sg (!σ) Y0) = .agg #[.bool (ZG (sg (!σ) Y0)), .string (ZS (sg (!σ) Y0))] := rfl
        rw [e1, e2] at hp
        have HQ := Lib.hid hp; clear hp
        rw [hz] at F1
        clear hz hext e1 e2 hx
        obtain ⟨⟨x1, x2, x3, x4, x5⟩, x6, x7, x8, x9⟩ := F1
        obtain ⟨⟨y1, y2, y3, y4, y5⟩, y6, y7, y8, y9⟩ := F2
        go_wp2
        go_region
        all_goals go_wp2
        obtain ⟨m1, m2⟩ := ((T1.set (.bool false) (.string (ZS (sg σ X0)))).set_ne (w.heap.size + 1) (.bool (ZG (sg (!σ) Y0))) (.string (ZS (sg (!σ) Y0))) (by omega)).out
        obtain ⟨m3, m4⟩ := ((T2.set_ne w.heap.size (.bool false) (.string (ZS (sg σ X0))) (by omega)).set (.bool (ZG (sg (!σ) Y0))) (.string (ZS (sg (!σ) Y0)))).out
        refine bodyPost_ret (v := .tuple #[.string (E r0), .agg #[.bool false, .string (ZS (sg σ X0))], .agg #[.bool (ZG (sg (!σ) Y0)), .string (ZS (sg (!σ) Y0))], .int .i64 0]) (by simp [results, Tryz.results105, go_sem, m1, m2, m3, m4]) rfl (HQ.out _ ?_)
        exact (bset (bset k (Nat.le_refl _)) (by omega)).drew
    · have hpos : 0 < gk := by omega
      have hE := not_empty_of (s := E gk) (E_pos_size hpos)
      have hD := fun w => divMod_yes (E r0) (E gk) w (can_E' HR0.out) (can_E' HR1.out)
      rw [V_E, V_E, divN_pos hpos] at hD
      have hnx := HI.out.next h0 HL.out HL2.out
      have hx := fun w => step_inv σ X0 X1 (r0 / gk) w HB.out.1 HB.out.2.1 (Nat.lt_of_le_of_lt (Nat.div_le_self _ _) HR0.out) (bounds4 hnx).2.1
      have hy := fun w => step_inv' σ Y0 Y1 (r0 / gk) w HB.out.2.2.1 HB.out.2.2.2 (Nat.lt_of_le_of_lt (Nat.div_le_self _ _) HR0.out) (bounds4 hnx).2.2.2
      have hlt := Nat.mod_lt r0 hpos
      have HLT := Lib.hid hlt; clear hlt
      have HD := Lib.hid hD; clear hD
      have HX := Lib.hid hx; clear hx
      have HY := Lib.hid hy; clear hy
      have HN := Lib.hid hnx; clear hnx
      have HPOS := Lib.hid hpos; clear hpos h0
      obtain ⟨p1, p2, p3, p4, p5⟩ := id T3
      go_wp2_with fail
      refine (HD.out _).mono ?_; rintro e w5 ⟨rfl, b5⟩
      have k5 := bnextW k b5 k.size
      have T1 := T1.below b5 rfl
      have T2 := T2.below b5 rfl
      have T3 := T3.below b5 rfl
      have F1 := F1.below b5 rfl
      have F2 := F2.below b5 rfl
      clear p1 p2 p3 p4 p5
      obtain ⟨p1, p2, p3, p4, p5⟩ := id T3
      obtain ⟨⟨x1, x2, x3, x4, x5⟩, x6, x7, x8, x9⟩ := id F1
      go_wp2_with fail
      refine (HX.out _).mono ?_; rintro e w6 ⟨rfl, b6⟩
      have k6 := bnextW (bset k5 (g := w.heap.size + 1 + 1) (u := .string (E gk)) (v := .string (E (r0 % gk))) (by omega)) b6 (by simp; exact k5.size)
      have T1 := (T1.set_ne (w.heap.size + 1 + 1) (.string (E gk)) (.string (E (r0 % gk))) (by omega)).below b6 rfl
      have T2 := (T2.set_ne (w.heap.size + 1 + 1) (.string (E gk)) (.string (E (r0 % gk))) (by omega)).below b6 rfl
      have T3 := (T3.set (.string (E gk)) (.string (E (r0 % gk)))).below b6 rfl
      have F1 := (F1.set_ne (w.heap.size + 1 + 1) (.string (E gk)) (.string (E (r0 % gk))) (by omega)).below b6 rfl
      have F2 := (F2.set_ne (w.heap.size + 1 + 1) (.string (E gk)) (.string (E (r0 % gk))) (by omega)).below b6 rfl
      clear p1 p2 p3 p4 p5 x1 x2 x3 x4 x5 x6 x7 x8 x9
      obtain ⟨⟨x1, x2, x3, x4, x5⟩, x6, x7, x8, x9⟩ := id F1
      obtain ⟨y1, y2, y3, y4⟩ := F2.out
      go_wp2_with fail
      refine (HY.out _).mono ?_; rintro e w7 ⟨rfl, b7⟩
      have k7 := bnextW (bset4 k6 (g := w2.heap.size) (by omega)) b7 (by simp; exact k6.size)
      have T1 := (T1.set4_ne w2.heap.size _ _ _ _ (by omega)).below b7 rfl
      have T2 := (T2.set4_ne w2.heap.size _ _ _ _ (by omega)).below b7 rfl
      have T3 := (T3.set4_ne w2.heap.size _ _ _ _ (by omega)).below b7 rfl
      have F1 := (F1.set _ _ _ _).below b7 rfl
      have F2 := (F2.set4_ne w2.heap.size _ _ _ _ (by omega)).below b7 rfl
      clear x1 x2 x3 x4 x5 x6 x7 x8 x9 y1 y2 y3 y4
      obtain ⟨⟨x1, x2, x3, x4, x5⟩, x6, x7, x8, x9⟩ := id F2
      go_wp2
      go_roundg (r0 % gk)
      case rel =>
        refine ⟨gk, X1, X0 + r0 / gk * X1, Y1, Y0 + r0 / gk * Y1, !σ, HN.out, HR1.out, Nat.lt_trans HLT.out HR1.out, ?_, ?_, ?_, ?_, ?_, ?_, hX, hY⟩
        · exact T3.set4_ne w4.heap.size _ _ _ _ (by omega)
        · rw [Bool.not_not]; exact F1.set4_ne w4.heap.size _ _ _ _ (by omega)
        · rw [Bool.not_not]; exact F2.set _ _ _ _
        · exact T1.set4_ne w4.heap.size _ _ _ _ (by omega)
        · exact T2.set4_ne w4.heap.size _ _ _ _ (by omega)
        · exact bset4 k7 (by omega)
      case measure => exact HLT.out
end Go.Proofs.YtogmgfdihmacpaaGreatDoor
