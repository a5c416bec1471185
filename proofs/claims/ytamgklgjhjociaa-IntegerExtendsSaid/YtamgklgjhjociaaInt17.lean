/-
  The examples of layer 2's statements hold.
-/
import Derived.Test.YtamgklgjhjociaaInt16
import Derived.Deep.RegionHeld3
namespace Go.Proofs.Ytamgklgjhjociaa
open Go.RowKit
set_option linter.unusedVariables false

theorem nof_1 (w : World) : Calls Try.prog 47 #[.int .u64 1] w fun e w' => e = .returned (.string ⟨#[1]⟩) ∧ Below w.heap.size w w' := of_lit 1 _ w (by omega) l_1
theorem nof_6 (w : World) : Calls Try.prog 47 #[.int .u64 6] w fun e w' => e = .returned (.string ⟨#[6]⟩) ∧ Below w.heap.size w w' := of_lit 6 _ w (by omega) l_6
theorem keepk {w a b : World} {B : Nat} (h : Below B w a) (k : Below a.heap.size a b) (hB : B ≤ a.heap.size) : Below B w b := bnextW h k hB
theorem keepb {w a b : World} (h : Below w.heap.size w a) (k : Below a.heap.size a b) : Below w.heap.size w b := bnextW h k h.size

theorem keepS {w w1 w2 : World} {a b c d f : Nat} {a0 a1 b0 b1 c0 c1 d0 d1 f0 f1 : Value} (b99 : Below w1.heap.size w1 w2)
    (h : w1.cell? ⟨a, 0, none⟩ = some a0 ∧ w1.cell? ⟨a, 1, none⟩ = some a1 ∧ w1.cell? ⟨b, 0, none⟩ = some b0 ∧ w1.cell? ⟨b, 1, none⟩ = some b1 ∧ w1.cell? ⟨c, 0, none⟩ = some c0 ∧ w1.cell? ⟨c, 1, none⟩ = some c1 ∧ w1.cell? ⟨d, 0, none⟩ = some d0 ∧ w1.cell? ⟨d, 1, none⟩ = some d1 ∧ w1.cell? ⟨f, 0, none⟩ = some f0 ∧ w1.cell? ⟨f, 1, none⟩ = some f1 ∧ Below w.heap.size w w1) :
    w2.cell? ⟨a, 0, none⟩ = some a0 ∧ w2.cell? ⟨a, 1, none⟩ = some a1 ∧ w2.cell? ⟨b, 0, none⟩ = some b0 ∧ w2.cell? ⟨b, 1, none⟩ = some b1 ∧ w2.cell? ⟨c, 0, none⟩ = some c0 ∧ w2.cell? ⟨c, 1, none⟩ = some c1 ∧ w2.cell? ⟨d, 0, none⟩ = some d0 ∧ w2.cell? ⟨d, 1, none⟩ = some d1 ∧ w2.cell? ⟨f, 0, none⟩ = some f0 ∧ w2.cell? ⟨f, 1, none⟩ = some f1 ∧ Below w.heap.size w w2 := by
  obtain ⟨h0, h1, h2, h3, h4, h5, h6, h7, h8, h9, k⟩ := h
  exact ⟨keepc b99 h0, keepc b99 h1, keepc b99 h2, keepc b99 h3, keepc b99 h4, keepc b99 h5, keepc b99 h6, keepc b99 h7, keepc b99 h8, keepc b99 h9, keepb k b99⟩
theorem keepD {w w1 : World} {a b c d f : Nat} {a0 a1 b0 b1 c0 c1 d0 d1 f0 f1 : Value}
    (h : w1.cell? ⟨a, 0, none⟩ = some a0 ∧ w1.cell? ⟨a, 1, none⟩ = some a1 ∧ w1.cell? ⟨b, 0, none⟩ = some b0 ∧ w1.cell? ⟨b, 1, none⟩ = some b1 ∧ w1.cell? ⟨c, 0, none⟩ = some c0 ∧ w1.cell? ⟨c, 1, none⟩ = some c1 ∧ w1.cell? ⟨d, 0, none⟩ = some d0 ∧ w1.cell? ⟨d, 1, none⟩ = some d1 ∧ w1.cell? ⟨f, 0, none⟩ = some f0 ∧ w1.cell? ⟨f, 1, none⟩ = some f1 ∧ Below w.heap.size w w1) :
    w1.drew.cell? ⟨a, 0, none⟩ = some a0 ∧ w1.drew.cell? ⟨a, 1, none⟩ = some a1 ∧ w1.drew.cell? ⟨b, 0, none⟩ = some b0 ∧ w1.drew.cell? ⟨b, 1, none⟩ = some b1 ∧ w1.drew.cell? ⟨c, 0, none⟩ = some c0 ∧ w1.drew.cell? ⟨c, 1, none⟩ = some c1 ∧ w1.drew.cell? ⟨d, 0, none⟩ = some d0 ∧ w1.drew.cell? ⟨d, 1, none⟩ = some d1 ∧ w1.drew.cell? ⟨f, 0, none⟩ = some f0 ∧ w1.drew.cell? ⟨f, 1, none⟩ = some f1 ∧ Below w.heap.size w w1.drew := by
  obtain ⟨h0, h1, h2, h3, h4, h5, h6, h7, h8, h9, k⟩ := h
  exact ⟨h0, h1, h2, h3, h4, h5, h6, h7, h8, h9, k.drew⟩
theorem keepL {w w1 : World} {a b c d f : Nat} {a0 a1 b0 b1 c0 c1 d0 d1 f0 f1 : Value}
    (h : w1.cell? ⟨a, 0, none⟩ = some a0 ∧ w1.cell? ⟨a, 1, none⟩ = some a1 ∧ w1.cell? ⟨b, 0, none⟩ = some b0 ∧ w1.cell? ⟨b, 1, none⟩ = some b1 ∧ w1.cell? ⟨c, 0, none⟩ = some c0 ∧ w1.cell? ⟨c, 1, none⟩ = some c1 ∧ w1.cell? ⟨d, 0, none⟩ = some d0 ∧ w1.cell? ⟨d, 1, none⟩ = some d1 ∧ w1.cell? ⟨f, 0, none⟩ = some f0 ∧ w1.cell? ⟨f, 1, none⟩ = some f1 ∧ Below w.heap.size w w1) : Below w.heap.size w w1 := by
  obtain ⟨h0, h1, h2, h3, h4, h5, h6, h7, h8, h9, k⟩ := h
  exact k

set_option maxHeartbeats 8000000 in
set_option maxRecDepth 20000 in
theorem awake2 (w : World) : Calls Try.prog 13 #[] w fun e w' => e = .returned (.bool true) ∧ Below w.heap.size w w' := by
  go_enter Try.func13, Try.ntmps13
  go_wp2_with fail
  refine (of_m7 _).mono ?_; rintro e w1 ⟨rfl, b1⟩
  have k : Below w.heap.size w w1 := b1
  go_wp2_with fail
  refine (of_p2 _).mono ?_; rintro e w2 ⟨rfl, b2⟩
  have k := bnextW k b2 k.size
  go_wp2_with fail
  refine (ex_div1 _).mono ?_; rintro e w3 ⟨rfl, b3⟩
  have k := bnextW k b3 k.size
  have TA := Two.new w3 (.bool true) (.string ⟨#[4]⟩) 24 w3.heap.size rfl
  have k := k.alloc k.size (.cells #[.bool true, .string ⟨#[4]⟩] 24)
  go_wp2_with fail
  refine (of_p7 _).mono ?_; rintro e w4 ⟨rfl, b4⟩
  have k := bnextW k b4 k.size
  have TA := TA.below b4 rfl
  go_wp2_with fail
  refine (of_m2 _).mono ?_; rintro e w5 ⟨rfl, b5⟩
  have k := bnextW k b5 k.size
  have TA := TA.below b5 rfl
  go_wp2_with fail
  refine (ex_div2 _).mono ?_; rintro e w6 ⟨rfl, b6⟩
  have k := bnextW k b6 k.size
  have TA := TA.below b6 rfl
  have TA := TA.alloc (.cells #[.bool true, .string ⟨#[3]⟩] 24)
  have TB := Two.new w6 (.bool true) (.string ⟨#[3]⟩) 24 w6.heap.size rfl
  have k := k.alloc k.size (.cells #[.bool true, .string ⟨#[3]⟩] 24)
  go_wp2_with fail
  refine (of_lit 12 _ _ (by omega) l_12).mono ?_; rintro e w7 ⟨rfl, b7⟩
  have k := bnextW k b7 k.size
  have TA := TA.below b7 rfl
  have TB := TB.below b7 rfl
  go_wp2_with fail
  refine (of_lit 18 _ _ (by omega) l_18).mono ?_; rintro e w8 ⟨rfl, b8⟩
  have k := bnextW k b8 k.size
  have TA := TA.below b8 rfl
  have TB := TB.below b8 rfl
  go_wp2_with fail
  refine (ex_ext _).mono ?_; rintro e w9 ⟨rfl, b9⟩
  have k := bnextW k b9 k.size
  have TA := TA.below b9 rfl
  have TB := TB.below b9 rfl
  have TA := TA.alloc (.cells #[.bool false, .string ⟨#[2]⟩] 24)
  have TB := TB.alloc (.cells #[.bool false, .string ⟨#[2]⟩] 24)
  have TC := Two.new w9 (.bool false) (.string ⟨#[2]⟩) 24 w9.heap.size rfl
  have k := k.alloc k.size (.cells #[.bool false, .string ⟨#[2]⟩] 24)
  have TA := TA.alloc (.cells #[.bool true, .string ⟨#[1]⟩] 24)
  have TB := TB.alloc (.cells #[.bool true, .string ⟨#[1]⟩] 24)
  have TC := TC.alloc (.cells #[.bool true, .string ⟨#[1]⟩] 24)
  have TD := Two.new (w9.alloc (.cells #[.bool false, .string ⟨#[2]⟩] 24)) (.bool true) (.string ⟨#[1]⟩) 24 (w9.heap.size + 1) (by simp)
  have k := k.alloc k.size (.cells #[.bool true, .string ⟨#[1]⟩] 24)
  go_wp2_with fail
  refine (of_p7 _).mono ?_; rintro e w10 ⟨rfl, b10⟩
  have k := bnextW k b10 k.size
  have TA := TA.below b10 rfl
  have TB := TB.below b10 rfl
  have TC := TC.below b10 rfl
  have TD := TD.below b10 rfl
  go_wp2_with fail
  refine (of_p2 _).mono ?_; rintro e w11 ⟨rfl, b11⟩
  have k := bnextW k b11 k.size
  have TA := TA.below b11 rfl
  have TB := TB.below b11 rfl
  have TC := TC.below b11 rfl
  have TD := TD.below b11 rfl
  go_wp2_with fail
  refine (ex_divide _).mono ?_; rintro e w12 ⟨rfl, b12⟩
  have k := bnextW k b12 k.size
  have TA := TA.below b12 rfl
  have TB := TB.below b12 rfl
  have TC := TC.below b12 rfl
  have TD := TD.below b12 rfl
  have TA := TA.alloc (.cells #[.bool false, .string ⟨#[]⟩] 24)
  have TB := TB.alloc (.cells #[.bool false, .string ⟨#[]⟩] 24)
  have TC := TC.alloc (.cells #[.bool false, .string ⟨#[]⟩] 24)
  have TD := TD.alloc (.cells #[.bool false, .string ⟨#[]⟩] 24)
  have TE := Two.new w12 (.bool false) (.string ⟨#[]⟩) 24 w12.heap.size rfl
  have k := k.alloc k.size (.cells #[.bool false, .string ⟨#[]⟩] 24)
  go_wp2_with fail
  refine (ex_parse _).mono ?_; rintro e w13 ⟨rfl, b13⟩
  have k := bnextW k b13 k.size
  have TA := TA.below b13 rfl
  have TB := TB.below b13 rfl
  have TC := TC.below b13 rfl
  have TD := TD.below b13 rfl
  have TA := TA.alloc (.cells #[.bool true, .string ⟨#[12]⟩] 24)
  have TB := TB.alloc (.cells #[.bool true, .string ⟨#[12]⟩] 24)
  have TC := TC.alloc (.cells #[.bool true, .string ⟨#[12]⟩] 24)
  have TD := TD.alloc (.cells #[.bool true, .string ⟨#[12]⟩] 24)
  have TF := Two.new w13 (.bool true) (.string ⟨#[12]⟩) 24 w13.heap.size rfl
  have k := k.alloc k.size (.cells #[.bool true, .string ⟨#[12]⟩] 24)
  go_wp2
  go_region_held3 (fun w' => w'.cell? ⟨w3.heap.size, 0, none⟩ = some (.bool true) ∧ w'.cell? ⟨w3.heap.size, 1, none⟩ = some (.string ⟨#[4]⟩) ∧ w'.cell? ⟨w6.heap.size, 0, none⟩ = some (.bool true) ∧ w'.cell? ⟨w6.heap.size, 1, none⟩ = some (.string ⟨#[3]⟩) ∧ w'.cell? ⟨w9.heap.size, 0, none⟩ = some (.bool false) ∧ w'.cell? ⟨w9.heap.size, 1, none⟩ = some (.string ⟨#[2]⟩) ∧ w'.cell? ⟨w9.heap.size + 1, 0, none⟩ = some (.bool true) ∧ w'.cell? ⟨w9.heap.size + 1, 1, none⟩ = some (.string ⟨#[1]⟩) ∧ w'.cell? ⟨w13.heap.size, 0, none⟩ = some (.bool true) ∧ w'.cell? ⟨w13.heap.size, 1, none⟩ = some (.string ⟨#[12]⟩) ∧ Below w.heap.size w w') (first | exact ⟨TA.1, TA.2.1, TB.1, TB.2.1, TC.1, TC.2.1, TD.1, TD.2.1, TF.1, TF.2.1, k.drew⟩ | exact keepS b99 (by assumption))
    (first
    | (go_at_call 16; ((with_reducible refine (of_m4 _).mono ?_); rintro e w99 ⟨rfl, b99⟩))
    | (go_at_call 16; ((with_reducible refine (of_m3 _).mono ?_); rintro e w99 ⟨rfl, b99⟩))
    | (go_at_call 47; ((with_reducible refine (nof_1 _).mono ?_); rintro e w99 ⟨rfl, b99⟩)))
  all_goals go_wp2
  go_region_held3 (fun w' => w'.cell? ⟨w3.heap.size, 0, none⟩ = some (.bool true) ∧ w'.cell? ⟨w3.heap.size, 1, none⟩ = some (.string ⟨#[4]⟩) ∧ w'.cell? ⟨w6.heap.size, 0, none⟩ = some (.bool true) ∧ w'.cell? ⟨w6.heap.size, 1, none⟩ = some (.string ⟨#[3]⟩) ∧ w'.cell? ⟨w9.heap.size, 0, none⟩ = some (.bool false) ∧ w'.cell? ⟨w9.heap.size, 1, none⟩ = some (.string ⟨#[2]⟩) ∧ w'.cell? ⟨w9.heap.size + 1, 0, none⟩ = some (.bool true) ∧ w'.cell? ⟨w9.heap.size + 1, 1, none⟩ = some (.string ⟨#[1]⟩) ∧ w'.cell? ⟨w13.heap.size, 0, none⟩ = some (.bool true) ∧ w'.cell? ⟨w13.heap.size, 1, none⟩ = some (.string ⟨#[12]⟩) ∧ Below w.heap.size w w') (first | exact keepD (by assumption) | exact keepS b99 (by assumption))
    (first
    | (go_at_call 16; ((with_reducible refine (of_p2 _).mono ?_); rintro e w99 ⟨rfl, b99⟩))
    | (go_at_call 16; ((with_reducible refine (of_m1 _).mono ?_); rintro e w99 ⟨rfl, b99⟩))
    | (go_at_call 16; ((with_reducible refine (of_m12 _).mono ?_); rintro e w99 ⟨rfl, b99⟩))
    | (go_at_call 16; ((with_reducible refine (of_p12 _).mono ?_); rintro e w99 ⟨rfl, b99⟩))
    | (go_at_call 47; ((with_reducible refine (nof_6 _).mono ?_); rintro e w99 ⟨rfl, b99⟩)))
  all_goals go_wp2
  all_goals go_ret
  all_goals exact ⟨rfl, keepL (by assumption)⟩
end Go.Proofs.Ytamgklgjhjociaa
