/-
  Contracts of package modular, the second part: rows of words; the library's Add64 and Sub64; addRow, subtractRow.
-/
import Derived.Test.YtogmgfdihmacpaaGreatDoorMod1
import Derived.Test.YtogmgfdihmacpaaGreatDoorNC
import Derived.Shelf.Spec.BitsCarry
namespace Go.Proofs.YtogmgfdihmacpaaGreatDoor
open Go.RowKit
set_option linter.unusedVariables false

theorem add64_run (x y c : Nat) (hc : c ≤ 1) (w : World) :
    (callFunc 118 #[.int .u64 x, .int .u64 y, .int .u64 c]).run Tryz.prog w =
      .ok (.value (.tuple #[.int .u64 (((x + y + c) % 18446744073709551616 : Nat) : Int), .int .u64 (((x + y + c) / 18446744073709551616 : Nat) : Int)])) w := by
  rw [run_callFunc_extern Tryz.func118 (by kernel_rfl) (by kernel_rfl) (by kernel_rfl) (e := add64Entry) (by kernel_rfl), run_add64 x y c (by omega) (by omega) (by omega) (by omega)]
  simp only [Result.andThen]
  congr 5 <;> omega
theorem add64_run0 (x c : Nat) (hc : c ≤ 1) (w : World) :
    (callFunc 118 #[.int .u64 x, .int .u64 0, .int .u64 c]).run Tryz.prog w =
      .ok (.value (.tuple #[.int .u64 (((x + 0 + c) % 18446744073709551616 : Nat) : Int), .int .u64 (((x + 0 + c) / 18446744073709551616 : Nat) : Int)])) w := add64_run x 0 c hc w
theorem add64_run1 (x y : Nat) (w : World) :
    (callFunc 118 #[.int .u64 x, .int .u64 y, .int .u64 0]).run Tryz.prog w =
      .ok (.value (.tuple #[.int .u64 (((x + y + 0) % 18446744073709551616 : Nat) : Int), .int .u64 (((x + y + 0) / 18446744073709551616 : Nat) : Int)])) w := add64_run x y 0 (by omega) w
theorem sub64_run (x y b : Nat) (hb : b ≤ 1) (w : World) :
    (callFunc 141 #[.int .u64 x, .int .u64 y, .int .u64 b]).run Tryz.prog w =
      .ok (.value (.tuple #[.int .u64 (((x + 18446744073709551616 - y - b) % 18446744073709551616 : Nat) : Int), .int .u64 ((if x < y + b then 1 else 0 : Nat) : Int)])) w := by
  rw [run_callFunc_extern Tryz.func141 (by kernel_rfl) (by kernel_rfl) (by kernel_rfl) (e := sub64Entry) (by kernel_rfl), run_sub64 x y b hb]
  rfl

/-- Of the words of N, n lie from place o of block g on. -/
def WordsQ (w : World) (g o n N : Nat) : Prop := ∀ j, j < n → w.cell? ⟨g, o + j, none⟩ = some (.int .u64 (wq N j : Nat))
theorem WordsQ.below {w w' : World} {g o n N : Nat} (h : WordsQ w g o n N) (hb : Below w.heap.size w w') (hg : g < w.heap.size) : WordsQ w' g o n N :=
  fun j hj => (hb.cell (p := ⟨g, o + j, none⟩) hg).trans (h j hj)
theorem Only.wordsQ {g : Nat} {w w' : World} (h : Only g w w') {b o n N : Nat} (hb : b < w.heap.size) (hn : b ≠ g) (hw : WordsQ w b o n N) : WordsQ w' b o n N :=
  fun j hj => (h.cell hb hn).trans (hw j hj)
/-- Of the n words from place o on, the first k are those of R, the others those of P; outside of them f. -/
def PartQ (w : World) (g tt L o n k R P : Nat) (f : Nat → Nat) : Prop :=
  ∃ h : Nat → Nat, w.rowIs g tt L (fun j => .int .u64 (h j : Nat)) ∧ (∀ i, i < k → h (o + i) = wq R i) ∧ (∀ i, k ≤ i → i < n → h (o + i) = wq P i) ∧ ∀ j, (j < o ∨ o + n ≤ j) → h j = f j
theorem PartQ.step {w : World} {g tt L o n k R P : Nat} {f : Nat → Nat} {v : Int} (h : PartQ w g tt L o n k R P f) (hk : k < n) (hv : v = (wq R k : Nat)) :
    PartQ (w.setCell ⟨g, o + k, none⟩ (.int .u64 v)) g tt L o n (k + 1) R P f := by
  obtain ⟨h, hr, h1, h2, h3⟩ := h
  refine ⟨fun j => if j = o + k then wq R k else h j, set_row (h := fun j => if j = o + k then wq R k else h j) hr (by rw [hv]; simp) (fun j hj => by simp [hj]), fun i hi => ?_, fun i h4 h5 => ?_, fun j hj => ?_⟩
  · show (if o + i = o + k then _ else _) = _
    by_cases e : i = k
    · rw [if_pos (by omega), e]
    · rw [if_neg (by omega)]; exact h1 i (by omega)
  · show (if o + i = o + k then _ else _) = _
    rw [if_neg (by omega)]; exact h2 i (by omega) h5
  · show (if j = o + k then _ else _) = _
    rw [if_neg (by omega)]; exact h3 j hj
theorem PartQ.cell {w : World} {g tt L o n k R P : Nat} {f : Nat → Nat} (h : PartQ w g tt L o n k R P f) (hk : k < n) (hL : o + n ≤ L) : w.cell? ⟨g, o + k, none⟩ = some (.int .u64 (wq P k : Nat)) := by
  obtain ⟨h, hr, h1, h2, h3⟩ := h
  rw [hr.cell (by omega), h2 k (by omega) hk]
theorem PartQ.frozen {w : World} {g tt L o n k R P : Nat} {f : Nat → Nat} (h : PartQ w g tt L o n k R P f) (i : Nat) : w.frozen? ⟨g, i, none⟩ = false := by
  obtain ⟨h, hr, h1, h2, h3⟩ := h
  exact hr.frozen i
theorem PartQ.drewN {w : World} {g tt L o n k R P : Nat} {f : Nat → Nat} (h : PartQ w g tt L o n k R P f) (q : Nat) : PartQ (w.drewN q) g tt L o n k R P f := h
theorem PartQ.drew {w : World} {g tt L o n k R P : Nat} {f : Nat → Nat} (h : PartQ w g tt L o n k R P f) : PartQ w.drew g tt L o n k R P f := h
theorem boQ_end {P Z m : Nat} (hP : P < B64 ^ m) (hZ : Z < B64 ^ m) : boQ P Z m = if P < Z then 1 else 0 := by
  unfold boQ; rw [Nat.mod_eq_of_lt hP, Nat.mod_eq_of_lt hZ]

set_option maxHeartbeats 400000 in
set_option maxRecDepth 20000 in
theorem maddRow_any (g o n c gd od m cd D P L tt : Nat) (f : Nat → Nat) (w : World) (hnm : n = m + 1) (hn : n ≤ c) (hc : c ≤ 1000) (hmd : m ≤ cd) (hcd : cd ≤ 1000) (hL : o + n ≤ L)
    (hD : D < B64 ^ m) (hpart : PartQ w g tt L o (m + 1) 0 0 P f) (hne : gd ≠ g) (hgd : gd < w.heap.size) (hd : WordsQ w gd od m D) :
    Calls Tryz.prog 116 #[.slice (some ⟨g, o, none⟩) n c, .slice (some ⟨gd, od, none⟩) m cd] w fun e w' => e = .returned (.int .u64 (adQ P D (m + 1) : Nat)) ∧ PartQ w' g tt L o (m + 1) (m + 1) (P + D) P f ∧ Only g w w' := by
  subst hnm
  have hpart : PartQ w g tt L o (m + 1) 0 (P + D) P f := by
    obtain ⟨h, h1, h2, h3⟩ := hpart
    exact ⟨h, h1, fun i hi => absurd hi (by omega), h3⟩
  have HW := Lib.hid hd; clear hd
  have HD := Lib.hid hD; clear hD
  have HPA := Lib.hid hpart; clear hpart
  go_enter Tryz.func116, Tryz.ntmps116
  go_wp2
  go_loopw [5, 6, 11] (fun cr _ v wr => ∃ k : Nat, k ≤ m ∧ v = .int .i64 k ∧ cr = .int .u64 (adQ P D k : Nat) ∧ PartQ wr g tt L o (m + 1) k (P + D) P f ∧ Only g w wr) (fun _ _ v _ => m - (intOf v).toNat)
  case atStart => exact ⟨0, by omega, rfl, by rw [adQ_zero]; rfl, HPA.out, Only.refl _ _⟩
  case round =>
    obtain ⟨k, hk, rfl, rfl, hpa, ho⟩ := hrel
    have hcar := adQ_le P D k
    have hs1 := adQ_word P D k
    have hs2 := adQ_next P D k
    by_cases hlt : k < m
    · have hcell := hpa.cell (by omega) hL
      have hfr := hpa.frozen (o + k)
      have hsrc : wr.cell? ⟨gd, od + k, none⟩ = some (.int .u64 (wq D k : Nat)) := ho.wordsQ hgd hne HW.out k hlt
      have b1 := wq_lt D k
      have b2 := wq_lt P k
      generalize wq D k = y at *
      obtain ⟨x, hx⟩ : ∃ x, x = wq P k := ⟨_, rfl⟩
      obtain ⟨cr, hcr⟩ : ∃ r, r = adQ P D k := ⟨_, rfl⟩
      rw [← hx] at hs1 hs2 hcell b2
      rw [← hcr] at hs1 hs2 hcar ⊢
      have HS1 := Lib.hid hs1; clear hs1 hx hcr
      have HS2 := Lib.hid hs2; clear hs2
      have HPA := Lib.hid hpa; clear hpa
      have i1 : (k : Int) < (m : Int) := by omega
      have i2 : (k : Int) < (m : Int) + 1 := by omega
      have hrun := add64_run x y cr hcar
      go_wp2
      go_roundw
      case rel => exact ⟨k + 1, by omega, by go_num, int_eq (by rw [← HS2.out, b64_eq]; simp), HPA.out.step (by omega) (by rw [← HS1.out, b64_eq]; simp), ho.set _ _⟩
      case measure => simp [intOf]; omega
    · obtain rfl : k = m := by omega
      have hcell := hpa.cell (by omega) hL
      have hfr := hpa.frozen (o + k)
      have b2 := wq_lt P k
      have hy0 : wq D k = 0 := wq_small HD.out
      rw [hy0] at hs1 hs2
      obtain ⟨x, hx⟩ : ∃ x, x = wq P k := ⟨_, rfl⟩
      obtain ⟨cr, hcr⟩ : ∃ r, r = adQ P D k := ⟨_, rfl⟩
      rw [← hx] at hs1 hs2 hcell b2
      rw [← hcr] at hs1 hs2 hcar ⊢
      have HS1 := Lib.hid hs1; clear hs1 hx hcr hy0
      have HS2 := Lib.hid hs2; clear hs2
      have HPA := Lib.hid hpa; clear hpa
      have hrun := add64_run0 x cr hcar
      go_wp2
      go_ret
      refine ⟨ret_int (by rw [← HS2.out, b64_eq]; simp), HPA.out.step (by omega) (by rw [← HS1.out, b64_eq]; simp), ho.set _ _⟩

/-- One word of c + q y with Mul64 and Add64. -/
theorem mul_add_word (y q cr : Nat) (hy : y < 18446744073709551616) (hq : q < 18446744073709551616) (hc : cr < 18446744073709551616) :
    y * q / 18446744073709551616 + (y * q % 18446744073709551616 + cr + 0) / 18446744073709551616 = (cr + q * y) / 18446744073709551616 ∧
    (y * q % 18446744073709551616 + cr + 0) % 18446744073709551616 = (cr + q * y) % 18446744073709551616 ∧ (cr + q * y) / 18446744073709551616 < 18446744073709551616 := by
  have h := Nat.mul_le_mul (show q ≤ 18446744073709551615 by omega) (show y ≤ 18446744073709551615 by omega)
  rw [Nat.mul_comm y q]
  generalize q * y = t at *
  omega

set_option maxHeartbeats 400000 in
set_option maxRecDepth 20000 in
theorem msubtractRow_any (g o n c gd od m cd q D P L tt : Nat) (f : Nat → Nat) (w : World) (hnm : n = m + 1) (hn : n ≤ c) (hc : c ≤ 1000) (hmd : m ≤ cd) (hcd : cd ≤ 1000) (hL : o + n ≤ L) (hq : q < 18446744073709551616)
    (hD : D < B64 ^ m) (hP : P < B64 ^ (m + 1)) (hpart : PartQ w g tt L o (m + 1) 0 0 P f) (hne : gd ≠ g) (hgd : gd < w.heap.size) (hd : WordsQ w gd od m D) :
    Calls Tryz.prog 114 #[.slice (some ⟨g, o, none⟩) n c, .slice (some ⟨gd, od, none⟩) m cd, .int .u64 q] w fun e w' => e = .returned (.int .u64 (boQ P (q * D) (m + 1) : Nat)) ∧ PartQ w' g tt L o (m + 1) (m + 1) (diQ P (q * D) (m + 1)) P f ∧ Only g w w' := by
  subst hnm
  have hpart : PartQ w g tt L o (m + 1) 0 (diQ P (q * D) (m + 1)) P f := by
    obtain ⟨h, h1, h2, h3⟩ := hpart
    exact ⟨h, h1, fun i hi => absurd hi (by omega), h3⟩
  have HW := Lib.hid hd; clear hd
  have HD := Lib.hid hD; clear hD
  have HP := Lib.hid hP; clear hP
  have HPA := Lib.hid hpart; clear hpart
  obtain ⟨Z, hZe⟩ : ∃ Z, Z = q * D := ⟨_, rfl⟩
  rw [← hZe] at HPA ⊢
  have HZE := Lib.hid hZe; clear hZe
  go_enter Tryz.func114, Tryz.ntmps114
  go_wp2
  go_loopw [7, 8, 9, 17] (fun cr br _ v wr => ∃ k : Nat, k ≤ m ∧ v = .int .i64 k ∧ cr = .int .u64 (carQ 0 q D k : Nat) ∧ br = .int .u64 (boQ P Z k : Nat) ∧ PartQ wr g tt L o (m + 1) k (diQ P Z (m + 1)) P f ∧ Only g w wr) (fun _ _ _ v _ => m - (intOf v).toNat)
  case atStart => exact ⟨0, by omega, rfl, by rw [carQ_zero]; rfl, by rw [boQ_zero]; rfl, HPA.out, Only.refl _ _⟩
  case round =>
    obtain ⟨k, hk, rfl, rfl, rfl, hpa, ho⟩ := hrel
    have hcar : carQ 0 q D k < 18446744073709551616 := carQ_lt 0 q D k hq
    have hbl := boQ_le P Z k
    have hs1 := boQ_next P Z k
    have hs2 := diQ_word P Z (m + 1) k (by omega)
    by_cases hlt : k < m
    · have hcw := carQ_word 0 q D k
      have hcn := carQ_next 0 q D k
      rw [wq_zero, Nat.zero_add, Nat.zero_add, ← HZE.out] at hcw
      rw [wq_zero, Nat.zero_add] at hcn
      have hcell := hpa.cell (by omega) hL
      have hfr := hpa.frozen (o + k)
      have hsrc : wr.cell? ⟨gd, od + k, none⟩ = some (.int .u64 (wq D k : Nat)) := ho.wordsQ hgd hne HW.out k hlt
      have b1 := wq_lt D k
      have b2 := wq_lt P k
      have b3 := wq_lt Z k
      generalize wq D k = y at *
      obtain ⟨x, hx⟩ : ∃ x, x = wq P k := ⟨_, rfl⟩
      obtain ⟨z, hz⟩ : ∃ z, z = wq Z k := ⟨_, rfl⟩
      obtain ⟨cr, hcr⟩ : ∃ r, r = carQ 0 q D k := ⟨_, rfl⟩
      obtain ⟨b, hbb⟩ : ∃ b, b = boQ P Z k := ⟨_, rfl⟩
      rw [← hx] at hs1 hs2 hcell b2
      rw [← hz] at hs1 hs2 hcw b3
      rw [← hcr] at hcw hcn hcar ⊢
      rw [← hbb] at hs1 hs2 hbl ⊢
      obtain ⟨m1, m2, m3⟩ := mul_add_word y q cr b1 hq hcar
      rw [b64_eq] at hcw hcn hs2
      rw [hcw] at m2
      rw [hcn] at m1 m3
      have hm := fun w => Tryz.bits_Mul64 y q b1 hq w
      have hlo := Nat.mod_lt (y * q) (show 0 < 18446744073709551616 by decide)
      generalize y * q / 18446744073709551616 = hi at *
      generalize y * q % 18446744073709551616 = lo at *
      have hadd := add64_run1 lo cr
      rw [m2] at hadd
      generalize (lo + cr + 0) / 18446744073709551616 = c2 at *
      have hsub := sub64_run x z b hbl
      rw [show x + 18446744073709551616 - z - b = x + 18446744073709551616 - (z + b) by omega, hs2, ← hs1] at hsub
      have HN := Lib.hid m1
      have hov : hi + c2 < 18446744073709551616 := by rw [m1]; exact m3
      clear m1 m2 m3 hcw hcn hs1 hs2 hx hz hcr hbb hlo
      generalize hbe : boQ P Z (k + 1) = b' at *
      have HBE := Lib.hid hbe; clear hbe
      have HPA := Lib.hid hpa; clear hpa
      have i1 : (k : Int) < (m : Int) := by omega
      have i2 : (k : Int) < (m : Int) + 1 := by omega
      go_wp2_with fail
      refine (hm _).mono ?_
      rintro e w' ⟨rfl, rfl⟩
      go_wp2
      go_roundw
      case rel => exact ⟨k + 1, by omega, by go_num, int_eq (by rw [← HN.out]; simp), int_eq (by rw [HBE.out]), HPA.out.step (by omega) rfl, ho.set _ _⟩
      case measure => simp [intOf]; omega
    · obtain rfl : k = m := by omega
      have hcell := hpa.cell (by omega) hL
      have hfr := hpa.frozen (o + k)
      have b2 := wq_lt P k
      have b3 := wq_lt Z k
      have hzt : carQ 0 q D k = wq Z k := by
        have hl := endQ_lt (c := 0) (b64_pos k) HD.out hq
        rw [carQ_end (b64_pos k) HD.out, HZE.out]
        rw [Nat.zero_add] at hl ⊢
        exact (wq_end hl).symm
      rw [hzt] at hcar ⊢
      obtain ⟨x, hx⟩ : ∃ x, x = wq P k := ⟨_, rfl⟩
      obtain ⟨z, hz⟩ : ∃ z, z = wq Z k := ⟨_, rfl⟩
      obtain ⟨b, hbb⟩ : ∃ b, b = boQ P Z k := ⟨_, rfl⟩
      rw [← hx] at hs1 hs2 hcell b2
      rw [← hz] at hs1 hs2 b3 ⊢
      rw [← hbb] at hs1 hs2 hbl ⊢
      rw [b64_eq] at hs2
      have hsub := sub64_run x z b hbl
      rw [show x + 18446744073709551616 - z - b = x + 18446744073709551616 - (z + b) by omega, hs2, ← hs1] at hsub
      clear hcar hzt hs1 hs2 hx hz hbb
      have HPA := Lib.hid hpa; clear hpa
      go_wp2
      go_ret
      exact ⟨rfl, HPA.out.step (by omega) rfl, ho.set _ _⟩
end Go.Proofs.YtogmgfdihmacpaaGreatDoor
