/-
  Layer 4's statements: PrimeMersenne.
-/
import Derived.Test.YtfokiokcofabcaaDoorLaw4b
namespace Go.Proofs.YtfokiokcofabcaaDoor
open Go.RowKit Go.Deep
set_option linter.unusedVariables false

theorem mers_eq {L : ByteArray} {n : Nat} (h : L.data.toList = enc n) : L = E n := by
  apply ByteArray.ext
  apply Array.ext'
  rw [E_data, h]
theorem mers_true {n : Nat} {a : ByteArray} {b : Bool} (hp : QR.Pr n) (h : StrP n 1 (fun _ => a) b) : b = true := by
  apply h.mpr
  rcases QR.prime_StrongOk hp [V a] with q | ⟨q1, q2, q3⟩
  · exact .inl q
  · exact .inr ⟨q1, q2, fun j _ => q3 _ (by simp)⟩
theorem mers_lim {n k : Nat} (hk : k < 200) (h : n + 1 = 2 ^ k) : n < Lim := by
  have h1 : 2 ^ k ≤ 2 ^ 200 := Nat.pow_le_pow_right (by omega) (by omega)
  have h2 : (2 : Nat) ^ 200 ≤ Lim := by unfold Lim; decide +kernel
  omega
theorem one_byteI (W : World) (x : Nat) (z : Int) (hz : z = (x : Int)) : (convert 38 9 (.slice (some ⟨W.heap.size, 0, none⟩) 1 1)).run Tryd.prog (W.alloc (.cells #[.int .u8 z] 5)) = .ok (.string ⟨#[UInt8.ofNat x]⟩) (W.alloc (.cells #[.int .u8 z] 5)) := by
  subst hz; exact one_byte W x
def mbits : List Nat := [2, 3, 5, 7, 13, 17, 19, 31, 61, 89, 107, 127]
theorem mrow (w : World) (t : TypeId) (j : Nat) (hj : j < 12) : (w.alloc (.cells #[.int .i64 2, .int .i64 3, .int .i64 5, .int .i64 7, .int .i64 13, .int .i64 17, .int .i64 19, .int .i64 31, .int .i64 61, .int .i64 89, .int .i64 107, .int .i64 127] t)).cell? ⟨w.heap.size, j, none⟩ = some (.int .i64 (mbits.getD j 0 : Nat)) := by
  have h := World.rowIs_alloc w #[.int .i64 2, .int .i64 3, .int .i64 5, .int .i64 7, .int .i64 13, .int .i64 17, .int .i64 19, .int .i64 31, .int .i64 61, .int .i64 89, .int .i64 107, .int .i64 127] t (fun i => .int .i64 (mbits.getD i 0 : Nat)) (fun i hi => by
    have h : i = 0 ∨ i = 1 ∨ i = 2 ∨ i = 3 ∨ i = 4 ∨ i = 5 ∨ i = 6 ∨ i = 7 ∨ i = 8 ∨ i = 9 ∨ i = 10 ∨ i = 11 := by simp at hi; omega
    rcases h with rfl | rfl | rfl | rfl | rfl | rfl | rfl | rfl | rfl | rfl | rfl | rfl
    all_goals rfl)
  exact h.cell hj
/-- What the loop of PrimeMersenne knows. -/
def MerR (hd : UInt8) (q : Nat) (w : World) (y : Nat) (vs vi : Value) (wr : World) : Prop :=
  ∃ (i : Nat) (L : ByteArray), i + y = q ∧ vi = .int .i64 i ∧ vs = .string L ∧ L.data.toList = hd :: List.replicate i 255 ∧ Below w.heap.size w wr
theorem mer_size {L : ByteArray} {hd : UInt8} {i : Nat} (h : L.data.toList = hd :: List.replicate i 255) : L.size = i + 1 := by
  rw [size_eq, h]; simp
theorem mer_next {L : ByteArray} {hd : UInt8} {i : Nat} (h : L.data.toList = hd :: List.replicate i 255) : (L ++ (⟨#[255]⟩ : ByteArray)).data.toList = hd :: List.replicate (i + 1) 255 := by
  simp [h, List.replicate_succ']

set_option maxHeartbeats 2000000 in
set_option maxRecDepth 100000 in
theorem mers_2 (n c : Nat) (a : ByteArray) (w : World) (hp : QR.Pr n) (hnl : n < Lim) (he : (3 : UInt8) :: List.replicate 0 255 = enc n) (hc : (c : Int) % 12 = 0) (hc2 : c < 256) (l1 : ¬ (40 : Int) < a.size) (ha : Can a) :
    Calls Tryd.prog 6 #[.int .u8 (c : Int), .string a] w fun e w' => e = .returned (.bool true) ∧ Below w.heap.size w w' := by
  have HA := Lib.hid ha; clear ha
  have HP := Lib.hid hp; clear hp
  have HNL := Lib.hid hnl; clear hnl
  have HE := Lib.hid he; clear he
  have hcell : (w.alloc (.cells #[.int .i64 2, .int .i64 3, .int .i64 5, .int .i64 7, .int .i64 13, .int .i64 17, .int .i64 19, .int .i64 31, .int .i64 61, .int .i64 89, .int .i64 107, .int .i64 127] 3)).cell? ⟨w.heap.size, 0, none⟩ = some (.int .i64 2) := mrow w 3 0 (by omega)
  go_enter Tryd.func6, Tryd.ntmps6
  go_wp2_with fail
  refine (formed4_yes a _ HA.out).mono ?_; rintro e w' ⟨rfl, rfl⟩
  have hbel : Below w.heap.size w (w.alloc (.cells #[.int .i64 2, .int .i64 3, .int .i64 5, .int .i64 7, .int .i64 13, .int .i64 17, .int .i64 19, .int .i64 31, .int .i64 61, .int .i64 89, .int .i64 107, .int .i64 127] 3)) := (Below.refl _ _).alloc (Nat.le_refl _) _
  have hcv := one_byteI (w.alloc (.cells #[.int .i64 2, .int .i64 3, .int .i64 5, .int .i64 7, .int .i64 13, .int .i64 17, .int .i64 19, .int .i64 31, .int .i64 61, .int .i64 89, .int .i64 107, .int .i64 127] 3)) 3 3 rfl
  rw [World.size_alloc] at hcv
  have HB := Lib.hid hbel; clear hbel
  go_wp2
  go_loopg [7, 39] 0 (fun y vs vi wr => MerR 3 0 w y vs vi wr)
  case atStart => exact ⟨0, ⟨#[3]⟩, rfl, rfl, rfl, rfl, HB.out.alloc (by have := HB.out.size; simp) _⟩
  case round =>
    obtain ⟨i, L, hi, rfl, rfl, hL, hb⟩ := hrel
    have hsz := mer_size hL
    have HBR := Lib.hid hb; clear hb
    by_cases hlt : i < 0
    · exact absurd hlt (by omega)
    · obtain rfl : i = 0 := by omega
      obtain rfl : L = E n := mers_eq (hL.trans HE.out)
      clear hL hsz
      go_wp2_with fail
      refine (pstrong_yes n a _ HNL.out HA.out).mono ?_; rintro e w1 ⟨⟨b, rfl, hb⟩, b1⟩
      obtain rfl : b = true := mers_true HP.out hb
      clear hb
      have B1 := Lib.hid (bnext HBR.out b1); clear b1
      go_wp2_with fail
      refine (awake4 _).mono ?_; rintro e w2 ⟨rfl, b2⟩
      have B2 := Lib.hid (bnext B1.out b2); clear b2
      go_wp2
      go_ret
      exact ⟨rfl, B2.out⟩

set_option maxHeartbeats 2000000 in
set_option maxRecDepth 100000 in
theorem mers_3 (n c : Nat) (a : ByteArray) (w : World) (hp : QR.Pr n) (hnl : n < Lim) (he : (7 : UInt8) :: List.replicate 0 255 = enc n) (hc : (c : Int) % 12 = 1) (hc2 : c < 256) (l1 : ¬ (40 : Int) < a.size) (ha : Can a) :
    Calls Tryd.prog 6 #[.int .u8 (c : Int), .string a] w fun e w' => e = .returned (.bool true) ∧ Below w.heap.size w w' := by
  have HA := Lib.hid ha; clear ha
  have HP := Lib.hid hp; clear hp
  have HNL := Lib.hid hnl; clear hnl
  have HE := Lib.hid he; clear he
  have hcell : (w.alloc (.cells #[.int .i64 2, .int .i64 3, .int .i64 5, .int .i64 7, .int .i64 13, .int .i64 17, .int .i64 19, .int .i64 31, .int .i64 61, .int .i64 89, .int .i64 107, .int .i64 127] 3)).cell? ⟨w.heap.size, 1, none⟩ = some (.int .i64 3) := mrow w 3 1 (by omega)
  go_enter Tryd.func6, Tryd.ntmps6
  go_wp2_with fail
  refine (formed4_yes a _ HA.out).mono ?_; rintro e w' ⟨rfl, rfl⟩
  have hbel : Below w.heap.size w (w.alloc (.cells #[.int .i64 2, .int .i64 3, .int .i64 5, .int .i64 7, .int .i64 13, .int .i64 17, .int .i64 19, .int .i64 31, .int .i64 61, .int .i64 89, .int .i64 107, .int .i64 127] 3)) := (Below.refl _ _).alloc (Nat.le_refl _) _
  have hcv := one_byteI (w.alloc (.cells #[.int .i64 2, .int .i64 3, .int .i64 5, .int .i64 7, .int .i64 13, .int .i64 17, .int .i64 19, .int .i64 31, .int .i64 61, .int .i64 89, .int .i64 107, .int .i64 127] 3)) 7 7 rfl
  rw [World.size_alloc] at hcv
  have HB := Lib.hid hbel; clear hbel
  go_wp2
  go_loopg [7, 39] 0 (fun y vs vi wr => MerR 7 0 w y vs vi wr)
  case atStart => exact ⟨0, ⟨#[7]⟩, rfl, rfl, rfl, rfl, HB.out.alloc (by have := HB.out.size; simp) _⟩
  case round =>
    obtain ⟨i, L, hi, rfl, rfl, hL, hb⟩ := hrel
    have hsz := mer_size hL
    have HBR := Lib.hid hb; clear hb
    by_cases hlt : i < 0
    · exact absurd hlt (by omega)
    · obtain rfl : i = 0 := by omega
      obtain rfl : L = E n := mers_eq (hL.trans HE.out)
      clear hL hsz
      go_wp2_with fail
      refine (pstrong_yes n a _ HNL.out HA.out).mono ?_; rintro e w1 ⟨⟨b, rfl, hb⟩, b1⟩
      obtain rfl : b = true := mers_true HP.out hb
      clear hb
      have B1 := Lib.hid (bnext HBR.out b1); clear b1
      go_wp2_with fail
      refine (awake4 _).mono ?_; rintro e w2 ⟨rfl, b2⟩
      have B2 := Lib.hid (bnext B1.out b2); clear b2
      go_wp2
      go_ret
      exact ⟨rfl, B2.out⟩

set_option maxHeartbeats 2000000 in
set_option maxRecDepth 100000 in
theorem mers_5 (n c : Nat) (a : ByteArray) (w : World) (hp : QR.Pr n) (hnl : n < Lim) (he : (31 : UInt8) :: List.replicate 0 255 = enc n) (hc : (c : Int) % 12 = 2) (hc2 : c < 256) (l1 : ¬ (40 : Int) < a.size) (ha : Can a) :
    Calls Tryd.prog 6 #[.int .u8 (c : Int), .string a] w fun e w' => e = .returned (.bool true) ∧ Below w.heap.size w w' := by
  have HA := Lib.hid ha; clear ha
  have HP := Lib.hid hp; clear hp
  have HNL := Lib.hid hnl; clear hnl
  have HE := Lib.hid he; clear he
  have hcell : (w.alloc (.cells #[.int .i64 2, .int .i64 3, .int .i64 5, .int .i64 7, .int .i64 13, .int .i64 17, .int .i64 19, .int .i64 31, .int .i64 61, .int .i64 89, .int .i64 107, .int .i64 127] 3)).cell? ⟨w.heap.size, 2, none⟩ = some (.int .i64 5) := mrow w 3 2 (by omega)
  go_enter Tryd.func6, Tryd.ntmps6
  go_wp2_with fail
  refine (formed4_yes a _ HA.out).mono ?_; rintro e w' ⟨rfl, rfl⟩
  have hbel : Below w.heap.size w (w.alloc (.cells #[.int .i64 2, .int .i64 3, .int .i64 5, .int .i64 7, .int .i64 13, .int .i64 17, .int .i64 19, .int .i64 31, .int .i64 61, .int .i64 89, .int .i64 107, .int .i64 127] 3)) := (Below.refl _ _).alloc (Nat.le_refl _) _
  have hcv := one_byteI (w.alloc (.cells #[.int .i64 2, .int .i64 3, .int .i64 5, .int .i64 7, .int .i64 13, .int .i64 17, .int .i64 19, .int .i64 31, .int .i64 61, .int .i64 89, .int .i64 107, .int .i64 127] 3)) 31 31 rfl
  rw [World.size_alloc] at hcv
  have HB := Lib.hid hbel; clear hbel
  go_wp2
  go_loopg [7, 39] 0 (fun y vs vi wr => MerR 31 0 w y vs vi wr)
  case atStart => exact ⟨0, ⟨#[31]⟩, rfl, rfl, rfl, rfl, HB.out.alloc (by have := HB.out.size; simp) _⟩
  case round =>
    obtain ⟨i, L, hi, rfl, rfl, hL, hb⟩ := hrel
    have hsz := mer_size hL
    have HBR := Lib.hid hb; clear hb
    by_cases hlt : i < 0
    · exact absurd hlt (by omega)
    · obtain rfl : i = 0 := by omega
      obtain rfl : L = E n := mers_eq (hL.trans HE.out)
      clear hL hsz
      go_wp2_with fail
      refine (pstrong_yes n a _ HNL.out HA.out).mono ?_; rintro e w1 ⟨⟨b, rfl, hb⟩, b1⟩
      obtain rfl : b = true := mers_true HP.out hb
      clear hb
      have B1 := Lib.hid (bnext HBR.out b1); clear b1
      go_wp2_with fail
      refine (awake4 _).mono ?_; rintro e w2 ⟨rfl, b2⟩
      have B2 := Lib.hid (bnext B1.out b2); clear b2
      go_wp2
      go_ret
      exact ⟨rfl, B2.out⟩

set_option maxHeartbeats 2000000 in
set_option maxRecDepth 100000 in
theorem mers_7 (n c : Nat) (a : ByteArray) (w : World) (hp : QR.Pr n) (hnl : n < Lim) (he : (127 : UInt8) :: List.replicate 0 255 = enc n) (hc : (c : Int) % 12 = 3) (hc2 : c < 256) (l1 : ¬ (40 : Int) < a.size) (ha : Can a) :
    Calls Tryd.prog 6 #[.int .u8 (c : Int), .string a] w fun e w' => e = .returned (.bool true) ∧ Below w.heap.size w w' := by
  have HA := Lib.hid ha; clear ha
  have HP := Lib.hid hp; clear hp
  have HNL := Lib.hid hnl; clear hnl
  have HE := Lib.hid he; clear he
  have hcell : (w.alloc (.cells #[.int .i64 2, .int .i64 3, .int .i64 5, .int .i64 7, .int .i64 13, .int .i64 17, .int .i64 19, .int .i64 31, .int .i64 61, .int .i64 89, .int .i64 107, .int .i64 127] 3)).cell? ⟨w.heap.size, 3, none⟩ = some (.int .i64 7) := mrow w 3 3 (by omega)
  go_enter Tryd.func6, Tryd.ntmps6
  go_wp2_with fail
  refine (formed4_yes a _ HA.out).mono ?_; rintro e w' ⟨rfl, rfl⟩
  have hbel : Below w.heap.size w (w.alloc (.cells #[.int .i64 2, .int .i64 3, .int .i64 5, .int .i64 7, .int .i64 13, .int .i64 17, .int .i64 19, .int .i64 31, .int .i64 61, .int .i64 89, .int .i64 107, .int .i64 127] 3)) := (Below.refl _ _).alloc (Nat.le_refl _) _
  have hcv := one_byteI (w.alloc (.cells #[.int .i64 2, .int .i64 3, .int .i64 5, .int .i64 7, .int .i64 13, .int .i64 17, .int .i64 19, .int .i64 31, .int .i64 61, .int .i64 89, .int .i64 107, .int .i64 127] 3)) 127 127 rfl
  rw [World.size_alloc] at hcv
  have HB := Lib.hid hbel; clear hbel
  go_wp2
  go_loopg [7, 39] 0 (fun y vs vi wr => MerR 127 0 w y vs vi wr)
  case atStart => exact ⟨0, ⟨#[127]⟩, rfl, rfl, rfl, rfl, HB.out.alloc (by have := HB.out.size; simp) _⟩
  case round =>
    obtain ⟨i, L, hi, rfl, rfl, hL, hb⟩ := hrel
    have hsz := mer_size hL
    have HBR := Lib.hid hb; clear hb
    by_cases hlt : i < 0
    · exact absurd hlt (by omega)
    · obtain rfl : i = 0 := by omega
      obtain rfl : L = E n := mers_eq (hL.trans HE.out)
      clear hL hsz
      go_wp2_with fail
      refine (pstrong_yes n a _ HNL.out HA.out).mono ?_; rintro e w1 ⟨⟨b, rfl, hb⟩, b1⟩
      obtain rfl : b = true := mers_true HP.out hb
      clear hb
      have B1 := Lib.hid (bnext HBR.out b1); clear b1
      go_wp2_with fail
      refine (awake4 _).mono ?_; rintro e w2 ⟨rfl, b2⟩
      have B2 := Lib.hid (bnext B1.out b2); clear b2
      go_wp2
      go_ret
      exact ⟨rfl, B2.out⟩

set_option maxHeartbeats 2000000 in
set_option maxRecDepth 100000 in
theorem mers_13 (n c : Nat) (a : ByteArray) (w : World) (hp : QR.Pr n) (hnl : n < Lim) (he : (31 : UInt8) :: List.replicate 1 255 = enc n) (hc : (c : Int) % 12 = 4) (hc2 : c < 256) (l1 : ¬ (40 : Int) < a.size) (ha : Can a) :
    Calls Tryd.prog 6 #[.int .u8 (c : Int), .string a] w fun e w' => e = .returned (.bool true) ∧ Below w.heap.size w w' := by
  have HA := Lib.hid ha; clear ha
  have HP := Lib.hid hp; clear hp
  have HNL := Lib.hid hnl; clear hnl
  have HE := Lib.hid he; clear he
  have hcell : (w.alloc (.cells #[.int .i64 2, .int .i64 3, .int .i64 5, .int .i64 7, .int .i64 13, .int .i64 17, .int .i64 19, .int .i64 31, .int .i64 61, .int .i64 89, .int .i64 107, .int .i64 127] 3)).cell? ⟨w.heap.size, 4, none⟩ = some (.int .i64 13) := mrow w 3 4 (by omega)
  go_enter Tryd.func6, Tryd.ntmps6
  go_wp2_with fail
  refine (formed4_yes a _ HA.out).mono ?_; rintro e w' ⟨rfl, rfl⟩
  have hbel : Below w.heap.size w (w.alloc (.cells #[.int .i64 2, .int .i64 3, .int .i64 5, .int .i64 7, .int .i64 13, .int .i64 17, .int .i64 19, .int .i64 31, .int .i64 61, .int .i64 89, .int .i64 107, .int .i64 127] 3)) := (Below.refl _ _).alloc (Nat.le_refl _) _
  have hcv := one_byteI (w.alloc (.cells #[.int .i64 2, .int .i64 3, .int .i64 5, .int .i64 7, .int .i64 13, .int .i64 17, .int .i64 19, .int .i64 31, .int .i64 61, .int .i64 89, .int .i64 107, .int .i64 127] 3)) 31 31 rfl
  rw [World.size_alloc] at hcv
  have HB := Lib.hid hbel; clear hbel
  go_wp2
  go_loopg [7, 39] 1 (fun y vs vi wr => MerR 31 1 w y vs vi wr)
  case atStart => exact ⟨0, ⟨#[31]⟩, rfl, rfl, rfl, rfl, HB.out.alloc (by have := HB.out.size; simp) _⟩
  case round =>
    obtain ⟨i, L, hi, rfl, rfl, hL, hb⟩ := hrel
    have hsz := mer_size hL
    have HBR := Lib.hid hb; clear hb
    by_cases hlt : i < 1
    · have HL2 := Lib.hid (mer_next hL); clear hL
      go_wp2
      go_roundg (1 - (i + 1))
      case measure => omega
      case rel => exact ⟨i + 1, _, by omega, by go_num, rfl, HL2.out, HBR.out⟩
    · obtain rfl : i = 1 := by omega
      obtain rfl : L = E n := mers_eq (hL.trans HE.out)
      clear hL hsz
      go_wp2_with fail
      refine (pstrong_yes n a _ HNL.out HA.out).mono ?_; rintro e w1 ⟨⟨b, rfl, hb⟩, b1⟩
      obtain rfl : b = true := mers_true HP.out hb
      clear hb
      have B1 := Lib.hid (bnext HBR.out b1); clear b1
      go_wp2_with fail
      refine (awake4 _).mono ?_; rintro e w2 ⟨rfl, b2⟩
      have B2 := Lib.hid (bnext B1.out b2); clear b2
      go_wp2
      go_ret
      exact ⟨rfl, B2.out⟩

set_option maxHeartbeats 2000000 in
set_option maxRecDepth 100000 in
theorem mers_17 (n c : Nat) (a : ByteArray) (w : World) (hp : QR.Pr n) (hnl : n < Lim) (he : (1 : UInt8) :: List.replicate 2 255 = enc n) (hc : (c : Int) % 12 = 5) (hc2 : c < 256) (l1 : ¬ (40 : Int) < a.size) (ha : Can a) :
    Calls Tryd.prog 6 #[.int .u8 (c : Int), .string a] w fun e w' => e = .returned (.bool true) ∧ Below w.heap.size w w' := by
  have HA := Lib.hid ha; clear ha
  have HP := Lib.hid hp; clear hp
  have HNL := Lib.hid hnl; clear hnl
  have HE := Lib.hid he; clear he
  have hcell : (w.alloc (.cells #[.int .i64 2, .int .i64 3, .int .i64 5, .int .i64 7, .int .i64 13, .int .i64 17, .int .i64 19, .int .i64 31, .int .i64 61, .int .i64 89, .int .i64 107, .int .i64 127] 3)).cell? ⟨w.heap.size, 5, none⟩ = some (.int .i64 17) := mrow w 3 5 (by omega)
  go_enter Tryd.func6, Tryd.ntmps6
  go_wp2_with fail
  refine (formed4_yes a _ HA.out).mono ?_; rintro e w' ⟨rfl, rfl⟩
  have hbel : Below w.heap.size w (w.alloc (.cells #[.int .i64 2, .int .i64 3, .int .i64 5, .int .i64 7, .int .i64 13, .int .i64 17, .int .i64 19, .int .i64 31, .int .i64 61, .int .i64 89, .int .i64 107, .int .i64 127] 3)) := (Below.refl _ _).alloc (Nat.le_refl _) _
  have hcv := one_byteI (w.alloc (.cells #[.int .i64 2, .int .i64 3, .int .i64 5, .int .i64 7, .int .i64 13, .int .i64 17, .int .i64 19, .int .i64 31, .int .i64 61, .int .i64 89, .int .i64 107, .int .i64 127] 3)) 1 1 rfl
  rw [World.size_alloc] at hcv
  have HB := Lib.hid hbel; clear hbel
  go_wp2
  go_loopg [7, 39] 2 (fun y vs vi wr => MerR 1 2 w y vs vi wr)
  case atStart => exact ⟨0, ⟨#[1]⟩, rfl, rfl, rfl, rfl, HB.out.alloc (by have := HB.out.size; simp) _⟩
  case round =>
    obtain ⟨i, L, hi, rfl, rfl, hL, hb⟩ := hrel
    have hsz := mer_size hL
    have HBR := Lib.hid hb; clear hb
    by_cases hlt : i < 2
    · have HL2 := Lib.hid (mer_next hL); clear hL
      go_wp2
      go_roundg (2 - (i + 1))
      case measure => omega
      case rel => exact ⟨i + 1, _, by omega, by go_num, rfl, HL2.out, HBR.out⟩
    · obtain rfl : i = 2 := by omega
      obtain rfl : L = E n := mers_eq (hL.trans HE.out)
      clear hL hsz
      go_wp2_with fail
      refine (pstrong_yes n a _ HNL.out HA.out).mono ?_; rintro e w1 ⟨⟨b, rfl, hb⟩, b1⟩
      obtain rfl : b = true := mers_true HP.out hb
      clear hb
      have B1 := Lib.hid (bnext HBR.out b1); clear b1
      go_wp2_with fail
      refine (awake4 _).mono ?_; rintro e w2 ⟨rfl, b2⟩
      have B2 := Lib.hid (bnext B1.out b2); clear b2
      go_wp2
      go_ret
      exact ⟨rfl, B2.out⟩

set_option maxHeartbeats 2000000 in
set_option maxRecDepth 100000 in
theorem mers_19 (n c : Nat) (a : ByteArray) (w : World) (hp : QR.Pr n) (hnl : n < Lim) (he : (7 : UInt8) :: List.replicate 2 255 = enc n) (hc : (c : Int) % 12 = 6) (hc2 : c < 256) (l1 : ¬ (40 : Int) < a.size) (ha : Can a) :
    Calls Tryd.prog 6 #[.int .u8 (c : Int), .string a] w fun e w' => e = .returned (.bool true) ∧ Below w.heap.size w w' := by
  have HA := Lib.hid ha; clear ha
  have HP := Lib.hid hp; clear hp
  have HNL := Lib.hid hnl; clear hnl
  have HE := Lib.hid he; clear he
  have hcell : (w.alloc (.cells #[.int .i64 2, .int .i64 3, .int .i64 5, .int .i64 7, .int .i64 13, .int .i64 17, .int .i64 19, .int .i64 31, .int .i64 61, .int .i64 89, .int .i64 107, .int .i64 127] 3)).cell? ⟨w.heap.size, 6, none⟩ = some (.int .i64 19) := mrow w 3 6 (by omega)
  go_enter Tryd.func6, Tryd.ntmps6
  go_wp2_with fail
  refine (formed4_yes a _ HA.out).mono ?_; rintro e w' ⟨rfl, rfl⟩
  have hbel : Below w.heap.size w (w.alloc (.cells #[.int .i64 2, .int .i64 3, .int .i64 5, .int .i64 7, .int .i64 13, .int .i64 17, .int .i64 19, .int .i64 31, .int .i64 61, .int .i64 89, .int .i64 107, .int .i64 127] 3)) := (Below.refl _ _).alloc (Nat.le_refl _) _
  have hcv := one_byteI (w.alloc (.cells #[.int .i64 2, .int .i64 3, .int .i64 5, .int .i64 7, .int .i64 13, .int .i64 17, .int .i64 19, .int .i64 31, .int .i64 61, .int .i64 89, .int .i64 107, .int .i64 127] 3)) 7 7 rfl
  rw [World.size_alloc] at hcv
  have HB := Lib.hid hbel; clear hbel
  go_wp2
  go_loopg [7, 39] 2 (fun y vs vi wr => MerR 7 2 w y vs vi wr)
  case atStart => exact ⟨0, ⟨#[7]⟩, rfl, rfl, rfl, rfl, HB.out.alloc (by have := HB.out.size; simp) _⟩
  case round =>
    obtain ⟨i, L, hi, rfl, rfl, hL, hb⟩ := hrel
    have hsz := mer_size hL
    have HBR := Lib.hid hb; clear hb
    by_cases hlt : i < 2
    · have HL2 := Lib.hid (mer_next hL); clear hL
      go_wp2
      go_roundg (2 - (i + 1))
      case measure => omega
      case rel => exact ⟨i + 1, _, by omega, by go_num, rfl, HL2.out, HBR.out⟩
    · obtain rfl : i = 2 := by omega
      obtain rfl : L = E n := mers_eq (hL.trans HE.out)
      clear hL hsz
      go_wp2_with fail
      refine (pstrong_yes n a _ HNL.out HA.out).mono ?_; rintro e w1 ⟨⟨b, rfl, hb⟩, b1⟩
      obtain rfl : b = true := mers_true HP.out hb
      clear hb
      have B1 := Lib.hid (bnext HBR.out b1); clear b1
      go_wp2_with fail
      refine (awake4 _).mono ?_; rintro e w2 ⟨rfl, b2⟩
      have B2 := Lib.hid (bnext B1.out b2); clear b2
      go_wp2
      go_ret
      exact ⟨rfl, B2.out⟩

set_option maxHeartbeats 2000000 in
set_option maxRecDepth 100000 in
theorem mers_31 (n c : Nat) (a : ByteArray) (w : World) (hp : QR.Pr n) (hnl : n < Lim) (he : (127 : UInt8) :: List.replicate 3 255 = enc n) (hc : (c : Int) % 12 = 7) (hc2 : c < 256) (l1 : ¬ (40 : Int) < a.size) (ha : Can a) :
    Calls Tryd.prog 6 #[.int .u8 (c : Int), .string a] w fun e w' => e = .returned (.bool true) ∧ Below w.heap.size w w' := by
  have HA := Lib.hid ha; clear ha
  have HP := Lib.hid hp; clear hp
  have HNL := Lib.hid hnl; clear hnl
  have HE := Lib.hid he; clear he
  have hcell : (w.alloc (.cells #[.int .i64 2, .int .i64 3, .int .i64 5, .int .i64 7, .int .i64 13, .int .i64 17, .int .i64 19, .int .i64 31, .int .i64 61, .int .i64 89, .int .i64 107, .int .i64 127] 3)).cell? ⟨w.heap.size, 7, none⟩ = some (.int .i64 31) := mrow w 3 7 (by omega)
  go_enter Tryd.func6, Tryd.ntmps6
  go_wp2_with fail
  refine (formed4_yes a _ HA.out).mono ?_; rintro e w' ⟨rfl, rfl⟩
  have hbel : Below w.heap.size w (w.alloc (.cells #[.int .i64 2, .int .i64 3, .int .i64 5, .int .i64 7, .int .i64 13, .int .i64 17, .int .i64 19, .int .i64 31, .int .i64 61, .int .i64 89, .int .i64 107, .int .i64 127] 3)) := (Below.refl _ _).alloc (Nat.le_refl _) _
  have hcv := one_byteI (w.alloc (.cells #[.int .i64 2, .int .i64 3, .int .i64 5, .int .i64 7, .int .i64 13, .int .i64 17, .int .i64 19, .int .i64 31, .int .i64 61, .int .i64 89, .int .i64 107, .int .i64 127] 3)) 127 127 rfl
  rw [World.size_alloc] at hcv
  have HB := Lib.hid hbel; clear hbel
  go_wp2
  go_loopg [7, 39] 3 (fun y vs vi wr => MerR 127 3 w y vs vi wr)
  case atStart => exact ⟨0, ⟨#[127]⟩, rfl, rfl, rfl, rfl, HB.out.alloc (by have := HB.out.size; simp) _⟩
  case round =>
    obtain ⟨i, L, hi, rfl, rfl, hL, hb⟩ := hrel
    have hsz := mer_size hL
    have HBR := Lib.hid hb; clear hb
    by_cases hlt : i < 3
    · have HL2 := Lib.hid (mer_next hL); clear hL
      go_wp2
      go_roundg (3 - (i + 1))
      case measure => omega
      case rel => exact ⟨i + 1, _, by omega, by go_num, rfl, HL2.out, HBR.out⟩
    · obtain rfl : i = 3 := by omega
      obtain rfl : L = E n := mers_eq (hL.trans HE.out)
      clear hL hsz
      go_wp2_with fail
      refine (pstrong_yes n a _ HNL.out HA.out).mono ?_; rintro e w1 ⟨⟨b, rfl, hb⟩, b1⟩
      obtain rfl : b = true := mers_true HP.out hb
      clear hb
      have B1 := Lib.hid (bnext HBR.out b1); clear b1
      go_wp2_with fail
      refine (awake4 _).mono ?_; rintro e w2 ⟨rfl, b2⟩
      have B2 := Lib.hid (bnext B1.out b2); clear b2
      go_wp2
      go_ret
      exact ⟨rfl, B2.out⟩

set_option maxHeartbeats 2000000 in
set_option maxRecDepth 100000 in
theorem mers_61 (n c : Nat) (a : ByteArray) (w : World) (hp : QR.Pr n) (hnl : n < Lim) (he : (31 : UInt8) :: List.replicate 7 255 = enc n) (hc : (c : Int) % 12 = 8) (hc2 : c < 256) (l1 : ¬ (40 : Int) < a.size) (ha : Can a) :
    Calls Tryd.prog 6 #[.int .u8 (c : Int), .string a] w fun e w' => e = .returned (.bool true) ∧ Below w.heap.size w w' := by
  have HA := Lib.hid ha; clear ha
  have HP := Lib.hid hp; clear hp
  have HNL := Lib.hid hnl; clear hnl
  have HE := Lib.hid he; clear he
  have hcell : (w.alloc (.cells #[.int .i64 2, .int .i64 3, .int .i64 5, .int .i64 7, .int .i64 13, .int .i64 17, .int .i64 19, .int .i64 31, .int .i64 61, .int .i64 89, .int .i64 107, .int .i64 127] 3)).cell? ⟨w.heap.size, 8, none⟩ = some (.int .i64 61) := mrow w 3 8 (by omega)
  go_enter Tryd.func6, Tryd.ntmps6
  go_wp2_with fail
  refine (formed4_yes a _ HA.out).mono ?_; rintro e w' ⟨rfl, rfl⟩
  have hbel : Below w.heap.size w (w.alloc (.cells #[.int .i64 2, .int .i64 3, .int .i64 5, .int .i64 7, .int .i64 13, .int .i64 17, .int .i64 19, .int .i64 31, .int .i64 61, .int .i64 89, .int .i64 107, .int .i64 127] 3)) := (Below.refl _ _).alloc (Nat.le_refl _) _
  have hcv := one_byteI (w.alloc (.cells #[.int .i64 2, .int .i64 3, .int .i64 5, .int .i64 7, .int .i64 13, .int .i64 17, .int .i64 19, .int .i64 31, .int .i64 61, .int .i64 89, .int .i64 107, .int .i64 127] 3)) 31 31 rfl
  rw [World.size_alloc] at hcv
  have HB := Lib.hid hbel; clear hbel
  go_wp2
  go_loopg [7, 39] 7 (fun y vs vi wr => MerR 31 7 w y vs vi wr)
  case atStart => exact ⟨0, ⟨#[31]⟩, rfl, rfl, rfl, rfl, HB.out.alloc (by have := HB.out.size; simp) _⟩
  case round =>
    obtain ⟨i, L, hi, rfl, rfl, hL, hb⟩ := hrel
    have hsz := mer_size hL
    have HBR := Lib.hid hb; clear hb
    by_cases hlt : i < 7
    · have HL2 := Lib.hid (mer_next hL); clear hL
      go_wp2
      go_roundg (7 - (i + 1))
      case measure => omega
      case rel => exact ⟨i + 1, _, by omega, by go_num, rfl, HL2.out, HBR.out⟩
    · obtain rfl : i = 7 := by omega
      obtain rfl : L = E n := mers_eq (hL.trans HE.out)
      clear hL hsz
      go_wp2_with fail
      refine (pstrong_yes n a _ HNL.out HA.out).mono ?_; rintro e w1 ⟨⟨b, rfl, hb⟩, b1⟩
      obtain rfl : b = true := mers_true HP.out hb
      clear hb
      have B1 := Lib.hid (bnext HBR.out b1); clear b1
      go_wp2_with fail
      refine (awake4 _).mono ?_; rintro e w2 ⟨rfl, b2⟩
      have B2 := Lib.hid (bnext B1.out b2); clear b2
      go_wp2
      go_ret
      exact ⟨rfl, B2.out⟩

set_option maxHeartbeats 2000000 in
set_option maxRecDepth 100000 in
theorem mers_89 (n c : Nat) (a : ByteArray) (w : World) (hp : QR.Pr n) (hnl : n < Lim) (he : (1 : UInt8) :: List.replicate 11 255 = enc n) (hc : (c : Int) % 12 = 9) (hc2 : c < 256) (l1 : ¬ (40 : Int) < a.size) (ha : Can a) :
    Calls Tryd.prog 6 #[.int .u8 (c : Int), .string a] w fun e w' => e = .returned (.bool true) ∧ Below w.heap.size w w' := by
  have HA := Lib.hid ha; clear ha
  have HP := Lib.hid hp; clear hp
  have HNL := Lib.hid hnl; clear hnl
  have HE := Lib.hid he; clear he
  have hcell : (w.alloc (.cells #[.int .i64 2, .int .i64 3, .int .i64 5, .int .i64 7, .int .i64 13, .int .i64 17, .int .i64 19, .int .i64 31, .int .i64 61, .int .i64 89, .int .i64 107, .int .i64 127] 3)).cell? ⟨w.heap.size, 9, none⟩ = some (.int .i64 89) := mrow w 3 9 (by omega)
  go_enter Tryd.func6, Tryd.ntmps6
  go_wp2_with fail
  refine (formed4_yes a _ HA.out).mono ?_; rintro e w' ⟨rfl, rfl⟩
  have hbel : Below w.heap.size w (w.alloc (.cells #[.int .i64 2, .int .i64 3, .int .i64 5, .int .i64 7, .int .i64 13, .int .i64 17, .int .i64 19, .int .i64 31, .int .i64 61, .int .i64 89, .int .i64 107, .int .i64 127] 3)) := (Below.refl _ _).alloc (Nat.le_refl _) _
  have hcv := one_byteI (w.alloc (.cells #[.int .i64 2, .int .i64 3, .int .i64 5, .int .i64 7, .int .i64 13, .int .i64 17, .int .i64 19, .int .i64 31, .int .i64 61, .int .i64 89, .int .i64 107, .int .i64 127] 3)) 1 1 rfl
  rw [World.size_alloc] at hcv
  have HB := Lib.hid hbel; clear hbel
  go_wp2
  go_loopg [7, 39] 11 (fun y vs vi wr => MerR 1 11 w y vs vi wr)
  case atStart => exact ⟨0, ⟨#[1]⟩, rfl, rfl, rfl, rfl, HB.out.alloc (by have := HB.out.size; simp) _⟩
  case round =>
    obtain ⟨i, L, hi, rfl, rfl, hL, hb⟩ := hrel
    have hsz := mer_size hL
    have HBR := Lib.hid hb; clear hb
    by_cases hlt : i < 11
    · have HL2 := Lib.hid (mer_next hL); clear hL
      go_wp2
      go_roundg (11 - (i + 1))
      case measure => omega
      case rel => exact ⟨i + 1, _, by omega, by go_num, rfl, HL2.out, HBR.out⟩
    · obtain rfl : i = 11 := by omega
      obtain rfl : L = E n := mers_eq (hL.trans HE.out)
      clear hL hsz
      go_wp2_with fail
      refine (pstrong_yes n a _ HNL.out HA.out).mono ?_; rintro e w1 ⟨⟨b, rfl, hb⟩, b1⟩
      obtain rfl : b = true := mers_true HP.out hb
      clear hb
      have B1 := Lib.hid (bnext HBR.out b1); clear b1
      go_wp2_with fail
      refine (awake4 _).mono ?_; rintro e w2 ⟨rfl, b2⟩
      have B2 := Lib.hid (bnext B1.out b2); clear b2
      go_wp2
      go_ret
      exact ⟨rfl, B2.out⟩

set_option maxHeartbeats 2000000 in
set_option maxRecDepth 100000 in
theorem mers_107 (n c : Nat) (a : ByteArray) (w : World) (hp : QR.Pr n) (hnl : n < Lim) (he : (7 : UInt8) :: List.replicate 13 255 = enc n) (hc : (c : Int) % 12 = 10) (hc2 : c < 256) (l1 : ¬ (40 : Int) < a.size) (ha : Can a) :
    Calls Tryd.prog 6 #[.int .u8 (c : Int), .string a] w fun e w' => e = .returned (.bool true) ∧ Below w.heap.size w w' := by
  have HA := Lib.hid ha; clear ha
  have HP := Lib.hid hp; clear hp
  have HNL := Lib.hid hnl; clear hnl
  have HE := Lib.hid he; clear he
  have hcell : (w.alloc (.cells #[.int .i64 2, .int .i64 3, .int .i64 5, .int .i64 7, .int .i64 13, .int .i64 17, .int .i64 19, .int .i64 31, .int .i64 61, .int .i64 89, .int .i64 107, .int .i64 127] 3)).cell? ⟨w.heap.size, 10, none⟩ = some (.int .i64 107) := mrow w 3 10 (by omega)
  go_enter Tryd.func6, Tryd.ntmps6
  go_wp2_with fail
  refine (formed4_yes a _ HA.out).mono ?_; rintro e w' ⟨rfl, rfl⟩
  have hbel : Below w.heap.size w (w.alloc (.cells #[.int .i64 2, .int .i64 3, .int .i64 5, .int .i64 7, .int .i64 13, .int .i64 17, .int .i64 19, .int .i64 31, .int .i64 61, .int .i64 89, .int .i64 107, .int .i64 127] 3)) := (Below.refl _ _).alloc (Nat.le_refl _) _
  have hcv := one_byteI (w.alloc (.cells #[.int .i64 2, .int .i64 3, .int .i64 5, .int .i64 7, .int .i64 13, .int .i64 17, .int .i64 19, .int .i64 31, .int .i64 61, .int .i64 89, .int .i64 107, .int .i64 127] 3)) 7 7 rfl
  rw [World.size_alloc] at hcv
  have HB := Lib.hid hbel; clear hbel
  go_wp2
  go_loopg [7, 39] 13 (fun y vs vi wr => MerR 7 13 w y vs vi wr)
  case atStart => exact ⟨0, ⟨#[7]⟩, rfl, rfl, rfl, rfl, HB.out.alloc (by have := HB.out.size; simp) _⟩
  case round =>
    obtain ⟨i, L, hi, rfl, rfl, hL, hb⟩ := hrel
    have hsz := mer_size hL
    have HBR := Lib.hid hb; clear hb
    by_cases hlt : i < 13
    · have HL2 := Lib.hid (mer_next hL); clear hL
      go_wp2
      go_roundg (13 - (i + 1))
      case measure => omega
      case rel => exact ⟨i + 1, _, by omega, by go_num, rfl, HL2.out, HBR.out⟩
    · obtain rfl : i = 13 := by omega
      obtain rfl : L = E n := mers_eq (hL.trans HE.out)
      clear hL hsz
      go_wp2_with fail
      refine (pstrong_yes n a _ HNL.out HA.out).mono ?_; rintro e w1 ⟨⟨b, rfl, hb⟩, b1⟩
      obtain rfl : b = true := mers_true HP.out hb
      clear hb
      have B1 := Lib.hid (bnext HBR.out b1); clear b1
      go_wp2_with fail
      refine (awake4 _).mono ?_; rintro e w2 ⟨rfl, b2⟩
      have B2 := Lib.hid (bnext B1.out b2); clear b2
      go_wp2
      go_ret
      exact ⟨rfl, B2.out⟩

set_option maxHeartbeats 2000000 in
set_option maxRecDepth 100000 in
theorem mers_127 (n c : Nat) (a : ByteArray) (w : World) (hp : QR.Pr n) (hnl : n < Lim) (he : (127 : UInt8) :: List.replicate 15 255 = enc n) (hc : (c : Int) % 12 = 11) (hc2 : c < 256) (l1 : ¬ (40 : Int) < a.size) (ha : Can a) :
    Calls Tryd.prog 6 #[.int .u8 (c : Int), .string a] w fun e w' => e = .returned (.bool true) ∧ Below w.heap.size w w' := by
  have HA := Lib.hid ha; clear ha
  have HP := Lib.hid hp; clear hp
  have HNL := Lib.hid hnl; clear hnl
  have HE := Lib.hid he; clear he
  have hcell : (w.alloc (.cells #[.int .i64 2, .int .i64 3, .int .i64 5, .int .i64 7, .int .i64 13, .int .i64 17, .int .i64 19, .int .i64 31, .int .i64 61, .int .i64 89, .int .i64 107, .int .i64 127] 3)).cell? ⟨w.heap.size, 11, none⟩ = some (.int .i64 127) := mrow w 3 11 (by omega)
  go_enter Tryd.func6, Tryd.ntmps6
  go_wp2_with fail
  refine (formed4_yes a _ HA.out).mono ?_; rintro e w' ⟨rfl, rfl⟩
  have hbel : Below w.heap.size w (w.alloc (.cells #[.int .i64 2, .int .i64 3, .int .i64 5, .int .i64 7, .int .i64 13, .int .i64 17, .int .i64 19, .int .i64 31, .int .i64 61, .int .i64 89, .int .i64 107, .int .i64 127] 3)) := (Below.refl _ _).alloc (Nat.le_refl _) _
  have hcv := one_byteI (w.alloc (.cells #[.int .i64 2, .int .i64 3, .int .i64 5, .int .i64 7, .int .i64 13, .int .i64 17, .int .i64 19, .int .i64 31, .int .i64 61, .int .i64 89, .int .i64 107, .int .i64 127] 3)) 127 127 rfl
  rw [World.size_alloc] at hcv
  have HB := Lib.hid hbel; clear hbel
  go_wp2
  go_loopg [7, 39] 15 (fun y vs vi wr => MerR 127 15 w y vs vi wr)
  case atStart => exact ⟨0, ⟨#[127]⟩, rfl, rfl, rfl, rfl, HB.out.alloc (by have := HB.out.size; simp) _⟩
  case round =>
    obtain ⟨i, L, hi, rfl, rfl, hL, hb⟩ := hrel
    have hsz := mer_size hL
    have HBR := Lib.hid hb; clear hb
    by_cases hlt : i < 15
    · have HL2 := Lib.hid (mer_next hL); clear hL
      go_wp2
      go_roundg (15 - (i + 1))
      case measure => omega
      case rel => exact ⟨i + 1, _, by omega, by go_num, rfl, HL2.out, HBR.out⟩
    · obtain rfl : i = 15 := by omega
      obtain rfl : L = E n := mers_eq (hL.trans HE.out)
      clear hL hsz
      go_wp2_with fail
      refine (pstrong_yes n a _ HNL.out HA.out).mono ?_; rintro e w1 ⟨⟨b, rfl, hb⟩, b1⟩
      obtain rfl : b = true := mers_true HP.out hb
      clear hb
      have B1 := Lib.hid (bnext HBR.out b1); clear b1
      go_wp2_with fail
      refine (awake4 _).mono ?_; rintro e w2 ⟨rfl, b2⟩
      have B2 := Lib.hid (bnext B1.out b2); clear b2
      go_wp2
      go_ret
      exact ⟨rfl, B2.out⟩

set_option maxHeartbeats 1000000 in
set_option maxRecDepth 20000 in
theorem mers_skip1 (c : Int) (a : ByteArray) (w : World) (m1 : a.size ≤ 9223372036854775807) (l1 : (40 : Int) < a.size) :
    Calls Tryd.prog 6 #[.int .u8 c, .string a] w fun e w' => e = .returned (.bool true) ∧ Below w.heap.size w w' := by
  go_enter Tryd.func6, Tryd.ntmps6
  go_wp2_with fail
  refine (awake4 _).mono ?_; rintro e w1 ⟨rfl, b1⟩
  go_wp2
  go_ret
  exact ⟨rfl, b1⟩
set_option maxHeartbeats 1000000 in
set_option maxRecDepth 20000 in
theorem mers_skip2 (c : Int) (a : ByteArray) (w : World) (l1 : ¬ (40 : Int) < a.size) (ha : ¬ Can a) :
    Calls Tryd.prog 6 #[.int .u8 c, .string a] w fun e w' => e = .returned (.bool true) ∧ Below w.heap.size w w' := by
  have HA := Lib.hid ha; clear ha
  go_enter Tryd.func6, Tryd.ntmps6
  go_wp2_with fail
  refine (formed4_no a _ HA.out).mono ?_; rintro e w' ⟨rfl, rfl⟩
  go_wp2_with fail
  refine (awake4 _).mono ?_; rintro e w1 ⟨rfl, b1⟩
  go_wp2
  go_ret
  exact ⟨rfl, b1⟩
theorem law_PrimeMersenne (c : Int) (a : ByteArray) (l0 : (Lit.int .u8 c).wf = true) (l1 : a.size ≤ maxLen) (w : World) :
    Calls Tryd.prog 6 #[.int .u8 c, .string a] w fun e w' => e = .returned (.bool true) ∧ Below w.heap.size w w' := by
  unfold maxLen at l1
  by_cases k1 : (40 : Int) < a.size
  · exact mers_skip1 c a w (by omega) k1
  by_cases k2 : Can a
  · have hc := bounds_u8 l0
    obtain ⟨m, rfl⟩ := Int.eq_ofNat_of_zero_le hc.1
    have hm : m < 256 := by omega
    have h : (m : Int) % 12 = 0 ∨ (m : Int) % 12 = 1 ∨ (m : Int) % 12 = 2 ∨ (m : Int) % 12 = 3 ∨ (m : Int) % 12 = 4 ∨ (m : Int) % 12 = 5 ∨ (m : Int) % 12 = 6 ∨ (m : Int) % 12 = 7 ∨ (m : Int) % 12 = 8 ∨ (m : Int) % 12 = 9 ∨ (m : Int) % 12 = 10 ∨ (m : Int) % 12 = 11 := by omega
    rcases h with h | h | h | h | h | h | h | h | h | h | h | h
    · exact mers_2 3 m a w QR.pr3 (mers_lim (k := 2) (by omega) (by decide +kernel)) (by decide +kernel) h hm k1 k2
    · exact mers_3 7 m a w QR.pr7 (mers_lim (k := 3) (by omega) (by decide +kernel)) (by decide +kernel) h hm k1 k2
    · exact mers_5 31 m a w QR.pr31 (mers_lim (k := 5) (by omega) (by decide +kernel)) (by decide +kernel) h hm k1 k2
    · exact mers_7 127 m a w QR.pr127 (mers_lim (k := 7) (by omega) (by decide +kernel)) (by decide +kernel) h hm k1 k2
    · exact mers_13 8191 m a w QR.pr8191 (mers_lim (k := 13) (by omega) (by decide +kernel)) (by decide +kernel) h hm k1 k2
    · exact mers_17 131071 m a w QR.pr131071 (mers_lim (k := 17) (by omega) (by decide +kernel)) (by decide +kernel) h hm k1 k2
    · exact mers_19 524287 m a w QR.pr524287 (mers_lim (k := 19) (by omega) (by decide +kernel)) (by decide +kernel) h hm k1 k2
    · exact mers_31 (2 ^ 31 - 1) m a w QR.mer31 (mers_lim (k := 31) (by omega) (by decide +kernel)) (by decide +kernel) h hm k1 k2
    · exact mers_61 (2 ^ 61 - 1) m a w QR.mer61 (mers_lim (k := 61) (by omega) (by decide +kernel)) (by decide +kernel) h hm k1 k2
    · exact mers_89 (2 ^ 89 - 1) m a w QR.mer89 (mers_lim (k := 89) (by omega) (by decide +kernel)) (by decide +kernel) h hm k1 k2
    · exact mers_107 (2 ^ 107 - 1) m a w QR.mer107 (mers_lim (k := 107) (by omega) (by decide +kernel)) (by decide +kernel) h hm k1 k2
    · exact mers_127 (2 ^ 127 - 1) m a w QR.mer127 (mers_lim (k := 127) (by omega) (by decide +kernel)) (by decide +kernel) h hm k1 k2
  · exact mers_skip2 c a w k1 k2
end Go.Proofs.YtfokiokcofabcaaDoor
