/-
  Several parts in one text (MC).
-/
import Derived.Test.YtjbcicgbemepbaaDoorMB
import Derived.Test.YtjbcicgbemepbaaDoorInt15
import Derived.Test.YtjbcicgbemepbaaDoorNat12
/-
  Contracts of package modular, the fourteenth part: Inverse.
-/
namespace Go.Proofs.YtjbcicgbemepbaaDoor
open Go.RowKit
set_option linter.unusedVariables false

theorem E_bne {n m : Nat} (h : n ≠ m) : ((E n).toList == (E m).toList) = false := by
  rw [beq_eq_false_iff_ne]
  intro e
  rw [ByteArray.toList_eq, ByteArray.toList_eq, E_data, E_data] at e
  exact h (enc_inj e)
theorem inv_of_ext {a m g : Nat} {x y : Int} (h : ExtP (a % m) m g x y) (hm : 0 < m) (hg : g = 1) : x = (x.natAbs : Int) ∧ x.natAbs < m ∧ a * x.natAbs % m = 1 % m := by
  obtain ⟨h1, h2, h3, h4, -⟩ := h
  obtain ⟨h5, h6⟩ := h4 (by omega)
  subst hg
  rw [Nat.div_one] at h6
  have hx : x = (x.natAbs : Int) := by omega
  refine ⟨hx, by omega, ?_⟩
  have e : ((a * x.natAbs : Nat) : Int) % (m : Int) = ((1 : Nat) : Int) % (m : Int) := by
    have h7 : ((a % m : Nat) : Int) * x = 1 - (m : Int) * y := by
      have : ((1 : Nat) : Int) = 1 := rfl
      rw [this] at h2
      omega
    rw [Int.natCast_mul, ← hx]
    have h8 : (a : Int) * x = ((a % m : Nat) : Int) * x + (m : Int) * (((a / m : Nat) : Int) * x) := by
      have : (a : Int) = ((a % m : Nat) : Int) + (m : Int) * ((a / m : Nat) : Int) := by
        rw [← Int.natCast_mul, ← Int.natCast_add, Nat.mod_add_div]
      conv => lhs; rw [this]
      rw [Int.add_mul, Int.mul_assoc]
    rw [h8, Int.add_mul_emod_self_left, h7]
    have : (1 : Int) - (m : Int) * y = ((1 : Nat) : Int) + (m : Int) * (-y) := by rw [Int.mul_neg]; rfl
    rw [this, Int.add_mul_emod_self_left]
  exact_mod_cast e

set_option maxHeartbeats 1000000 in
set_option maxRecDepth 20000 in
theorem minv_yes (a m : ByteArray) (w : World) (ha : Can a) (hm : Can m) (h0 : 0 < m.size) (hg : Nat.gcd (V a % V m) (V m) = 1) :
    Calls Tryd.prog 16 #[.string a, .string m] w fun e w' => (∃ x : Nat, e = .returned (.tuple #[.string (E x), .int .i64 0]) ∧ x < V m ∧ V a * x % V m = 1 % V m) ∧ Below w.heap.size w w' := by
  have hmp := can_pos hm h0
  have HA := Lib.hid ha; clear ha
  have HM := Lib.hid hm; clear hm
  have HG := Lib.hid hg; clear hg
  go_enter Tryd.func16, Tryd.ntmps16
  go_wp2_with fail
  have b0 : Below w.heap.size w (w.alloc (.cells #[.string a] 24)) := (Below.refl _ _).alloc (Nat.le_refl _) _
  refine (check_new m [a] 1 24 #[.string a] w rfl rfl (by omega)).mono ?_
  rintro e w1 ⟨⟨v, rfl, hv⟩, rfl⟩
  obtain rfl := hv.ok HM.out h0 (by intro s hs; simp at hs; subst hs; exact HA.out)
  have B0 := Lib.hid b0; clear b0 hv
  generalize w.alloc _ = w1 at *
  have hml : V m < Lim := V_lt128 HM.out
  have hx := Nat.mod_lt (V a) hmp
  have CX := Lib.hid (can_E' (Nat.lt_trans hx hml))
  go_wp2_with fail
  refine (remainder_any a m _ HA.out HM.out hmp).mono ?_
  rintro e w2 ⟨rfl, b2⟩
  have B2 := Lib.hid (bnext B0.out b2); clear b2
  go_wp2_with fail
  refine iext_yes _ m _ CX.out HM.out _ ?_
  intro g x y w3 hP b3
  rw [V_E] at hP
  have hg1 : g = 1 := hP.1.trans HG.out
  have hfin := inv_of_ext hP hmp hg1
  subst hg1
  have HF := Lib.hid hfin; clear hfin
  have B3 := Lib.hid (bnext B2.out b3); clear b3 hP
  unfold Z
  go_wp2_with fail
  have T1 := (Two.new w3 (.bool (ZG x)) (.string (ZS x)) 54 w3.heap.size rfl).alloc (.cells #[.bool (ZG y), .string (ZS y)] 54)
  have B4 : Below w.heap.size w ((w3.alloc (.cells #[.bool (ZG x), .string (ZS x)] 54)).alloc (.cells #[.bool (ZG y), .string (ZS y)] 54)) := (B3.out.alloc B3.out.size _).alloc (by have := B3.out.size; simp; omega) _
  have B4 := Lib.hid B4
  generalize (w3.alloc _).alloc _ = w4 at *
  refine (of_any 1 _ (by omega)).mono ?_
  rintro e w5 ⟨rfl, b5⟩
  have T2 := T1.below b5 rfl
  have q1 := T2.2.1
  have B5 := Lib.hid (bnext B4.out b5); clear b5 B4 B3 B2 B0
  go_wp2
  go_ret2
  exact ⟨⟨x.natAbs, rfl, HF.out.2⟩, B5.out⟩
set_option maxHeartbeats 1000000 in
set_option maxRecDepth 20000 in
theorem minv_no (a m : ByteArray) (w : World) (ha : Can a) (hm : Can m) (h0 : 0 < m.size) (hg : Nat.gcd (V a % V m) (V m) ≠ 1) :
    Calls Tryd.prog 16 #[.string a, .string m] w fun e w' => e = .returned (.tuple #[.string ⟨#[]⟩, .int .i64 9]) ∧ Below w.heap.size w w' := by
  have hmp := can_pos hm h0
  have HA := Lib.hid ha; clear ha
  have HM := Lib.hid hm; clear hm
  have HG := Lib.hid hg; clear hg
  go_enter Tryd.func16, Tryd.ntmps16
  go_wp2_with fail
  have b0 : Below w.heap.size w (w.alloc (.cells #[.string a] 24)) := (Below.refl _ _).alloc (Nat.le_refl _) _
  refine (check_new m [a] 1 24 #[.string a] w rfl rfl (by omega)).mono ?_
  rintro e w1 ⟨⟨v, rfl, hv⟩, rfl⟩
  obtain rfl := hv.ok HM.out h0 (by intro s hs; simp at hs; subst hs; exact HA.out)
  have B0 := Lib.hid b0; clear b0 hv
  generalize w.alloc _ = w1 at *
  have hml : V m < Lim := V_lt128 HM.out
  have hx := Nat.mod_lt (V a) hmp
  have CX := Lib.hid (can_E' (Nat.lt_trans hx hml))
  go_wp2_with fail
  refine (remainder_any a m _ HA.out HM.out hmp).mono ?_
  rintro e w2 ⟨rfl, b2⟩
  have B2 := Lib.hid (bnext B0.out b2); clear b2
  go_wp2_with fail
  refine iext_yes _ m _ CX.out HM.out _ ?_
  intro g x y w3 hP b3
  rw [V_E] at hP
  have hg1 : g ≠ 1 := fun h => HG.out (hP.1.symm.trans h)
  have hbe := E_bne hg1
  clear hg1
  have B3 := Lib.hid (bnext B2.out b3); clear b3 hP
  unfold Z
  go_wp2_with fail
  have T1 := (Two.new w3 (.bool (ZG x)) (.string (ZS x)) 54 w3.heap.size rfl).alloc (.cells #[.bool (ZG y), .string (ZS y)] 54)
  have B4 : Below w.heap.size w ((w3.alloc (.cells #[.bool (ZG x), .string (ZS x)] 54)).alloc (.cells #[.bool (ZG y), .string (ZS y)] 54)) := (B3.out.alloc B3.out.size _).alloc (by have := B3.out.size; simp; omega) _
  have B4 := Lib.hid B4
  generalize (w3.alloc _).alloc _ = w4 at *
  refine (of_any 1 _ (by omega)).mono ?_
  rintro e w5 ⟨rfl, b5⟩
  have T2 := T1.below b5 rfl
  have q1 := T2.2.1
  have B5 := Lib.hid (bnext B4.out b5); clear b5 B4 B3 B2 B0
  go_wp2
  go_ret2
  exact ⟨rfl, B5.out⟩
set_option maxHeartbeats 800000 in
theorem minv_err (a m : ByteArray) (v : Int) (w : World) (hv : ∀ c, ChkP m [a] c → c = v) (h0 : (v != 0) = true) :
    Calls Tryd.prog 16 #[.string a, .string m] w fun e w' => e = .returned (.tuple #[.string ⟨#[]⟩, .int .i64 v]) ∧ Below w.heap.size w w' := by
  have HV := Lib.hid hv; clear hv
  go_enter Tryd.func16, Tryd.ntmps16
  go_wp2_with fail
  refine (check_new m [a] 1 24 #[.string a] w rfl rfl (by omega)).mono ?_
  rintro e w1 ⟨⟨c, rfl, hc⟩, rfl⟩
  obtain rfl := HV.out c hc
  clear hc HV
  go_wp2
  go_ret2
  exact ⟨rfl, (Below.refl _ _).alloc (Nat.le_refl _) _⟩
end Go.Proofs.YtjbcicgbemepbaaDoor


/-
  Contracts of package modular, the fifteenth part: Jacobi.
-/
namespace Go.Proofs.YtjbcicgbemepbaaDoor
open Go.RowKit
set_option linter.unusedVariables false

/-- The sign behind a factor 2 is taken out. -/
def flip2 (n : Nat) (s : Int) : Int := if n.testBit 1 != n.testBit 2 then -s else s
/-- All factors 2 are taken out. -/
def twos (n : Nat) (s : Int) (a : Nat) : Nat × Int := if a ≠ 0 ∧ a % 2 = 0 then twos n (flip2 n s) (a / 2) else (a, s)
  termination_by a
  decreasing_by omega
theorem twos_step {n a : Nat} {s : Int} (h0 : a ≠ 0) (h : a % 2 = 0) : twos n s a = twos n (flip2 n s) (a / 2) := by rw [twos, if_pos ⟨h0, h⟩]
theorem twos_odd {n a : Nat} {s : Int} (h : a % 2 = 1) : twos n s a = (a, s) := by rw [twos, if_neg (by omega)]
theorem twos_le (n : Nat) : ∀ (a : Nat) (s : Int), a ≠ 0 → 0 < (twos n s a).1 ∧ (twos n s a).1 ≤ a := by
  intro a
  induction a using Nat.strongRecOn with
  | ind a ih =>
    intro s h0
    by_cases h : a % 2 = 0
    · rw [twos_step h0 h]
      have := ih (a / 2) (by omega) (flip2 n s) (by omega)
      omega
    · rw [twos_odd (by omega)]
      exact ⟨by show 0 < a; omega, Nat.le_refl _⟩
/-- The sign behind reciprocity. -/
def flip4 (a n : Nat) (s : Int) : Int := if a.testBit 1 && n.testBit 1 then -s else s
/-- The Jacobi symbol, by the law of reciprocity. -/
def jacN (a n : Nat) (s : Int) : Int :=
  if h : a = 0 then (if n = 1 then s else 0)
  else jacN (n % (twos n s a).1) (twos n s a).1 (flip4 (twos n s a).1 n (twos n s a).2)
  termination_by a
  decreasing_by
    have := twos_le n a s h
    have := Nat.mod_lt n this.1
    omega
theorem jacN_zero (n : Nat) (s : Int) : jacN 0 n s = if n = 1 then s else 0 := by rw [jacN]; rfl
theorem jacN_step {a n A : Nat} {s S : Int} (h : a ≠ 0) (ht : twos n s a = (A, S)) : jacN a n s = jacN (n % A) A (flip4 A n S) := by
  rw [jacN, dif_neg h, ht]
theorem flip2_sign {n : Nat} {s : Int} (h : s = 1 ∨ s = -1) : flip2 n s = 1 ∨ flip2 n s = -1 := by unfold flip2; split <;> omega
theorem flip4_sign {a n : Nat} {s : Int} (h : s = 1 ∨ s = -1) : flip4 a n s = 1 ∨ flip4 a n s = -1 := by unfold flip4; split <;> omega
theorem twos_sign (n : Nat) : ∀ (a : Nat) (s : Int), a ≠ 0 → (s = 1 ∨ s = -1) → (twos n s a).2 = 1 ∨ (twos n s a).2 = -1 := by
  intro a
  induction a using Nat.strongRecOn with
  | ind a ih =>
    intro s h0 hs
    by_cases h : a % 2 = 0
    · rw [twos_step h0 h]
      exact ih (a / 2) (by omega) _ (by omega) (flip2_sign hs)
    · rw [twos_odd (by omega)]; exact hs
theorem E_size_ne {n : Nat} (h : n ≠ 0) : (E n).size ≠ 0 := by
  intro e
  have := (E_size_le (n := n) (k := 0)).1 (by omega)
  simp at this
  exact h this
/-- The number in a slot. -/
def strV : Value → Nat | .string s => V s | _ => 0
theorem bit0 (a : Nat) : a.testBit 0 = decide (a % 2 = 1) := by rw [Nat.testBit_zero]

set_option maxHeartbeats 2000000 in
set_option maxRecDepth 20000 in
theorem mjac_ok (a n : ByteArray) (w : World) (ha : Can a) (hn : Can n) (h0 : 0 < n.size) (hodd : V n % 2 = 1) :
    Calls Tryd.prog 9 #[.string a, .string n] w fun e w' => e = .returned (.tuple #[.int .i64 (jacN (V a % V n) (V n) 1), .int .i64 0]) ∧ Below w.heap.size w w' := by
  have hnp := can_pos hn h0
  have hnl : V n < Lim := V_lt128 hn
  have hal := Nat.mod_lt (V a) hnp
  have HA := Lib.hid ha; clear ha
  have HN := Lib.hid hn; clear hn
  have hb0 : (V n).testBit 0 = true := by rw [bit0, decide_eq_true hodd]
  have HB0 := Lib.hid hb0; clear hb0
  have HE := Lib.hid (E_V HN.out)
  obtain ⟨N0, hN0⟩ : ∃ q, q = V n := ⟨_, rfl⟩
  obtain ⟨A0, hA0⟩ : ∃ q, q = V a % V n := ⟨_, rfl⟩
  obtain ⟨J, hJ⟩ : ∃ q, q = jacN A0 N0 1 := ⟨_, rfl⟩
  rw [show jacN (V a % V n) (V n) 1 = J by rw [hJ, hA0, hN0]]
  go_enter Tryd.func9, Tryd.ntmps9
  go_wp2_with fail
  have b0 : Below w.heap.size w (w.alloc (.cells #[.string a] 24)) := (Below.refl _ _).alloc (Nat.le_refl _) _
  refine (check_new n [a] 1 24 #[.string a] w rfl rfl (by omega)).mono ?_
  rintro e w1 ⟨⟨v, rfl, hv⟩, rfl⟩
  obtain rfl := hv.ok HN.out h0 (by intro s hs; simp at hs; subst hs; exact HA.out)
  have B0 := Lib.hid b0; clear b0 hv
  generalize w.alloc _ = w1 at *
  go_wp2_with fail
  refine (bit_yes n 0 _ HN.out (by omega)).mono ?_
  rintro e wx ⟨rfl, rfl⟩
  rw [HB0.out]
  go_wp2_with fail
  refine (remainder_any a n _ HA.out HN.out hnp).mono ?_
  rintro e w2 ⟨rfl, b2⟩
  have B2 := Lib.hid (bnext B0.out b2); clear b2 B0
  have CX := Lib.hid (Nat.lt_trans hal hnl)
  have CN := Lib.hid hnl
  clear hal hnl
  rw [← hA0] at CX ⊢
  rw [← hN0] at CN hodd hnp
  have he := HE.out
  rw [← hN0] at he
  rw [← he]
  have HJ := Lib.hid hJ; clear hJ he HB0 HE hA0 hN0 HA HN h0
  go_wp2
  go_loopw [0, 1, 7] (fun va vn vs wr => ∃ (A N : Nat) (s : Int), va = .string (E A) ∧ vn = .string (E N) ∧ vs = .int .i64 s ∧ (s = 1 ∨ s = -1) ∧ 0 < N ∧ Hid (A < Lim) ∧ Hid (N < Lim) ∧ Hid (J = jacN A N s) ∧ Hid (Below w.heap.size w wr)) (fun va _ _ _ => strV va)
  case atStart => exact ⟨A0, N0, 1, rfl, rfl, rfl, .inl rfl, hnp, CX, CN, HJ, B2⟩
  case round =>
    obtain ⟨A, N, s, rfl, rfl, rfl, hs, hN, CA, CN2, HJ2, B⟩ := hrel
    by_cases hA : A = 0
    · subst hA
      have hj := HJ2.out
      rw [jacN_zero] at hj
      have h00 : ((E 0).toList == ([] : List UInt8)) = true := by decide +kernel
      by_cases hn1 : N = 1
      · subst hn1
        rw [if_pos rfl] at hj
        subst hj
        clear HJ HJ2
        go_wp2_with fail
        refine (of_any 1 _ (by omega)).mono ?_
        rintro e w3 ⟨rfl, b3⟩
        go_wp2
        go_ret2
        exact ⟨rfl, bnext B.out b3⟩
      · rw [if_neg hn1] at hj
        subst hj
        have hbe := E_bne hn1
        clear HJ HJ2
        go_wp2_with fail
        refine (of_any 1 _ (by omega)).mono ?_
        rintro e w3 ⟨rfl, b3⟩
        go_wp2
        go_ret2
        exact ⟨rfl, bnext B.out b3⟩
    · have hne := not_empty_of (E_size_ne hA)
      obtain ⟨A2, S2, ht⟩ : ∃ A2 S2, twos N s A = (A2, S2) := ⟨_, _, rfl⟩
      have hle := twos_le N A s hA
      have hsg := twos_sign N A s hA hs
      have hj := jacN_step (n := N) (s := s) hA ht
      rw [ht] at hle hsg
      obtain ⟨hA2, hA2l⟩ : 0 < A2 ∧ A2 ≤ A := hle
      have hsg : S2 = 1 ∨ S2 = -1 := hsg
      have HJ3 : Hid (J = jacN (N % A2) A2 (flip4 A2 N S2)) := HJ2.out.trans hj
      have HT := Lib.hid ht; clear ht hj HJ2 HJ
      have CN3 := Lib.hid (can_E' CN2.out)
      go_wp2
      go_loopw [0, 7] (fun va vs wr => ∃ (A' : Nat) (s' : Int), va = .string (E A') ∧ vs = .int .i64 s' ∧ A' ≠ 0 ∧ A' ≤ A ∧ (s' = 1 ∨ s' = -1) ∧ Hid (twos N s' A' = (A2, S2)) ∧ Hid (Below w.heap.size w wr)) (fun va _ _ => strV va)
      case atStart => exact ⟨A, s, rfl, rfl, hA, Nat.le_refl _, hs, HT, B⟩
      case round =>
        obtain ⟨A', s', rfl, rfl, hA', hAl, hs', HT', B⟩ := hrel
        have CA' := Lib.hid (can_E' (Nat.lt_of_le_of_lt hAl CA.out))
        by_cases hev : A' % 2 = 0
        · have hb : A'.testBit 0 = false := by rw [bit0, decide_eq_false (by omega)]
          have HT2 : Hid (twos N (flip2 N s') (A' / 2) = (A2, S2)) := (twos_step hA' hev).symm.trans HT'.out
          have hd := divN_pos (a := A') (b := 2) (by omega)
          have HD := Lib.hid hd; clear hd
          have HBT := Lib.hid hb; clear hb
          have C2 := Lib.hid (can_E' (small_lim (n := 2) (by omega)))
          have hw1 : IntKind.i64.wrap (-s') = -s' := IntWalk.i64_in _ (by omega)
          go_wp2_with fail
          refine (bit_yes _ 0 _ CA'.out (by omega)).mono ?_
          rintro e wx ⟨rfl, rfl⟩
          rw [V_E, HBT.out]
          go_wp2_with fail
          refine (of_any 2 _ (by omega)).mono ?_
          rintro e w3 ⟨rfl, b3⟩
          have B3 := Lib.hid (bnext B.out b3); clear b3
          go_wp2_with fail
          refine (divMod_yes _ _ _ CA'.out C2.out).mono ?_
          rintro e w4 ⟨rfl, b4⟩
          rw [V_E, V_E, HD.out]
          have B4 := Lib.hid (bnext B3.out b4); clear b4
          obtain ⟨t1, ht1⟩ : ∃ t, t = N.testBit 1 := ⟨_, rfl⟩
          obtain ⟨t2, ht2⟩ : ∃ t, t = N.testBit 2 := ⟨_, rfl⟩
          have HFL : Hid (flip2 N s' = if t1 != t2 then -s' else s') := by rw [ht1, ht2]; rfl
          have HT1 := Lib.hid ht1; clear ht1
          have HT22 := Lib.hid ht2; clear ht2
          go_wp2_with fail
          refine (bit_yes _ 1 _ CN3.out (by omega)).mono ?_
          rintro e wx ⟨rfl, rfl⟩
          rw [V_E, ← HT1.out]
          go_wp2_with fail
          refine (bit_yes _ 2 _ CN3.out (by omega)).mono ?_
          rintro e wx ⟨rfl, rfl⟩
          rw [V_E, ← HT22.out]
          clear HT1 HT22
          cases t1 <;> cases t2
          all_goals
            go_wp2
            go_roundw
            case rel => exact ⟨A' / 2, flip2 N s', rfl, by rw [HFL.out]; rfl, by omega, by omega, flip2_sign hs', HT2, B4⟩
            case measure => simp [strV, V_E]; omega
        · have hb : A'.testBit 0 = true := by rw [bit0, decide_eq_true (by omega)]
          have hto := (twos_odd (n := N) (s := s') (show A' % 2 = 1 by omega)).symm.trans HT'.out
          obtain ⟨rfl, rfl⟩ : A' = A2 ∧ s' = S2 := by simpa using hto
          have HBT := Lib.hid hb; clear hb hto
          have hw1 : IntKind.i64.wrap (-s') = -s' := IntWalk.i64_in _ (by omega)
          have hr : N % A' < Lim := Nat.lt_of_lt_of_le (Nat.mod_lt _ hA2) (Nat.le_trans hAl (Nat.le_of_lt CA.out))
          have hrl : N % A' < A := Nat.lt_of_lt_of_le (Nat.mod_lt _ hA2) hAl
          have HR := Lib.hid hr; clear hr
          have HRL := Lib.hid hrl; clear hrl
          have CL := Lib.hid (Nat.lt_of_le_of_lt hAl CA.out)
          go_wp2_with fail
          refine (bit_yes _ 0 _ CA'.out (by omega)).mono ?_
          rintro e wx ⟨rfl, rfl⟩
          rw [V_E, HBT.out]
          go_wp2_with fail
          refine (bit_yes _ 1 _ CA'.out (by omega)).mono ?_
          rintro e wx ⟨rfl, rfl⟩
          rw [V_E]
          by_cases ha1 : A'.testBit 1 = true
          · rw [ha1]
            go_wp2_with fail
            refine (bit_yes _ 1 _ CN3.out (by omega)).mono ?_
            rintro e wx ⟨rfl, rfl⟩
            rw [V_E]
            by_cases hn1 : N.testBit 1 = true
            · rw [hn1]
              have hf : flip4 A' N s' = -s' := by unfold flip4; rw [ha1, hn1]; rfl
              have HFL := Lib.hid hf; clear hf
              go_wp2_with fail
              refine (remainder_any _ _ _ CN3.out CA'.out (by rw [V_E]; exact hA2)).mono ?_
              rintro e w3 ⟨rfl, b3⟩
              rw [V_E, V_E]
              go_wp2
              go_roundw
              case rel => exact ⟨N % A', A', flip4 A' N s', rfl, rfl, by rw [HFL.out], flip4_sign hs', hA2, HR, CL, HJ3, bnext B.out b3⟩
              case measure => simp only [strV, V_E]; exact HRL.out
            · have hn1 : N.testBit 1 = false := by simpa using hn1
              rw [hn1]
              have hf : flip4 A' N s' = s' := by unfold flip4; rw [ha1, hn1]; rfl
              have HFL := Lib.hid hf; clear hf
              go_wp2_with fail
              refine (remainder_any _ _ _ CN3.out CA'.out (by rw [V_E]; exact hA2)).mono ?_
              rintro e w3 ⟨rfl, b3⟩
              rw [V_E, V_E]
              go_wp2
              go_roundw
              case rel => exact ⟨N % A', A', flip4 A' N s', rfl, rfl, by rw [HFL.out], flip4_sign hs', hA2, HR, CL, HJ3, bnext B.out b3⟩
              case measure => simp only [strV, V_E]; exact HRL.out
          · have ha1 : A'.testBit 1 = false := by simpa using ha1
            rw [ha1]
            have hf : flip4 A' N s' = s' := by unfold flip4; rw [ha1]; rfl
            have HFL := Lib.hid hf; clear hf
            go_wp2_with fail
            refine (remainder_any _ _ _ CN3.out CA'.out (by rw [V_E]; exact hA2)).mono ?_
            rintro e w3 ⟨rfl, b3⟩
            rw [V_E, V_E]
            go_wp2
            go_roundw
            case rel => exact ⟨N % A', A', flip4 A' N s', rfl, rfl, by rw [HFL.out], flip4_sign hs', hA2, HR, CL, HJ3, bnext B.out b3⟩
            case measure => simp only [strV, V_E]; exact HRL.out

set_option maxHeartbeats 800000 in
theorem mjac_err (a n : ByteArray) (v : Int) (w : World) (hv : ∀ c, ChkP n [a] c → c = v) (h0 : (v != 0) = true) :
    Calls Tryd.prog 9 #[.string a, .string n] w fun e w' => e = .returned (.tuple #[.int .i64 0, .int .i64 v]) ∧ Below w.heap.size w w' := by
  have HV := Lib.hid hv; clear hv
  go_enter Tryd.func9, Tryd.ntmps9
  go_wp2_with fail
  refine (check_new n [a] 1 24 #[.string a] w rfl rfl (by omega)).mono ?_
  rintro e w1 ⟨⟨c, rfl, hc⟩, rfl⟩
  obtain rfl := HV.out c hc
  clear hc HV
  go_wp2
  go_ret2
  exact ⟨rfl, (Below.refl _ _).alloc (Nat.le_refl _) _⟩
set_option maxHeartbeats 800000 in
theorem mjac_even (a n : ByteArray) (w : World) (ha : Can a) (hn : Can n) (h0 : 0 < n.size) (heven : V n % 2 = 0) :
    Calls Tryd.prog 9 #[.string a, .string n] w fun e w' => e = .returned (.tuple #[.int .i64 0, .int .i64 1]) ∧ Below w.heap.size w w' := by
  have HA := Lib.hid ha; clear ha
  have HN := Lib.hid hn; clear hn
  have hb0 : (V n).testBit 0 = false := by rw [bit0, decide_eq_false (by omega)]
  have HB0 := Lib.hid hb0; clear hb0
  go_enter Tryd.func9, Tryd.ntmps9
  go_wp2_with fail
  have b0 : Below w.heap.size w (w.alloc (.cells #[.string a] 24)) := (Below.refl _ _).alloc (Nat.le_refl _) _
  refine (check_new n [a] 1 24 #[.string a] w rfl rfl (by omega)).mono ?_
  rintro e w1 ⟨⟨v, rfl, hv⟩, rfl⟩
  obtain rfl := hv.ok HN.out h0 (by intro s hs; simp at hs; subst hs; exact HA.out)
  have B0 := Lib.hid b0; clear b0 hv
  generalize w.alloc _ = w1 at *
  go_wp2_with fail
  refine (bit_yes n 0 _ HN.out (by omega)).mono ?_
  rintro e wx ⟨rfl, rfl⟩
  rw [HB0.out]
  go_wp2
  go_ret2
  exact ⟨rfl, B0.out⟩
end Go.Proofs.YtjbcicgbemepbaaDoor


/-
  Contracts of package modular, the sixteenth part: Join.
-/
namespace Go.Proofs.YtjbcicgbemepbaaDoor
open Go.RowKit
set_option linter.unusedVariables false

theorem subM_add (b s n : Nat) (hn : 0 < n) : (subM b s n + s) % n = b % n := by
  unfold subM
  have h := Nat.mod_lt s hn
  have e : b + (n - s % n) + s = b + n * (1 + s / n) := by
    have := Nat.div_add_mod s n
    rw [Nat.mul_add, Nat.mul_one]
    omega
  rw [Nat.mod_add_mod, e, Nat.add_mul_mod_self_left]
theorem dvd_of_add {g G S : Nat} (hg : 0 < g) (h : (G + S) % g = S % g) : g ∣ G := by
  apply Nat.dvd_of_mod_eq_zero
  rw [Nat.add_mod] at h
  have h1 := Nat.mod_lt G hg
  have h2 := Nat.mod_lt S hg
  generalize G % g = r at *
  generalize S % g = s at *
  by_cases hlt : r + s < g
  · rw [Nat.mod_eq_of_lt hlt] at h; omega
  · rw [Nat.mod_eq_sub_mod (by omega), Nat.mod_eq_of_lt (by omega)] at h; omega
theorem join_num {A M B N g mp np G gap inv k : Nat} (hM : 0 < M) (hN : 0 < N) (hg : g = Nat.gcd M N) (hmp : mp = M / g) (hnp : np = N / g) (hAB : A % g = B % g)
    (hG : G = subM B (A % M) N) (hgap : gap = G / g) (hinv : mp * inv % np = 1 % np) (hk : k = gap * inv % np) :
    (A % M + M * k) % M = A % M ∧ (A % M + M * k) % N = B % N ∧ A % M + M * k < M * np := by
  have hg0 : 0 < g := by rw [hg]; exact Nat.gcd_pos_of_pos_left _ hM
  have hgM : g ∣ M := by rw [hg]; exact Nat.gcd_dvd_left _ _
  have hgN : g ∣ N := by rw [hg]; exact Nat.gcd_dvd_right _ _
  have eM : M = g * mp := by rw [hmp, Nat.mul_div_cancel' hgM]
  have eN : N = g * np := by rw [hnp, Nat.mul_div_cancel' hgN]
  have hnp0 : 0 < np := by
    rcases Nat.eq_zero_or_pos np with e | e
    · rw [e, Nat.mul_zero] at eN; omega
    · exact e
  have hS := Nat.mod_lt A hM
  have h1 : (G + A % M) % N = B % N := by rw [hG]; exact subM_add _ _ _ hN
  have h2 : (G + A % M) % g = (A % M) % g := by
    rw [← Nat.mod_mod_of_dvd (G + A % M) hgN, h1, Nat.mod_mod_of_dvd B hgN, Nat.mod_mod_of_dvd A hgM, hAB]
  have hd : g * gap = G := by rw [hgap]; exact Nat.mul_div_cancel' (dvd_of_add hg0 h2)
  have hkl : k < np := by rw [hk]; exact Nat.mod_lt _ hnp0
  have h3 : mp * k % np = gap % np := by
    rw [hk, Nat.mul_mod, Nat.mod_mod, ← Nat.mul_mod, Nat.mul_left_comm, Nat.mul_mod, hinv, ← Nat.mul_mod, Nat.mul_one]
  have h4 : M * k % N = G % N := by
    rw [eM, eN, Nat.mul_assoc, Nat.mul_mod_mul_left, h3, ← Nat.mul_mod_mul_left, hd]
  refine ⟨by rw [Nat.add_mul_mod_self_left, Nat.mod_mod], ?_, ?_⟩
  · rw [Nat.add_mod, h4, ← Nat.add_mod, Nat.add_comm, h1]
  · have := Nat.mul_le_mul_left M (show k + 1 ≤ np from hkl)
    rw [Nat.mul_add, Nat.mul_one] at this
    omega
theorem gcd_parts {M N g : Nat} (hM : 0 < M) (hg : g = Nat.gcd M N) : Nat.gcd (M / g % (N / g)) (N / g) = 1 := by
  have hg0 : 0 < g := by rw [hg]; exact Nat.gcd_pos_of_pos_left _ hM
  rw [← Nat.gcd_rec, Nat.gcd_comm, Nat.gcd_div (by rw [hg]; exact Nat.gcd_dvd_left _ _) (by rw [hg]; exact Nat.gcd_dvd_right _ _), ← hg, Nat.div_self hg0]
theorem E_can_lt {n : Nat} (h : Can (E n)) : n < Lim := by
  have := V_lt128 h
  rwa [V_E] at this
/-- What Join answers where there is a number. -/
def JoinP (A M B N : Nat) (e : Ending) : Prop :=
  ∃ x, e = .returned (.tuple #[.string (E x), .string (E (M * (N / Nat.gcd M N))), .int .i64 0]) ∧ x % M = A % M ∧ x % N = B % N ∧ x < M * (N / Nat.gcd M N)

set_option maxHeartbeats 2000000 in
set_option maxRecDepth 20000 in
theorem mjoin_ok (a m b n : ByteArray) (w : World) (ha : Can a) (hm : Can m) (hb : Can b) (hn : Can n) (h0 : 0 < m.size) (h1 : 0 < n.size)
    (hAB : V a % Nat.gcd (V m) (V n) = V b % Nat.gcd (V m) (V n)) (hl : V m * (V n / Nat.gcd (V m) (V n)) < Lim) :
    Calls Tryd.prog 5 #[.string a, .string m, .string b, .string n] w fun e w' => JoinP (V a) (V m) (V b) (V n) e ∧ Below w.heap.size w w' := by
  have hmp := can_pos hm h0
  have hnp := can_pos hn h1
  have hml : V m < Lim := V_lt128 hm
  have hnl : V n < Lim := V_lt128 hn
  have HA := Lib.hid ha; clear ha
  have HB := Lib.hid hb; clear hb
  have HM := Lib.hid hm; clear hm
  have HN := Lib.hid hn; clear hn
  have hne := not_empty_of (show n.size ≠ 0 by omega)
  obtain ⟨g, hg⟩ : ∃ q, q = Nat.gcd (V m) (V n) := ⟨_, rfl⟩
  obtain ⟨mp, hmpe⟩ : ∃ q, q = V m / g := ⟨_, rfl⟩
  obtain ⟨np, hnpe⟩ : ∃ q, q = V n / g := ⟨_, rfl⟩
  obtain ⟨G, hG⟩ : ∃ q, q = subM (V b) (V a % V m) (V n) := ⟨_, rfl⟩
  obtain ⟨gap, hgap⟩ : ∃ q, q = G / g := ⟨_, rfl⟩
  rw [← hg] at hAB hl
  have hg0 : 0 < g := by rw [hg]; exact Nat.gcd_pos_of_pos_left _ hmp
  have hgl : g < Lim := Nat.lt_of_le_of_lt (by rw [hg]; exact Nat.le_of_dvd hmp (Nat.gcd_dvd_left _ _)) hml
  have hnp0 : 0 < np := by rw [hnpe]; exact Nat.div_pos (by rw [hg]; exact Nat.le_of_dvd hnp (Nat.gcd_dvd_right _ _)) hg0
  have hcop : Nat.gcd (mp % np) np = 1 := by rw [hmpe, hnpe]; exact gcd_parts hmp hg
  have hmpl : mp < Lim := Nat.lt_of_le_of_lt (by rw [hmpe]; exact Nat.div_le_self _ _) hml
  have hnpl : np < Lim := Nat.lt_of_le_of_lt (by rw [hnpe]; exact Nat.div_le_self _ _) hnl
  have hGl : G < Lim := by rw [hG]; exact Nat.lt_trans (Nat.mod_lt _ hnp) hnl
  have hgapl : gap < Lim := Nat.lt_of_le_of_lt (by rw [hgap]; exact Nat.div_le_self _ _) hGl
  have hSl : V a % V m < Lim := Nat.lt_trans (Nat.mod_lt _ hmp) hml
  have CG := Lib.hid (can_E' hgl)
  have CMP := Lib.hid (can_E' hmpl)
  have CNP := Lib.hid (can_E' hnpl)
  have CGG := Lib.hid (can_E' hGl)
  have CGAP := Lib.hid (can_E' hgapl)
  have CS := Lib.hid (can_E' hSl)
  have hnps : 0 < (E np).size := Nat.pos_of_ne_zero (E_size_ne (by omega))
  have D1 := Lib.hid (show divN (V m) g = .tuple #[.string (E mp), .string (E (V m % g)), .int .i64 0] by rw [hmpe]; exact divN_pos (by omega))
  have D2 := Lib.hid (show divN (V n) g = .tuple #[.string (E np), .string (E (V n % g)), .int .i64 0] by rw [hnpe]; exact divN_pos (by omega))
  have D3 := Lib.hid (show divN G g = .tuple #[.string (E gap), .string (E (G % g)), .int .i64 0] by rw [hgap]; exact divN_pos (by omega))
  rw [← hnpe] at hl
  have OK1 := Lib.hid (okN_yes hl)
  have HGE := Lib.hid hg; clear hg
  have HMPE := Lib.hid hmpe; clear hmpe
  have HNPE := Lib.hid hnpe; clear hnpe
  have HGD := Lib.hid hG; clear hG
  have HGAPE := Lib.hid hgap; clear hgap
  have HCOP := Lib.hid hcop; clear hcop
  have HAB := Lib.hid hAB; clear hAB
  have HL := Lib.hid hl; clear hl
  clear hml hnl hgl hmpl hnpl hGl hgapl hSl
  go_enter Tryd.func5, Tryd.ntmps5
  go_wp2_with fail
  have b0 : Below w.heap.size w (w.alloc (.cells #[.string a, .string b, .string n] 24)) := (Below.refl _ _).alloc (Nat.le_refl _) _
  refine (check_new m [a, b, n] 3 24 #[.string a, .string b, .string n] w rfl rfl (by omega)).mono ?_
  rintro e w1 ⟨⟨v, rfl, hv⟩, rfl⟩
  obtain rfl := hv.ok HM.out h0 (by intro s hs; simp at hs; rcases hs with rfl | rfl | rfl; exact HA.out; exact HB.out; exact HN.out)
  have B0 := Lib.hid b0; clear b0 hv
  generalize w.alloc _ = w1 at *
  go_wp2_with fail
  refine (gcd_yes m n _ HM.out HN.out).mono ?_
  rintro e w2 ⟨rfl, b2⟩
  rw [← HGE.out]
  have B2 := Lib.hid (bnext B0.out b2); clear b2 B0
  go_wp2_with fail
  refine (remainder_any a _ _ HA.out CG.out (by rw [V_E]; exact hg0)).mono ?_
  rintro e w3 ⟨rfl, b3⟩
  rw [V_E, HAB.out]
  have B3 := Lib.hid (bnext B2.out b3); clear b3 B2
  go_wp2_with fail
  refine (remainder_any b _ _ HB.out CG.out (by rw [V_E]; exact hg0)).mono ?_
  rintro e w4 ⟨rfl, b4⟩
  rw [V_E]
  have B4 := Lib.hid (bnext B3.out b4); clear b4 B3
  go_wp2_with fail
  refine (divMod_yes m _ _ HM.out CG.out).mono ?_
  rintro e w5 ⟨rfl, b5⟩
  rw [V_E, D1.out]
  have B5 := Lib.hid (bnext B4.out b5); clear b5 B4
  go_wp2_with fail
  refine (divMod_yes n _ _ HN.out CG.out).mono ?_
  rintro e w6 ⟨rfl, b6⟩
  rw [V_E, D2.out]
  have B6 := Lib.hid (bnext B5.out b6); clear b6 B5
  go_wp2_with fail
  refine (mul_yes m _ _ HM.out CNP.out).mono ?_
  rintro e w7 ⟨rfl, b7⟩
  rw [V_E, OK1.out]
  have B7 := Lib.hid (bnext B6.out b7); clear b7 B6
  go_wp2_with fail
  refine (remainder_any a m _ HA.out HM.out hmp).mono ?_
  rintro e w8 ⟨rfl, b8⟩
  have B8 := Lib.hid (bnext B7.out b8); clear b8 B7
  go_wp2_with fail
  refine (msub_ok b _ n _ HB.out CS.out HN.out h1).mono ?_
  rintro e w9 ⟨rfl, b9⟩
  rw [V_E, ← HGD.out]
  have B9 := Lib.hid (bnext B8.out b9); clear b9 B8
  go_wp2_with fail
  refine (divMod_yes _ _ _ CGG.out CG.out).mono ?_
  rintro e w10 ⟨rfl, b10⟩
  rw [V_E, V_E, D3.out]
  have B10 := Lib.hid (bnext B9.out b10); clear b10 B9
  go_wp2_with fail
  refine (minv_yes _ _ _ CMP.out CNP.out hnps (by rw [V_E, V_E]; exact HCOP.out)).mono ?_
  rintro e w11 ⟨⟨x, rfl, hx, hinv⟩, b11⟩
  rw [V_E] at hx
  rw [V_E, V_E] at hinv
  have B11 := Lib.hid (bnext B10.out b11); clear b11 B10
  obtain ⟨k, hk⟩ : ∃ q, q = gap * x % np := ⟨_, rfl⟩
  have hnum := join_num hmp hnp HGE.out HMPE.out HNPE.out HAB.out HGD.out HGAPE.out hinv hk
  have hkl : k < np := by rw [hk]; exact Nat.mod_lt _ hnp0
  have hnpl : np < Lim := (E_can_lt CNP.out)
  have CXX := Lib.hid (can_E' (Nat.lt_trans hx hnpl))
  have CK := Lib.hid (can_E' (Nat.lt_trans hkl hnpl))
  have hdl : V m * k < Lim := by
    have := hnum.2.2
    exact Nat.lt_of_le_of_lt (Nat.le_add_left _ _) (Nat.lt_trans this HL.out)
  have hxl := Nat.lt_trans hnum.2.2 HL.out
  have OK2 := Lib.hid (okN_yes hdl)
  have OK3 := Lib.hid (okN_yes hxl)
  have CD := Lib.hid (can_E' hdl)
  have HNUM := Lib.hid hnum; clear hnum
  have HK := Lib.hid hk; clear hk hinv hdl hxl hkl hnpl hx
  go_wp2_with fail
  refine (mmul_ok _ _ _ _ CGAP.out CXX.out CNP.out hnps).mono ?_
  rintro e w12 ⟨rfl, b12⟩
  rw [V_E, V_E, V_E, ← HK.out]
  have B12 := Lib.hid (bnext B11.out b12); clear b12 B11
  go_wp2_with fail
  refine (mul_yes m _ _ HM.out CK.out).mono ?_
  rintro e w13 ⟨rfl, b13⟩
  rw [V_E, OK2.out]
  have B13 := Lib.hid (bnext B12.out b13); clear b13 B12
  go_wp2_with fail
  refine (add_yes _ _ _ CS.out CD.out).mono ?_
  rintro e w14 ⟨rfl, b14⟩
  rw [V_E, V_E, OK3.out]
  have B14 := Lib.hid (bnext B13.out b14); clear b14 B13
  go_wp2
  go_ret3
  exact ⟨⟨V a % V m + V m * k, by rw [← HGE.out, ← HNPE.out]; rfl, HNUM.out.1, HNUM.out.2.1, by rw [← HGE.out, ← HNPE.out]; exact HNUM.out.2.2⟩, B14.out⟩
set_option maxHeartbeats 2000000 in
set_option maxRecDepth 20000 in
theorem mjoin_none (a m b n : ByteArray) (w : World) (ha : Can a) (hm : Can m) (hb : Can b) (hn : Can n) (h0 : 0 < m.size) (h1 : 0 < n.size)
    (hAB : V a % Nat.gcd (V m) (V n) ≠ V b % Nat.gcd (V m) (V n)) :
    Calls Tryd.prog 5 #[.string a, .string m, .string b, .string n] w fun e w' => e = .returned (.tuple #[.string ⟨#[]⟩, .string ⟨#[]⟩, .int .i64 9]) ∧ Below w.heap.size w w' := by
  have hmp := can_pos hm h0
  have hml : V m < Lim := V_lt128 hm
  have HA := Lib.hid ha; clear ha
  have HB := Lib.hid hb; clear hb
  have HM := Lib.hid hm; clear hm
  have HN := Lib.hid hn; clear hn
  have hne := not_empty_of (show n.size ≠ 0 by omega)
  obtain ⟨g, hg⟩ : ∃ q, q = Nat.gcd (V m) (V n) := ⟨_, rfl⟩
  rw [← hg] at hAB
  have hg0 : 0 < g := by rw [hg]; exact Nat.gcd_pos_of_pos_left _ hmp
  have hgl : g < Lim := Nat.lt_of_le_of_lt (by rw [hg]; exact Nat.le_of_dvd hmp (Nat.gcd_dvd_left _ _)) hml
  have CG := Lib.hid (can_E' hgl)
  have HGE := Lib.hid hg; clear hg
  have hbe := E_bne hAB
  clear hml hgl hAB
  go_enter Tryd.func5, Tryd.ntmps5
  go_wp2_with fail
  have b0 : Below w.heap.size w (w.alloc (.cells #[.string a, .string b, .string n] 24)) := (Below.refl _ _).alloc (Nat.le_refl _) _
  refine (check_new m [a, b, n] 3 24 #[.string a, .string b, .string n] w rfl rfl (by omega)).mono ?_
  rintro e w1 ⟨⟨v, rfl, hv⟩, rfl⟩
  obtain rfl := hv.ok HM.out h0 (by intro s hs; simp at hs; rcases hs with rfl | rfl | rfl; exact HA.out; exact HB.out; exact HN.out)
  have B0 := Lib.hid b0; clear b0 hv
  generalize w.alloc _ = w1 at *
  go_wp2_with fail
  refine (gcd_yes m n _ HM.out HN.out).mono ?_
  rintro e w2 ⟨rfl, b2⟩
  rw [← HGE.out]
  have B2 := Lib.hid (bnext B0.out b2); clear b2 B0
  go_wp2_with fail
  refine (remainder_any a _ _ HA.out CG.out (by rw [V_E]; exact hg0)).mono ?_
  rintro e w3 ⟨rfl, b3⟩
  rw [V_E]
  have B3 := Lib.hid (bnext B2.out b3); clear b3 B2
  go_wp2_with fail
  refine (remainder_any b _ _ HB.out CG.out (by rw [V_E]; exact hg0)).mono ?_
  rintro e w4 ⟨rfl, b4⟩
  rw [V_E]
  have B4 := Lib.hid (bnext B3.out b4); clear b4 B3
  go_wp2
  go_ret3
  exact ⟨rfl, B4.out⟩
set_option maxHeartbeats 2000000 in
set_option maxRecDepth 20000 in
theorem mjoin_long (a m b n : ByteArray) (w : World) (ha : Can a) (hm : Can m) (hb : Can b) (hn : Can n) (h0 : 0 < m.size) (h1 : 0 < n.size)
    (hAB : V a % Nat.gcd (V m) (V n) = V b % Nat.gcd (V m) (V n)) (hl : ¬ V m * (V n / Nat.gcd (V m) (V n)) < Lim) :
    Calls Tryd.prog 5 #[.string a, .string m, .string b, .string n] w fun e w' => e = .returned (.tuple #[.string ⟨#[]⟩, .string ⟨#[]⟩, .int .i64 5]) ∧ Below w.heap.size w w' := by
  have hmp := can_pos hm h0
  have hml : V m < Lim := V_lt128 hm
  have HA := Lib.hid ha; clear ha
  have HB := Lib.hid hb; clear hb
  have HM := Lib.hid hm; clear hm
  have HN := Lib.hid hn; clear hn
  have hne := not_empty_of (show n.size ≠ 0 by omega)
  obtain ⟨g, hg⟩ : ∃ q, q = Nat.gcd (V m) (V n) := ⟨_, rfl⟩
  obtain ⟨mp, hmpe⟩ : ∃ q, q = V m / g := ⟨_, rfl⟩
  obtain ⟨np, hnpe⟩ : ∃ q, q = V n / g := ⟨_, rfl⟩
  rw [← hg] at hAB hl
  rw [← hnpe] at hl
  have OK1 := Lib.hid (okN_no hl); clear hl
  have hg0 : 0 < g := by rw [hg]; exact Nat.gcd_pos_of_pos_left _ hmp
  have hgl : g < Lim := Nat.lt_of_le_of_lt (by rw [hg]; exact Nat.le_of_dvd hmp (Nat.gcd_dvd_left _ _)) hml
  have CG := Lib.hid (can_E' hgl)
  have HGE := Lib.hid hg; clear hg
  have hnpl : np < Lim := Nat.lt_of_le_of_lt (by rw [hnpe]; exact Nat.div_le_self _ _) (V_lt128 HN.out)
  have CNP := Lib.hid (can_E' hnpl)
  have D1 := Lib.hid (show divN (V m) g = .tuple #[.string (E mp), .string (E (V m % g)), .int .i64 0] by rw [hmpe]; exact divN_pos (by omega))
  have D2 := Lib.hid (show divN (V n) g = .tuple #[.string (E np), .string (E (V n % g)), .int .i64 0] by rw [hnpe]; exact divN_pos (by omega))
  have HAB := Lib.hid hAB
  clear hml hgl hAB hmpe hnpe hnpl
  go_enter Tryd.func5, Tryd.ntmps5
  go_wp2_with fail
  have b0 : Below w.heap.size w (w.alloc (.cells #[.string a, .string b, .string n] 24)) := (Below.refl _ _).alloc (Nat.le_refl _) _
  refine (check_new m [a, b, n] 3 24 #[.string a, .string b, .string n] w rfl rfl (by omega)).mono ?_
  rintro e w1 ⟨⟨v, rfl, hv⟩, rfl⟩
  obtain rfl := hv.ok HM.out h0 (by intro s hs; simp at hs; rcases hs with rfl | rfl | rfl; exact HA.out; exact HB.out; exact HN.out)
  have B0 := Lib.hid b0; clear b0 hv
  generalize w.alloc _ = w1 at *
  go_wp2_with fail
  refine (gcd_yes m n _ HM.out HN.out).mono ?_
  rintro e w2 ⟨rfl, b2⟩
  rw [← HGE.out]
  have B2 := Lib.hid (bnext B0.out b2); clear b2 B0
  go_wp2_with fail
  refine (remainder_any a _ _ HA.out CG.out (by rw [V_E]; exact hg0)).mono ?_
  rintro e w3 ⟨rfl, b3⟩
  rw [V_E, HAB.out]
  have B3 := Lib.hid (bnext B2.out b3); clear b3 B2
  go_wp2_with fail
  refine (remainder_any b _ _ HB.out CG.out (by rw [V_E]; exact hg0)).mono ?_
  rintro e w4 ⟨rfl, b4⟩
  rw [V_E]
  have B4 := Lib.hid (bnext B3.out b4); clear b4 B3
  go_wp2_with fail
  refine (divMod_yes m _ _ HM.out CG.out).mono ?_
  rintro e w5 ⟨rfl, b5⟩
  rw [V_E, D1.out]
  have B5 := Lib.hid (bnext B4.out b5); clear b5 B4
  go_wp2_with fail
  refine (divMod_yes n _ _ HN.out CG.out).mono ?_
  rintro e w6 ⟨rfl, b6⟩
  rw [V_E, D2.out]
  have B6 := Lib.hid (bnext B5.out b6); clear b6 B5
  go_wp2_with fail
  refine (mul_yes m _ _ HM.out CNP.out).mono ?_
  rintro e w7 ⟨rfl, b7⟩
  rw [V_E, OK1.out]
  have B7 := Lib.hid (bnext B6.out b7); clear b7 B6
  go_wp2
  go_ret3
  exact ⟨rfl, B7.out⟩
set_option maxHeartbeats 800000 in
theorem mjoin_err (a m b n : ByteArray) (v : Int) (w : World) (hv : ∀ c, ChkP m [a, b, n] c → c = v) (h0 : (v != 0) = true) :
    Calls Tryd.prog 5 #[.string a, .string m, .string b, .string n] w fun e w' => e = .returned (.tuple #[.string ⟨#[]⟩, .string ⟨#[]⟩, .int .i64 v]) ∧ Below w.heap.size w w' := by
  have HV := Lib.hid hv; clear hv
  go_enter Tryd.func5, Tryd.ntmps5
  go_wp2_with fail
  refine (check_new m [a, b, n] 3 24 #[.string a, .string b, .string n] w rfl rfl (by omega)).mono ?_
  rintro e w1 ⟨⟨c, rfl, hc⟩, rfl⟩
  obtain rfl := HV.out c hc
  clear hc HV
  go_wp2
  go_ret3
  exact ⟨rfl, (Below.refl _ _).alloc (Nat.le_refl _) _⟩
set_option maxHeartbeats 800000 in
theorem mjoin_zero (a m b n : ByteArray) (w : World) (hv : ∀ c, ChkP m [a, b, n] c → c = 0) (h0 : n.size = 0) :
    Calls Tryd.prog 5 #[.string a, .string m, .string b, .string n] w fun e w' => e = .returned (.tuple #[.string ⟨#[]⟩, .string ⟨#[]⟩, .int .i64 11]) ∧ Below w.heap.size w w' := by
  have HV := Lib.hid hv; clear hv
  have hE := empty_of h0
  clear h0
  go_enter Tryd.func5, Tryd.ntmps5
  go_wp2_with fail
  refine (check_new m [a, b, n] 3 24 #[.string a, .string b, .string n] w rfl rfl (by omega)).mono ?_
  rintro e w1 ⟨⟨c, rfl, hc⟩, rfl⟩
  obtain rfl := HV.out c hc
  clear hc HV
  go_wp2
  go_ret3
  exact ⟨rfl, (Below.refl _ _).alloc (Nat.le_refl _) _⟩
end Go.Proofs.YtjbcicgbemepbaaDoor

