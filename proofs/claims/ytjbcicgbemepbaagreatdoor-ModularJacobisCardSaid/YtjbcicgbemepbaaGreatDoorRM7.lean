/-
  Contracts of the reference of layer 3, the seventh part: Jacobi.
-/
import Derived.Test.YtjbcicgbemepbaaGreatDoorRA
import Derived.Test.YtjbcicgbemepbaaGreatDoorMC
import Derived.Test.YtjbcicgbemepbaaGreatDoorRef6
namespace Go.Proofs.YtjbcicgbemepbaaGreatDoor
open Go.RowKit
set_option linter.unusedVariables false

theorem flip2_mod {N : Nat} {s : Int} (h : N % 2 = 1) : flip2 N s = if N % 8 = 3 ∨ N % 8 = 5 then -s else s := by
  unfold flip2
  rw [Nat.testBit_eq_decide_div_mod_eq, Nat.testBit_eq_decide_div_mod_eq]
  have : N % 8 = 1 ∨ N % 8 = 3 ∨ N % 8 = 5 ∨ N % 8 = 7 := by omega
  rcases this with q | q | q | q
  · rw [show N / 2 ^ 1 % 2 = 0 by omega, show N / 2 ^ 2 % 2 = 0 by omega, q]; rfl
  · rw [show N / 2 ^ 1 % 2 = 1 by omega, show N / 2 ^ 2 % 2 = 0 by omega, q]; rfl
  · rw [show N / 2 ^ 1 % 2 = 0 by omega, show N / 2 ^ 2 % 2 = 1 by omega, q]; rfl
  · rw [show N / 2 ^ 1 % 2 = 1 by omega, show N / 2 ^ 2 % 2 = 1 by omega, q]; rfl

set_option maxHeartbeats 2000000 in
set_option maxRecDepth 20000 in
theorem rjac_m (a n : ByteArray) (w : World) (ha : Can a) (hn : Can n) (h0 : 0 < n.size) (hodd : V n % 2 = 1) :
    Calls Tryz.prog 29 #[.string a, .string n] w fun e w' => e = .returned (.tuple #[.int .i64 (jacN (V a % V n) (V n) 1), .int .i64 0]) ∧ Below w.heap.size w w' := by
  have hnp := can_pos hn h0
  have hnl : V n < Lim := V_lt128 hn
  have hal := Nat.mod_lt (V a) hnp
  have HA := Lib.hid ha; clear ha
  have HN := Lib.hid hn; clear hn
  have hb0 : (V n).testBit 0 = true := by rw [bit0, decide_eq_true hodd]
  have HB0 := Lib.hid hb0; clear hb0
  have HE := Lib.hid (E_V HN.out)
  obtain ⟨N0, hN0⟩ : ∃ q, q = V n := ⟨_, rfl⟩
  obtain ⟨A0, hA0⟩ : ∃ q, q = V a % V n := ⟨_, rfl⟩
  obtain ⟨J, hJ⟩ : ∃ q, q = jacN A0 N0 1 := ⟨_, rfl⟩
  rw [show jacN (V a % V n) (V n) 1 = J by rw [hJ, hA0, hN0]]
  go_enter Tryz.func29, Tryz.ntmps29
  go_wp2_with fail
  have b0 : Below w.heap.size w (w.alloc (.cells #[.string a, .string n] 22)) := (Below.refl _ _).alloc (Nat.le_refl _) _
  refine (rcheck_new n [a] ([a] ++ [n]) 2 22 #[.string a, .string n] w rfl rfl rfl (by omega)).mono ?_
  rintro e w1 ⟨⟨v, rfl, hv⟩, rfl⟩
  obtain rfl := hv.ok HN.out h0 (by intro s hs; simp at hs; subst hs; exact HA.out)
  have B0 := Lib.hid b0; clear b0 hv
  generalize w.alloc _ = w1 at *
  go_wp2_with fail
  refine (rbit_yes n 0 _ HN.out (by omega)).mono ?_
  rintro e wx ⟨rfl, rfl⟩
  rw [HB0.out]
  go_wp2_with fail
  refine (rmod_any a n _ HA.out HN.out hnp).mono ?_
  rintro e w2 ⟨rfl, b2⟩
  have B2 := Lib.hid (bnext B0.out b2); clear b2 B0
  have CX := Lib.hid (Nat.lt_trans hal hnl)
  have CN := Lib.hid hnl
  clear hal hnl
  rw [← hA0] at CX ⊢
  rw [← hN0] at CN hodd hnp
  have HOD := Lib.hid hodd; clear hodd
  have he := HE.out
  rw [← hN0] at he
  rw [← he]
  have HJ := Lib.hid hJ; clear hJ he HB0 HE hA0 hN0 HA HN h0
  go_wp2
  go_loopw [0, 1, 7] (fun va vn vs wr => ∃ (A N : Nat) (s : Int), va = .string (E A) ∧ vn = .string (E N) ∧ vs = .int .i64 s ∧ (s = 1 ∨ s = -1) ∧ 0 < N ∧ Hid (N % 2 = 1) ∧ Hid (A < Lim) ∧ Hid (N < Lim) ∧ Hid (J = jacN A N s) ∧ Hid (Below w.heap.size w wr)) (fun va _ _ _ => strV va)
  case atStart => exact ⟨A0, N0, 1, rfl, rfl, rfl, .inl rfl, hnp, HOD, CX, CN, HJ, B2⟩
  case round =>
    obtain ⟨A, N, s, rfl, rfl, rfl, hs, hN, HOD2, CA, CN2, HJ2, B⟩ := hrel
    by_cases hA : A = 0
    · subst hA
      have hj := HJ2.out
      rw [jacN_zero] at hj
      have h00 : ((E 0).toList == ([] : List UInt8)) = true := by decide +kernel
      by_cases hn1 : N = 1
      · subst hn1
        rw [if_pos rfl] at hj
        subst hj
        clear HJ HJ2
        go_wp2_with fail
        refine (rof_any 1 _ (by omega)).mono ?_
        rintro e w3 ⟨rfl, b3⟩
        go_wp2
        go_ret2
        exact ⟨rfl, bnext B.out b3⟩
      · rw [if_neg hn1] at hj
        subst hj
        have hbe := E_bne hn1
        clear HJ HJ2
        go_wp2_with fail
        refine (rof_any 1 _ (by omega)).mono ?_
        rintro e w3 ⟨rfl, b3⟩
        go_wp2
        go_ret2
        exact ⟨rfl, bnext B.out b3⟩
    · have hne := not_empty_of (E_size_ne hA)
      obtain ⟨A2, S2, ht⟩ : ∃ A2 S2, twos N s A = (A2, S2) := ⟨_, _, rfl⟩
      have hle := twos_le N A s hA
      have hsg := twos_sign N A s hA hs
      have hj := jacN_step (n := N) (s := s) hA ht
      rw [ht] at hle hsg
      obtain ⟨hA2, hA2l⟩ : 0 < A2 ∧ A2 ≤ A := hle
      have hsg : S2 = 1 ∨ S2 = -1 := hsg
      have HJ3 : Hid (J = jacN (N % A2) A2 (flip4 A2 N S2)) := HJ2.out.trans hj
      have HT := Lib.hid ht; clear ht hj HJ2 HJ
      have CN3 := Lib.hid (can_E' CN2.out)
      go_wp2
      go_loopw [0, 7] (fun va vs wr => ∃ (A' : Nat) (s' : Int), va = .string (E A') ∧ vs = .int .i64 s' ∧ A' ≠ 0 ∧ A' ≤ A ∧ (s' = 1 ∨ s' = -1) ∧ Hid (twos N s' A' = (A2, S2)) ∧ Hid (Below w.heap.size w wr)) (fun va _ _ => strV va)
      case atStart => exact ⟨A, s, rfl, rfl, hA, Nat.le_refl _, hs, HT, B⟩
      case round =>
        obtain ⟨A', s', rfl, rfl, hA', hAl, hs', HT', B⟩ := hrel
        have CA' := Lib.hid (can_E' (Nat.lt_of_le_of_lt hAl CA.out))
        by_cases hev : A' % 2 = 0
        · have hb : A'.testBit 0 = false := by rw [bit0, decide_eq_false (by omega)]
          have HT2 : Hid (twos N (flip2 N s') (A' / 2) = (A2, S2)) := (twos_step hA' hev).symm.trans HT'.out
          have hd := divN_pos (a := A') (b := 2) (by omega)
          have HD := Lib.hid hd; clear hd
          have HBT := Lib.hid hb; clear hb
          have C2 := Lib.hid (can_E' (small_lim (n := 2) (by omega)))
          have hw1 : IntKind.i64.wrap (-s') = -s' := IntWalk.i64_in _ (by omega)
          go_wp2_with fail
          refine (rbit_yes _ 0 _ CA'.out (by omega)).mono ?_
          rintro e wx ⟨rfl, rfl⟩
          rw [V_E, HBT.out]
          go_wp2_with fail
          refine (rof_any 2 _ (by omega)).mono ?_
          rintro e w3 ⟨rfl, b3⟩
          have B3 := Lib.hid (bnext B.out b3); clear b3
          go_wp2_with fail
          refine (rdivMod_yes _ _ _ CA'.out C2.out).mono ?_
          rintro e w4 ⟨rfl, b4⟩
          rw [V_E, V_E, HD.out]
          have B4 := Lib.hid (bnext B3.out b4); clear b4
          obtain ⟨q, hq⟩ : ∃ q, q = N % 8 := ⟨_, rfl⟩
          have hq2 : q = 1 ∨ q = 3 ∨ q = 5 ∨ q = 7 := by have := HOD2.out; omega
          have HFL : Hid (flip2 N s' = if q = 3 ∨ q = 5 then -s' else s') := by rw [hq]; exact flip2_mod HOD2.out
          have SQ := Lib.hid (smallE (show q < 18446744073709551616 by omega))
          have C8 := Lib.hid (can_E' (small_lim (n := 8) (by omega)))
          have HQ := Lib.hid hq; clear hq
          go_wp2_with fail
          refine (rof_any 8 _ (by omega)).mono ?_
          rintro e w5 ⟨rfl, b5⟩
          have B5 := Lib.hid (bnext B4.out b5); clear b5
          go_wp2_with fail
          refine (rmod_any _ _ _ CN3.out C8.out (by rw [V_E]; omega)).mono ?_
          rintro e w6 ⟨rfl, b6⟩
          rw [V_E, V_E, ← HQ.out]
          have B6 := Lib.hid (bnext B5.out b6); clear b6
          go_wp2_with fail
          refine (rsmall_yes _ _ SQ.out).mono ?_
          rintro e wx ⟨rfl, rfl⟩
          rw [V_E]
          clear HQ SQ
          rcases hq2 with rfl | rfl | rfl | rfl
          all_goals
            go_wp2
            go_roundw
            case rel => exact ⟨A' / 2, flip2 N s', rfl, by rw [HFL.out]; rfl, by omega, by omega, flip2_sign hs', HT2, B6⟩
            case measure => simp [strV, V_E]; omega
        · have hb : A'.testBit 0 = true := by rw [bit0, decide_eq_true (by omega)]
          have hto := (twos_odd (n := N) (s := s') (show A' % 2 = 1 by omega)).symm.trans HT'.out
          obtain ⟨rfl, rfl⟩ : A' = A2 ∧ s' = S2 := by simpa using hto
          have HBT := Lib.hid hb; clear hb hto
          have hw1 : IntKind.i64.wrap (-s') = -s' := IntWalk.i64_in _ (by omega)
          have hr : N % A' < Lim := Nat.lt_of_lt_of_le (Nat.mod_lt _ hA2) (Nat.le_trans hAl (Nat.le_of_lt CA.out))
          have hrl : N % A' < A := Nat.lt_of_lt_of_le (Nat.mod_lt _ hA2) hAl
          have HR := Lib.hid hr; clear hr
          have HRL := Lib.hid hrl; clear hrl
          have CL := Lib.hid (Nat.lt_of_le_of_lt hAl CA.out)
          go_wp2_with fail
          refine (rbit_yes _ 0 _ CA'.out (by omega)).mono ?_
          rintro e wx ⟨rfl, rfl⟩
          rw [V_E, HBT.out]
          have hao : A' % 2 = 1 := by omega
          go_wp2_with fail
          refine (rbit_yes _ 1 _ CN3.out (by omega)).mono ?_
          rintro e wx ⟨rfl, rfl⟩
          rw [V_E]
          by_cases hn1 : N.testBit 1 = true
          · rw [hn1]
            go_wp2_with fail
            refine (rbit_yes _ 1 _ CA'.out (by omega)).mono ?_
            rintro e wx ⟨rfl, rfl⟩
            rw [V_E]
            by_cases ha1 : A'.testBit 1 = true
            · rw [ha1]
              have hf : flip4 A' N s' = -s' := by unfold flip4; rw [ha1, hn1]; rfl
              have HFL := Lib.hid hf; clear hf
              go_wp2_with fail
              refine (rmod_any _ _ _ CN3.out CA'.out (by rw [V_E]; exact hA2)).mono ?_
              rintro e w3 ⟨rfl, b3⟩
              rw [V_E, V_E]
              go_wp2
              go_roundw
              case rel => exact ⟨N % A', A', flip4 A' N s', rfl, rfl, by rw [HFL.out], flip4_sign hs', hA2, Lib.hid hao, HR, CL, HJ3, bnext B.out b3⟩
              case measure => simp only [strV, V_E]; exact HRL.out
            · have ha1 : A'.testBit 1 = false := by simpa using ha1
              rw [ha1]
              have hf : flip4 A' N s' = s' := by unfold flip4; rw [ha1]; rfl
              have HFL := Lib.hid hf; clear hf
              go_wp2_with fail
              refine (rmod_any _ _ _ CN3.out CA'.out (by rw [V_E]; exact hA2)).mono ?_
              rintro e w3 ⟨rfl, b3⟩
              rw [V_E, V_E]
              go_wp2
              go_roundw
              case rel => exact ⟨N % A', A', flip4 A' N s', rfl, rfl, by rw [HFL.out], flip4_sign hs', hA2, Lib.hid hao, HR, CL, HJ3, bnext B.out b3⟩
              case measure => simp only [strV, V_E]; exact HRL.out
          · have hn1 : N.testBit 1 = false := by simpa using hn1
            rw [hn1]
            have hf : flip4 A' N s' = s' := by unfold flip4; rw [hn1, Bool.and_false]; rfl
            have HFL := Lib.hid hf; clear hf
            go_wp2_with fail
            refine (rmod_any _ _ _ CN3.out CA'.out (by rw [V_E]; exact hA2)).mono ?_
            rintro e w3 ⟨rfl, b3⟩
            rw [V_E, V_E]
            go_wp2
            go_roundw
            case rel => exact ⟨N % A', A', flip4 A' N s', rfl, rfl, by rw [HFL.out], flip4_sign hs', hA2, Lib.hid hao, HR, CL, HJ3, bnext B.out b3⟩
            case measure => simp only [strV, V_E]; exact HRL.out

set_option maxHeartbeats 400000 in
theorem rjac_err (a n : ByteArray) (v : Int) (w : World) (hv : ∀ c, ChkP n [a] c → c = v) (h0 : (v != 0) = true) :
    Calls Tryz.prog 29 #[.string a, .string n] w fun e w' => e = .returned (.tuple #[.int .i64 0, .int .i64 v]) ∧ Below w.heap.size w w' := by
  have HV := Lib.hid hv; clear hv
  go_enter Tryz.func29, Tryz.ntmps29
  go_wp2_with fail
  have b0 : Below w.heap.size w (w.alloc (.cells #[.string a, .string n] 22)) := (Below.refl _ _).alloc (Nat.le_refl _) _
  refine (rcheck_new n [a] ([a] ++ [n]) 2 22 #[.string a, .string n] w rfl rfl rfl (by omega)).mono ?_
  rintro e w1 ⟨⟨c, rfl, hc⟩, rfl⟩
  obtain rfl := HV.out c hc
  have B0 := Lib.hid b0; clear b0 hc
  generalize w.alloc _ = w1 at *
  go_wp2
  go_ret2
  exact ⟨rfl, B0.out⟩
set_option maxHeartbeats 400000 in
theorem rjac_even (a n : ByteArray) (w : World) (ha : Can a) (hn : Can n) (h0 : 0 < n.size) (heven : V n % 2 = 0) :
    Calls Tryz.prog 29 #[.string a, .string n] w fun e w' => e = .returned (.tuple #[.int .i64 0, .int .i64 1]) ∧ Below w.heap.size w w' := by
  have hb0 : (V n).testBit 0 = false := by rw [bit0, decide_eq_false (by omega)]
  have HB0 := Lib.hid hb0; clear hb0
  have HA := Lib.hid ha; clear ha
  have HN := Lib.hid hn; clear hn
  go_enter Tryz.func29, Tryz.ntmps29
  go_wp2_with fail
  have b0 : Below w.heap.size w (w.alloc (.cells #[.string a, .string n] 22)) := (Below.refl _ _).alloc (Nat.le_refl _) _
  refine (rcheck_new n [a] ([a] ++ [n]) 2 22 #[.string a, .string n] w rfl rfl rfl (by omega)).mono ?_
  rintro e w1 ⟨⟨v, rfl, hv⟩, rfl⟩
  obtain rfl := hv.ok HN.out h0 (by intro s hs; simp at hs; subst hs; exact HA.out)
  have B0 := Lib.hid b0; clear b0 hv
  generalize w.alloc _ = w1 at *
  go_wp2_with fail
  refine (rbit_yes n 0 _ HN.out (by omega)).mono ?_
  rintro e wx ⟨rfl, rfl⟩
  rw [HB0.out]
  go_wp2
  go_ret2
  exact ⟨rfl, B0.out⟩
end Go.Proofs.YtjbcicgbemepbaaGreatDoor
