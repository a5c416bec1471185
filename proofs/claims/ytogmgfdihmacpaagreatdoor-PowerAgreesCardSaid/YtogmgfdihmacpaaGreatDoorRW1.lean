/-
  The reference of layers 9 and 13: form, Has; Check, has, Has, Mul.
-/
import Derived.Test.YtogmgfdihmacpaaGreatDoorPW4
import Derived.Test.YtogmgfdihmacpaaGreatDoorLB
namespace Go.Proofs.YtogmgfdihmacpaaGreatDoor
open Go.RowKit
set_option linter.unusedVariables false

theorem orderB (s t : ByteArray) (w : World) (hs : Can s) (ht : Can t) : Calls Tryz.prog 39 #[.string s, .string t] w fun e w' => e = .returned (.int .i64 (sgn (V s) (V t))) ∧ Below w.heap.size w w' := by
  refine (order_any s t w hs.2 ht.2 (by have := hs.1; omega) (by have := ht.1; omega)).mono ?_
  rintro e w' ⟨rfl, q, rfl⟩
  exact ⟨rfl, belDN (Below.refl _ _) q⟩
theorem one_no {n : Nat} (h : n ≠ 1) : ((E n).toList == [(1 : UInt8)]) = false := by
  have := E_bne h
  rwa [l_1, show (⟨#[1]⟩ : ByteArray).toList = [1] by rw [ByteArray.toList_eq]] at this
theorem can_one : Can ⟨#[1]⟩ := by rw [← l_1]; exact e1_can
theorem l_8 : E 8 = ⟨#[8]⟩ := by kernel_rfl
theorem can_eight : Can ⟨#[8]⟩ := by rw [← l_8]; exact e8_can
theorem V_eight : V ⟨#[8]⟩ = 8 := by rw [← l_8, V_E]

/-! ### layer 9: form, Has -/
set_option maxHeartbeats 1000000 in
set_option maxRecDepth 20000 in
theorem r9form_t (M Q : ByteArray) (w : World) (hM : Can M) (hQ : Can Q) :
    Calls Tryz.prog 94 #[.agg #[.string M, .string Q]] w fun e w' => e = .returned (.bool true) ∧ Below w.heap.size w w' := by
  have G := Lib.hid (Two.new w (.string M) (.string Q) 24 _ rfl)
  have K := Lib.hid (belA w (.cells #[.string M, .string Q] 24))
  obtain ⟨q1, q2, q3, q4, q5⟩ := G.out
  have HM := Lib.hid hM; clear hM
  have HQ := Lib.hid hQ; clear hQ
  go_enter Tryz.func94, Tryz.ntmps94
  go_wp2_with fail
  refine (rvalid_yes M _ HM.out).mono ?_; rintro e wx ⟨rfl, rfl⟩
  go_wp2_with fail
  refine (rvalid_yes Q _ HQ.out).mono ?_; rintro e wx ⟨rfl, rfl⟩
  go_wp2
  go_ret
  exact ⟨rfl, K.out⟩
set_option maxHeartbeats 1000000 in
set_option maxRecDepth 20000 in
theorem r9form_f (M Q : ByteArray) (w : World) (h : ¬ (Can M ∧ Can Q)) :
    Calls Tryz.prog 94 #[.agg #[.string M, .string Q]] w fun e w' => e = .returned (.bool false) ∧ Below w.heap.size w w' := by
  have G := Lib.hid (Two.new w (.string M) (.string Q) 24 _ rfl)
  have K := Lib.hid (belA w (.cells #[.string M, .string Q] 24))
  obtain ⟨q1, q2, q3, q4, q5⟩ := G.out
  by_cases hM : Can M
  · have HM := Lib.hid hM
    have HQ := Lib.hid (show ¬ Can Q from fun q => h ⟨hM, q⟩)
    clear hM h
    go_enter Tryz.func94, Tryz.ntmps94
    go_wp2_with fail
    refine (rvalid_yes M _ HM.out).mono ?_; rintro e wx ⟨rfl, rfl⟩
    go_wp2_with fail
    refine (rvalid_no Q _ HQ.out).mono ?_; rintro e wx ⟨rfl, rfl⟩
    go_wp2
    go_ret
    exact ⟨rfl, K.out⟩
  · have HM := Lib.hid hM
    clear hM h
    go_enter Tryz.func94, Tryz.ntmps94
    go_wp2_with fail
    refine (rvalid_no M _ HM.out).mono ?_; rintro e wx ⟨rfl, rfl⟩
    go_wp2
    go_ret
    exact ⟨rfl, K.out⟩
set_option maxHeartbeats 1000000 in
set_option maxRecDepth 20000 in
theorem r9has_yes (M Q x : ByteArray) (w : World) (hs : M.size ≤ 64) (hM : Can M) (hQ : Can Q) (hx : Can x) (h : EltK M Q x) :
    Calls Tryz.prog 74 #[.agg #[.string M, .string Q], .string x] w fun e w' => e = .returned (.bool true) ∧ Below w.heap.size w w' := by
  have G := Lib.hid (Two.new w (.string M) (.string Q) 24 _ rfl)
  have K := Lib.hid (belA w (.cells #[.string M, .string Q] 24))
  obtain ⟨q1, q2, q3, q4, q5⟩ := G.out
  obtain ⟨h1, h2, h3, h4⟩ := h
  have hE1 := not_empty_of h1
  have hE2 := not_empty_of ((size_posV hx).1 h2)
  have hsg : sgn (V x) (V M) = -1 := by unfold sgn; rw [if_pos h3]
  have hM0 : 0 < M.size := by have := size_posV hM; omega
  have CC := Lib.hid (fun W => (show Calls Tryz.prog 39 #[.string x, .string M] W fun e w' => e = .returned (.int .i64 (-1)) ∧ Below W.heap.size W w' by rw [← hsg]; exact orderB x M W hx hM))
  have CE := Lib.hid (fun W => (show Calls Tryz.prog 95 #[.string x, .string Q, .string M] W fun e w' => e = .returned (.tuple #[.string ⟨#[1]⟩, .int .i64 0]) ∧ Below W.heap.size W w' by have := rexp_m x Q M W hx hQ hM hM0 hs; rwa [h4, l_1] at this))
  have CF := Lib.hid (fun W => r9form_t M Q W hM hQ)
  have HX := Lib.hid hx
  clear hM hQ hx h1 h2 h3 h4 hsg hM0 hs
  go_enter Tryz.func74, Tryz.ntmps74
  go_wp2_with fail
  refine (CF.out _).mono ?_; rintro e w1 ⟨rfl, b1⟩
  have K := Lib.hid (belP K.out b1)
  have G := Lib.hid (G.out.below b1 rfl)
  clear b1 q1 q2 q3 q4 q5
  obtain ⟨q1, q2, q3, q4, q5⟩ := G.out
  go_wp2_with fail
  refine (rvalid_yes x _ HX.out).mono ?_; rintro e wx ⟨rfl, rfl⟩
  go_wp2_with fail
  refine (CC.out _).mono ?_; rintro e w2 ⟨rfl, b2⟩
  have K := Lib.hid (belP K.out b2)
  have G := Lib.hid (G.out.below b2 rfl)
  clear b2 q1 q2 q3 q4 q5
  obtain ⟨q1, q2, q3, q4, q5⟩ := G.out
  go_wp2_with fail
  refine (CE.out _).mono ?_; rintro e w3 ⟨rfl, b3⟩
  have K := Lib.hid (belP K.out b3)
  have G := Lib.hid (G.out.below b3 rfl)
  clear b3 q1 q2 q3 q4 q5
  obtain ⟨q1, q2, q3, q4, q5⟩ := G.out
  go_wp2
  go_ret
  exact ⟨rfl, K.out⟩
set_option maxHeartbeats 1000000 in
set_option maxRecDepth 20000 in
theorem r9has_no (M Q x : ByteArray) (w : World) (hs : M.size ≤ 64) (h : ¬ (Can x ∧ Can M ∧ Can Q ∧ EltK M Q x)) :
    Calls Tryz.prog 74 #[.agg #[.string M, .string Q], .string x] w fun e w' => e = .returned (.bool false) ∧ Below w.heap.size w w' := by
  have G := Lib.hid (Two.new w (.string M) (.string Q) 24 _ rfl)
  have K := Lib.hid (belA w (.cells #[.string M, .string Q] 24))
  obtain ⟨q1, q2, q3, q4, q5⟩ := G.out
  by_cases hf : Can M ∧ Can Q
  · obtain ⟨hM, hQ⟩ := hf
    have CF := Lib.hid (fun W => r9form_t M Q W hM hQ)
    by_cases hx : Can x
    · have HX := Lib.hid hx
      by_cases h1 : Q.size = 0
      · have hE1 := empty_of h1
        clear hM hQ hx h1 h hs
        go_enter Tryz.func74, Tryz.ntmps74
        go_wp2_with fail
        refine (CF.out _).mono ?_; rintro e w1 ⟨rfl, b1⟩
        have K := Lib.hid (belP K.out b1)
        have G := Lib.hid (G.out.below b1 rfl)
        clear b1 q1 q2 q3 q4 q5
        obtain ⟨q1, q2, q3, q4, q5⟩ := G.out
        go_wp2_with fail
        refine (rvalid_yes x _ HX.out).mono ?_; rintro e wx ⟨rfl, rfl⟩
        go_wp2
        go_ret
        exact ⟨rfl, K.out⟩
      · have hE1 := not_empty_of h1
        by_cases h2 : x.size = 0
        · have hE2 := empty_of h2
          clear hM hQ hx h1 h2 h hs
          go_enter Tryz.func74, Tryz.ntmps74
          go_wp2_with fail
          refine (CF.out _).mono ?_; rintro e w1 ⟨rfl, b1⟩
          have K := Lib.hid (belP K.out b1)
          have G := Lib.hid (G.out.below b1 rfl)
          clear b1 q1 q2 q3 q4 q5
          obtain ⟨q1, q2, q3, q4, q5⟩ := G.out
          go_wp2_with fail
          refine (rvalid_yes x _ HX.out).mono ?_; rintro e wx ⟨rfl, rfl⟩
          go_wp2
          go_ret
          exact ⟨rfl, K.out⟩
        · have hE2 := not_empty_of h2
          by_cases h3 : V x < V M
          · have hsg : sgn (V x) (V M) = -1 := by unfold sgn; rw [if_pos h3]
            have hM0 : 0 < M.size := by have := size_posV hM; omega
            have CC := Lib.hid (fun W => (show Calls Tryz.prog 39 #[.string x, .string M] W fun e w' => e = .returned (.int .i64 (-1)) ∧ Below W.heap.size W w' by rw [← hsg]; exact orderB x M W hx hM))
            have h4 : V x ^ V Q % V M ≠ 1 := fun q => h ⟨hx, hM, hQ, h1, (size_posV hx).2 h2, h3, q⟩
            obtain ⟨n, hn⟩ : ∃ n, n = V x ^ V Q % V M := ⟨_, rfl⟩
            have CE := Lib.hid (fun W => (show Calls Tryz.prog 95 #[.string x, .string Q, .string M] W fun e w' => e = .returned (.tuple #[.string (E n), .int .i64 0]) ∧ Below W.heap.size W w' by rw [hn]; exact rexp_m x Q M W hx hQ hM hM0 hs))
            have hbe := one_no (n := n) (by rw [hn]; exact h4)
            clear hM hQ hx h1 h2 h3 h4 hsg hM0 h hn hs
            go_enter Tryz.func74, Tryz.ntmps74
            go_wp2_with fail
            refine (CF.out _).mono ?_; rintro e w1 ⟨rfl, b1⟩
            have K := Lib.hid (belP K.out b1)
            have G := Lib.hid (G.out.below b1 rfl)
            clear b1 q1 q2 q3 q4 q5
            obtain ⟨q1, q2, q3, q4, q5⟩ := G.out
            go_wp2_with fail
            refine (rvalid_yes x _ HX.out).mono ?_; rintro e wx ⟨rfl, rfl⟩
            go_wp2_with fail
            refine (CC.out _).mono ?_; rintro e w2 ⟨rfl, b2⟩
            have K := Lib.hid (belP K.out b2)
            have G := Lib.hid (G.out.below b2 rfl)
            clear b2 q1 q2 q3 q4 q5
            obtain ⟨q1, q2, q3, q4, q5⟩ := G.out
            go_wp2_with fail
            refine (CE.out _).mono ?_; rintro e w3 ⟨rfl, b3⟩
            have K := Lib.hid (belP K.out b3)
            have G := Lib.hid (G.out.below b3 rfl)
            clear b3 q1 q2 q3 q4 q5
            obtain ⟨q1, q2, q3, q4, q5⟩ := G.out
            go_wp2
            go_ret
            exact ⟨rfl, K.out⟩
          · have hsg : 0 ≤ sgn (V x) (V M) := by unfold sgn; rw [if_neg h3]; split <;> omega
            obtain ⟨y, hy⟩ : ∃ y, y = sgn (V x) (V M) := ⟨_, rfl⟩
            rw [← hy] at hsg
            have CC := Lib.hid (fun W => (show Calls Tryz.prog 39 #[.string x, .string M] W fun e w' => e = .returned (.int .i64 y) ∧ Below W.heap.size W w' by rw [hy]; exact orderB x M W hx hM))
            clear hM hQ hx h1 h2 h3 h hy hs
            go_enter Tryz.func74, Tryz.ntmps74
            go_wp2_with fail
            refine (CF.out _).mono ?_; rintro e w1 ⟨rfl, b1⟩
            have K := Lib.hid (belP K.out b1)
            have G := Lib.hid (G.out.below b1 rfl)
            clear b1 q1 q2 q3 q4 q5
            obtain ⟨q1, q2, q3, q4, q5⟩ := G.out
            go_wp2_with fail
            refine (rvalid_yes x _ HX.out).mono ?_; rintro e wx ⟨rfl, rfl⟩
            go_wp2_with fail
            refine (CC.out _).mono ?_; rintro e w2 ⟨rfl, b2⟩
            have K := Lib.hid (belP K.out b2)
            have G := Lib.hid (G.out.below b2 rfl)
            clear b2 q1 q2 q3 q4 q5
            obtain ⟨q1, q2, q3, q4, q5⟩ := G.out
            go_wp2
            go_ret
            exact ⟨rfl, K.out⟩
    · have HX := Lib.hid hx
      clear hM hQ hx h hs
      go_enter Tryz.func74, Tryz.ntmps74
      go_wp2_with fail
      refine (CF.out _).mono ?_; rintro e w1 ⟨rfl, b1⟩
      have K := Lib.hid (belP K.out b1)
      have G := Lib.hid (G.out.below b1 rfl)
      clear b1 q1 q2 q3 q4 q5
      obtain ⟨q1, q2, q3, q4, q5⟩ := G.out
      go_wp2_with fail
      refine (rvalid_no x _ HX.out).mono ?_; rintro e wx ⟨rfl, rfl⟩
      go_wp2
      go_ret
      exact ⟨rfl, K.out⟩
  · have CF := Lib.hid (fun W => r9form_f M Q W hf)
    clear h hf hs
    go_enter Tryz.func74, Tryz.ntmps74
    go_wp2_with fail
    refine (CF.out _).mono ?_; rintro e w1 ⟨rfl, b1⟩
    have K := Lib.hid (belP K.out b1)
    have G := Lib.hid (G.out.below b1 rfl)
    clear b1 q1 q2 q3 q4 q5
    obtain ⟨q1, q2, q3, q4, q5⟩ := G.out
    go_wp2
    go_ret
    exact ⟨rfl, K.out⟩

/-! ### layer 13: Check -/
theorem one_yes {M : ByteArray} (hM : Can M) (h : V M = 1) : (M.toList == [(1 : UInt8)]) = true := by
  rw [← E_V hM, h, l_1, ByteArray.toList_eq]; rfl
theorem one_noM {M : ByteArray} (hM : Can M) (h : V M ≠ 1) : (M.toList == [(1 : UInt8)]) = false := by
  have := one_no h
  rwa [E_V hM] at this
theorem last_byte {M : ByteArray} (h0 : 0 < M.size) : ((M[M.size - 1]'(by omega)).toNat : Int) % 2 = ((V M % 2 : Nat) : Int) := by
  have h := dig_low M 0 (by omega)
  unfold dig at h
  rw [Nat.pow_zero, Nat.div_one] at h
  have e : (M[M.size - 1]'(by omega)).toNat = V M % 256 := h
  omega
theorem last_even {M : ByteArray} (h0 : 0 < M.size) (h : V M % 2 = 0) : (((M[M.size - 1]'(by omega)).toNat : Int) % 2 == 0) = true := by rw [last_byte h0, h]; rfl
theorem last_odd {M : ByteArray} (h0 : 0 < M.size) (h : V M % 2 = 1) : (((M[M.size - 1]'(by omega)).toNat : Int) % 2 == 0) = false := by rw [last_byte h0, h]; rfl
set_option maxHeartbeats 1000000 in
set_option maxRecDepth 20000 in
theorem r13chk_form (M Q : ByteArray) (w : World) (h : ¬ (Can M ∧ Can Q)) :
    Calls Tryz.prog 14 #[.agg #[.string M, .string Q]] w fun e w' => e = .returned (.int .i64 3) ∧ Below w.heap.size w w' := by
  have G := Lib.hid (Two.new w (.string M) (.string Q) 24 _ rfl)
  have K := Lib.hid (belA w (.cells #[.string M, .string Q] 24))
  obtain ⟨q1, q2, q3, q4, q5⟩ := G.out
  by_cases hM : Can M
  · have HM := Lib.hid hM
    have HQ := Lib.hid (show ¬ Can Q from fun q => h ⟨hM, q⟩)
    clear hM h
    go_enter Tryz.func14, Tryz.ntmps14
    go_wp2_with fail
    refine (rvalid_yes M _ HM.out).mono ?_; rintro e wx ⟨rfl, rfl⟩
    go_wp2_with fail
    refine (rvalid_no Q _ HQ.out).mono ?_; rintro e wx ⟨rfl, rfl⟩
    go_wp2
    go_ret
    exact ⟨rfl, K.out⟩
  · have HM := Lib.hid hM
    clear hM h
    go_enter Tryz.func14, Tryz.ntmps14
    go_wp2_with fail
    refine (rvalid_no M _ HM.out).mono ?_; rintro e wx ⟨rfl, rfl⟩
    go_wp2
    go_ret
    exact ⟨rfl, K.out⟩
set_option maxHeartbeats 1000000 in
set_option maxRecDepth 20000 in
theorem r13chk_u0 (M Q : ByteArray) (w : World) (hM : Can M) (hQ : Can Q) (h0 : Q.size = 0) (h1 : M.size = 0) :
    Calls Tryz.prog 14 #[.agg #[.string M, .string Q]] w fun e w' => e = .returned (.int .i64 13) ∧ Below w.heap.size w w' := by
  have G := Lib.hid (Two.new w (.string M) (.string Q) 24 _ rfl)
  have K := Lib.hid (belA w (.cells #[.string M, .string Q] 24))
  obtain ⟨q1, q2, q3, q4, q5⟩ := G.out
  have HM := Lib.hid hM
  have HQ := Lib.hid hQ
  have hE := empty_of h0
  have hE1 := empty_of h1
  clear hM hQ h0 h1
  go_enter Tryz.func14, Tryz.ntmps14
  go_wp2_with fail
  refine (rvalid_yes M _ HM.out).mono ?_; rintro e wx ⟨rfl, rfl⟩
  go_wp2_with fail
  refine (rvalid_yes Q _ HQ.out).mono ?_; rintro e wx ⟨rfl, rfl⟩
  go_wp2
  go_ret
  exact ⟨rfl, K.out⟩
set_option maxHeartbeats 1000000 in
set_option maxRecDepth 20000 in
theorem r13chk_u1 (M Q : ByteArray) (w : World) (hM : Can M) (hQ : Can Q) (h0 : Q.size = 0) (hm : 0 < M.size) (h2 : V M % 2 = 0) :
    Calls Tryz.prog 14 #[.agg #[.string M, .string Q]] w fun e w' => e = .returned (.int .i64 13) ∧ Below w.heap.size w w' := by
  have G := Lib.hid (Two.new w (.string M) (.string Q) 24 _ rfl)
  have K := Lib.hid (belA w (.cells #[.string M, .string Q] 24))
  obtain ⟨q1, q2, q3, q4, q5⟩ := G.out
  have HM := Lib.hid hM
  have HQ := Lib.hid hQ
  have hE := empty_of h0
  have hE1 := not_empty_of (s := M) (by omega)
  have hs := hM.1
  have hi0 : (0 : Int) ≤ (M.size : Int) - 1 := by omega
  have hit : M.size - 1 < M.size := by omega
  have hpar := last_even hm h2
  clear hM hQ h0 h2
  go_enter Tryz.func14, Tryz.ntmps14
  go_wp2_with fail
  refine (rvalid_yes M _ HM.out).mono ?_; rintro e wx ⟨rfl, rfl⟩
  go_wp2_with fail
  refine (rvalid_yes Q _ HQ.out).mono ?_; rintro e wx ⟨rfl, rfl⟩
  go_wp2
  go_ret
  exact ⟨rfl, K.out⟩
set_option maxHeartbeats 1000000 in
set_option maxRecDepth 20000 in
theorem r13chk_u2 (M Q : ByteArray) (w : World) (hM : Can M) (hQ : Can Q) (h0 : Q.size = 0) (hm : 0 < M.size) (h2 : V M % 2 = 1) (h3 : ¬ 8 < V M) :
    Calls Tryz.prog 14 #[.agg #[.string M, .string Q]] w fun e w' => e = .returned (.int .i64 13) ∧ Below w.heap.size w w' := by
  have G := Lib.hid (Two.new w (.string M) (.string Q) 24 _ rfl)
  have K := Lib.hid (belA w (.cells #[.string M, .string Q] 24))
  obtain ⟨q1, q2, q3, q4, q5⟩ := G.out
  have HM := Lib.hid hM
  have HQ := Lib.hid hQ
  have hE := empty_of h0
  have hE1 := not_empty_of (s := M) (by omega)
  have hs := hM.1
  have hi0 : (0 : Int) ≤ (M.size : Int) - 1 := by omega
  have hit : M.size - 1 < M.size := by omega
  have hpar := last_odd hm h2
  obtain ⟨y, hy⟩ : ∃ y, y = sgn (V M) 8 := ⟨_, rfl⟩
  have CO := Lib.hid (fun W => (show Calls Tryz.prog 39 #[.string M, .string ⟨#[8]⟩] W fun e w' => e = .returned (.int .i64 y) ∧ Below W.heap.size W w' by have := orderB M ⟨#[8]⟩ W hM can_eight; rwa [V_eight, ← hy] at this))
  have hy0 : y ≤ 0 := by have := sgn_le (a := V M) (b := 8) (by omega); rw [hy]; omega
  have hd0 : decide (y ≤ 0) = true := decide_eq_true hy0
  clear hM hQ h0 h2 h3 hy
  go_enter Tryz.func14, Tryz.ntmps14
  go_wp2_with fail
  refine (rvalid_yes M _ HM.out).mono ?_; rintro e wx ⟨rfl, rfl⟩
  go_wp2_with fail
  refine (rvalid_yes Q _ HQ.out).mono ?_; rintro e wx ⟨rfl, rfl⟩
  go_wp2_with fail
  refine (CO.out _).mono ?_; rintro e w2 ⟨rfl, b2⟩
  have K := Lib.hid (belP K.out b2)
  have G := Lib.hid (G.out.below b2 rfl)
  clear b2 q1 q2 q3 q4 q5
  obtain ⟨q1, q2, q3, q4, q5⟩ := G.out
  go_wp2
  go_ret
  exact ⟨rfl, K.out⟩
set_option maxHeartbeats 1000000 in
set_option maxRecDepth 20000 in
theorem r13chk_u3 (M Q : ByteArray) (w : World) (hM : Can M) (hQ : Can Q) (h0 : Q.size = 0) (hm : 0 < M.size) (h2 : V M % 2 = 1) (h3 : 8 < V M) :
    Calls Tryz.prog 14 #[.agg #[.string M, .string Q]] w fun e w' => e = .returned (.int .i64 0) ∧ Below w.heap.size w w' := by
  have G := Lib.hid (Two.new w (.string M) (.string Q) 24 _ rfl)
  have K := Lib.hid (belA w (.cells #[.string M, .string Q] 24))
  obtain ⟨q1, q2, q3, q4, q5⟩ := G.out
  have HM := Lib.hid hM
  have HQ := Lib.hid hQ
  have hE := empty_of h0
  have hE1 := not_empty_of (s := M) (by omega)
  have hs := hM.1
  have hi0 : (0 : Int) ≤ (M.size : Int) - 1 := by omega
  have hit : M.size - 1 < M.size := by omega
  have hpar := last_odd hm h2
  obtain ⟨y, hy⟩ : ∃ y, y = sgn (V M) 8 := ⟨_, rfl⟩
  have CO := Lib.hid (fun W => (show Calls Tryz.prog 39 #[.string M, .string ⟨#[8]⟩] W fun e w' => e = .returned (.int .i64 y) ∧ Below W.heap.size W w' by have := orderB M ⟨#[8]⟩ W hM can_eight; rwa [V_eight, ← hy] at this))
  have hy0 : ¬ y ≤ 0 := by have := sgnP_gt h3; rw [hy]; omega
  have hd0 : decide (y ≤ 0) = false := decide_eq_false hy0
  clear hM hQ h0 h2 h3 hy
  go_enter Tryz.func14, Tryz.ntmps14
  go_wp2_with fail
  refine (rvalid_yes M _ HM.out).mono ?_; rintro e wx ⟨rfl, rfl⟩
  go_wp2_with fail
  refine (rvalid_yes Q _ HQ.out).mono ?_; rintro e wx ⟨rfl, rfl⟩
  go_wp2_with fail
  refine (CO.out _).mono ?_; rintro e w2 ⟨rfl, b2⟩
  have K := Lib.hid (belP K.out b2)
  have G := Lib.hid (G.out.below b2 rfl)
  clear b2 q1 q2 q3 q4 q5
  obtain ⟨q1, q2, q3, q4, q5⟩ := G.out
  go_wp2
  go_ret
  exact ⟨rfl, K.out⟩
set_option maxHeartbeats 1000000 in
set_option maxRecDepth 20000 in
theorem r13chk_k0 (M Q : ByteArray) (w : World) (hM : Can M) (hQ : Can Q) (h0 : Q.size ≠ 0) (h1 : M.size = 0) :
    Calls Tryz.prog 14 #[.agg #[.string M, .string Q]] w fun e w' => e = .returned (.int .i64 13) ∧ Below w.heap.size w w' := by
  have G := Lib.hid (Two.new w (.string M) (.string Q) 24 _ rfl)
  have K := Lib.hid (belA w (.cells #[.string M, .string Q] 24))
  obtain ⟨q1, q2, q3, q4, q5⟩ := G.out
  have HM := Lib.hid hM
  have HQ := Lib.hid hQ
  have hE := not_empty_of h0
  have hE1 := empty_of h1
  clear hM hQ h0 h1
  go_enter Tryz.func14, Tryz.ntmps14
  go_wp2_with fail
  refine (rvalid_yes M _ HM.out).mono ?_; rintro e wx ⟨rfl, rfl⟩
  go_wp2_with fail
  refine (rvalid_yes Q _ HQ.out).mono ?_; rintro e wx ⟨rfl, rfl⟩
  go_wp2
  go_ret
  exact ⟨rfl, K.out⟩
set_option maxHeartbeats 1000000 in
set_option maxRecDepth 20000 in
theorem r13chk_k1 (M Q : ByteArray) (w : World) (hM : Can M) (hQ : Can Q) (h0 : Q.size ≠ 0) (h1 : V M = 1) :
    Calls Tryz.prog 14 #[.agg #[.string M, .string Q]] w fun e w' => e = .returned (.int .i64 13) ∧ Below w.heap.size w w' := by
  have G := Lib.hid (Two.new w (.string M) (.string Q) 24 _ rfl)
  have K := Lib.hid (belA w (.cells #[.string M, .string Q] 24))
  obtain ⟨q1, q2, q3, q4, q5⟩ := G.out
  have HM := Lib.hid hM
  have HQ := Lib.hid hQ
  have hE := not_empty_of h0
  have hE1 := not_empty_of (s := M) (by have := size_posV hM; omega)
  have ho := one_yes hM h1
  clear hM hQ h0 h1
  go_enter Tryz.func14, Tryz.ntmps14
  go_wp2_with fail
  refine (rvalid_yes M _ HM.out).mono ?_; rintro e wx ⟨rfl, rfl⟩
  go_wp2_with fail
  refine (rvalid_yes Q _ HQ.out).mono ?_; rintro e wx ⟨rfl, rfl⟩
  go_wp2
  go_ret
  exact ⟨rfl, K.out⟩
set_option maxHeartbeats 1000000 in
set_option maxRecDepth 20000 in
theorem r13chk_k2 (M Q : ByteArray) (w : World) (hM : Can M) (hQ : Can Q) (h0 : Q.size ≠ 0) (h1 : 1 < V M) (h2 : V Q = 1) :
    Calls Tryz.prog 14 #[.agg #[.string M, .string Q]] w fun e w' => e = .returned (.int .i64 13) ∧ Below w.heap.size w w' := by
  have G := Lib.hid (Two.new w (.string M) (.string Q) 24 _ rfl)
  have K := Lib.hid (belA w (.cells #[.string M, .string Q] 24))
  obtain ⟨q1, q2, q3, q4, q5⟩ := G.out
  have HM := Lib.hid hM
  have HQ := Lib.hid hQ
  have hE := not_empty_of h0
  have hE1 := not_empty_of (s := M) (by have := size_posV hM; omega)
  have ho := one_noM hM (by omega)
  have ho2 := one_yes hQ h2
  clear hM hQ h0 h1 h2
  go_enter Tryz.func14, Tryz.ntmps14
  go_wp2_with fail
  refine (rvalid_yes M _ HM.out).mono ?_; rintro e wx ⟨rfl, rfl⟩
  go_wp2_with fail
  refine (rvalid_yes Q _ HQ.out).mono ?_; rintro e wx ⟨rfl, rfl⟩
  go_wp2
  go_ret
  exact ⟨rfl, K.out⟩
set_option maxHeartbeats 1000000 in
set_option maxRecDepth 20000 in
theorem r13chk_k3 (M Q : ByteArray) (w : World) (hM : Can M) (hQ : Can Q) (h0 : Q.size ≠ 0) (h1 : 1 < V M) (h2 : V Q ≠ 1) (h3 : (V M - 1) % V Q ≠ 0) :
    Calls Tryz.prog 14 #[.agg #[.string M, .string Q]] w fun e w' => e = .returned (.int .i64 13) ∧ Below w.heap.size w w' := by
  have G := Lib.hid (Two.new w (.string M) (.string Q) 24 _ rfl)
  have K := Lib.hid (belA w (.cells #[.string M, .string Q] 24))
  obtain ⟨q1, q2, q3, q4, q5⟩ := G.out
  have HM := Lib.hid hM
  have HQ := Lib.hid hQ
  have hE := not_empty_of h0
  have hE1 := not_empty_of (s := M) (by have := size_posV hM; omega)
  have ho := one_noM hM (by omega)
  have ho2 := one_noM hQ h2
  have hq0 := (size_posV hQ).2 h0
  obtain ⟨l, hl⟩ : ∃ l, l = V M - 1 := ⟨_, rfl⟩
  obtain ⟨q, r, hq, hr⟩ : ∃ q r, q = l / V Q ∧ r = l % V Q := ⟨_, _, rfl, rfl⟩
  have hcl : Can (E l) := can_E' (by have := V_lim hM; omega)
  have CS := Lib.hid (fun W => (show Calls Tryz.prog 41 #[.string M, .string ⟨#[1]⟩] W fun e w' => e = .returned (.string (E l)) ∧ Below W.heap.size W w' by have := rminus_any M ⟨#[1]⟩ W (by have := hM.1; omega) (by decide) (by rw [V_one]; omega); rwa [V_one, ← hl] at this))
  have CD := Lib.hid (fun W => (show Calls Tryz.prog 40 #[.string (E l), .string Q] W fun e w' => e = .returned (.tuple #[.string (E q), .string (E r)]) ∧ Below W.heap.size W w' by have := rover_any (E l) Q W (by have := hcl.1; omega) (by have := hQ.1; omega) hcl.2 hQ.2 (by omega); rwa [V_E, ← hq, ← hr] at this))
  have hE2 := E_no (n := r) (by rw [hr, hl]; exact h3)
  have S0 := Lib.hid (GrS.mk_ G.out K.out)
  clear hM hQ h0 h1 h2 h3 hq0 hl hq hr hcl
  go_enter Tryz.func14, Tryz.ntmps14
  go_wp2_with fail
  refine (rvalid_yes M _ HM.out).mono ?_; rintro e wx ⟨rfl, rfl⟩
  go_wp2_with fail
  refine (rvalid_yes Q _ HQ.out).mono ?_; rintro e wx ⟨rfl, rfl⟩
  go_wp2_with fail
  first
  | (go_region_held3 (fun W => W.cell? ⟨w.heap.size, 0, none⟩ = some (.string M) ∧ W.cell? ⟨w.heap.size, 1, none⟩ = some (.string Q) ∧ W.frozen? ⟨w.heap.size, 0, none⟩ = false ∧ W.frozen? ⟨w.heap.size, 1, none⟩ = false ∧ w.heap.size < W.heap.size ∧ Below w.heap.size w W) (first | assumption | exact GrS.drew S0.out | exact GrS.next (by assumption) b99)
      (first
      | (go_at_call 41; ((with_reducible refine (CS.out _).mono ?_); rintro e w99 ⟨rfl, b99⟩))
      | (go_at_call 40; ((with_reducible refine (CD.out _).mono ?_); rintro e w99 ⟨rfl, b99⟩))))
  | fail
  have HS : GrS w w.heap.size (.string M) (.string Q) w99 := by assumption
  go_wp2
  go_ret
  exact ⟨rfl, HS.bel⟩
set_option maxHeartbeats 1000000 in
set_option maxRecDepth 20000 in
theorem r13chk_k4 (M Q : ByteArray) (w : World) (hM : Can M) (hQ : Can Q) (h0 : Q.size ≠ 0) (h1 : 1 < V M) (h2 : V Q ≠ 1) (h3 : (V M - 1) % V Q = 0) :
    Calls Tryz.prog 14 #[.agg #[.string M, .string Q]] w fun e w' => e = .returned (.int .i64 0) ∧ Below w.heap.size w w' := by
  have G := Lib.hid (Two.new w (.string M) (.string Q) 24 _ rfl)
  have K := Lib.hid (belA w (.cells #[.string M, .string Q] 24))
  obtain ⟨q1, q2, q3, q4, q5⟩ := G.out
  have HM := Lib.hid hM
  have HQ := Lib.hid hQ
  have hE := not_empty_of h0
  have hE1 := not_empty_of (s := M) (by have := size_posV hM; omega)
  have ho := one_noM hM (by omega)
  have ho2 := one_noM hQ h2
  have hq0 := (size_posV hQ).2 h0
  obtain ⟨l, hl⟩ : ∃ l, l = V M - 1 := ⟨_, rfl⟩
  obtain ⟨q, r, hq, hr⟩ : ∃ q r, q = l / V Q ∧ r = l % V Q := ⟨_, _, rfl, rfl⟩
  have hcl : Can (E l) := can_E' (by have := V_lim hM; omega)
  have CS := Lib.hid (fun W => (show Calls Tryz.prog 41 #[.string M, .string ⟨#[1]⟩] W fun e w' => e = .returned (.string (E l)) ∧ Below W.heap.size W w' by have := rminus_any M ⟨#[1]⟩ W (by have := hM.1; omega) (by decide) (by rw [V_one]; omega); rwa [V_one, ← hl] at this))
  have CD := Lib.hid (fun W => (show Calls Tryz.prog 40 #[.string (E l), .string Q] W fun e w' => e = .returned (.tuple #[.string (E q), .string (E r)]) ∧ Below W.heap.size W w' by have := rover_any (E l) Q W (by have := hcl.1; omega) (by have := hQ.1; omega) hcl.2 hQ.2 (by omega); rwa [V_E, ← hq, ← hr] at this))
  have hE2 := E_yes (n := r) (by rw [hr, hl]; exact h3)
  have S0 := Lib.hid (GrS.mk_ G.out K.out)
  clear hM hQ h0 h1 h2 h3 hq0 hl hq hr hcl
  go_enter Tryz.func14, Tryz.ntmps14
  go_wp2_with fail
  refine (rvalid_yes M _ HM.out).mono ?_; rintro e wx ⟨rfl, rfl⟩
  go_wp2_with fail
  refine (rvalid_yes Q _ HQ.out).mono ?_; rintro e wx ⟨rfl, rfl⟩
  go_wp2_with fail
  first
  | (go_region_held3 (fun W => W.cell? ⟨w.heap.size, 0, none⟩ = some (.string M) ∧ W.cell? ⟨w.heap.size, 1, none⟩ = some (.string Q) ∧ W.frozen? ⟨w.heap.size, 0, none⟩ = false ∧ W.frozen? ⟨w.heap.size, 1, none⟩ = false ∧ w.heap.size < W.heap.size ∧ Below w.heap.size w W) (first | assumption | exact GrS.drew S0.out | exact GrS.next (by assumption) b99)
      (first
      | (go_at_call 41; ((with_reducible refine (CS.out _).mono ?_); rintro e w99 ⟨rfl, b99⟩))
      | (go_at_call 40; ((with_reducible refine (CD.out _).mono ?_); rintro e w99 ⟨rfl, b99⟩))))
  | fail
  have HS : GrS w w.heap.size (.string M) (.string Q) w99 := by assumption
  go_wp2
  go_ret
  exact ⟨rfl, HS.bel⟩
theorem r13chk_any (M Q : ByteArray) (w : World) :
    Calls Tryz.prog 14 #[.agg #[.string M, .string Q]] w fun e w' => e = .returned (.int .i64 (chkG M Q)) ∧ Below w.heap.size w w' := by
  by_cases hc : Can M ∧ Can Q
  · obtain ⟨hM, hQ⟩ := hc
    have hsm := size_posV hM
    by_cases h0 : Q.size = 0
    · by_cases hm : 0 < M.size
      · by_cases h2 : V M % 2 = 1
        · by_cases h3 : 8 < V M
          · rw [chkG_ok ⟨hM, hQ⟩ (.inl ⟨h0, h2, h3⟩)]; exact r13chk_u3 M Q w hM hQ h0 hm h2 h3
          · rw [chkG_bad ⟨hM, hQ⟩ (by rintro (⟨-, q⟩ | ⟨q, -⟩); exact h3 q.2; exact q h0)]; exact r13chk_u2 M Q w hM hQ h0 hm h2 h3
        · rw [chkG_bad ⟨hM, hQ⟩ (by rintro (⟨-, q⟩ | ⟨q, -⟩); exact h2 q.1; exact q h0)]; exact r13chk_u1 M Q w hM hQ h0 hm (by omega)
      · rw [chkG_bad ⟨hM, hQ⟩ (by rintro (⟨-, q⟩ | ⟨q, -⟩); have := q.2; omega; exact q h0)]; exact r13chk_u0 M Q w hM hQ h0 (by omega)
    · by_cases h1 : 1 < V M
      · by_cases h2 : V Q = 1
        · rw [chkG_bad ⟨hM, hQ⟩ (by rintro (⟨q, -⟩ | ⟨-, q⟩); exact h0 q; exact q.2.1 h2)]; exact r13chk_k2 M Q w hM hQ h0 h1 h2
        · by_cases h3 : (V M - 1) % V Q = 0
          · rw [chkG_ok ⟨hM, hQ⟩ (.inr ⟨h0, h1, h2, h3⟩)]; exact r13chk_k4 M Q w hM hQ h0 h1 h2 h3
          · rw [chkG_bad ⟨hM, hQ⟩ (by rintro (⟨q, -⟩ | ⟨-, q⟩); exact h0 q; exact h3 q.2.2)]; exact r13chk_k3 M Q w hM hQ h0 h1 h2 h3
      · rw [chkG_bad ⟨hM, hQ⟩ (by rintro (⟨q, -⟩ | ⟨-, q⟩); exact h0 q; exact h1 q.1)]
        by_cases hm : M.size = 0
        · exact r13chk_k0 M Q w hM hQ h0 hm
        · exact r13chk_k1 M Q w hM hQ h0 (by omega)
  · rw [chkG_form hc]
    exact r13chk_form M Q w hc
end Go.Proofs.YtogmgfdihmacpaaGreatDoor
