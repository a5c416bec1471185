/-
  Several parts in one text (LD).
-/
import Derived.Test.YtogmgfdihmacpaaGreatDoorLaw13c
/-
  Layer 13's statements: Tables. The reference's NewTable and Table.
-/
namespace Go.Proofs.YtogmgfdihmacpaaGreatDoor
open Go.RowKit Go.Deep
set_option linter.unusedVariables false

open Classical in
/-- The error of NewTable. -/
noncomputable def tabC (M Q x : ByteArray) (bits : Int) : Int :=
  if chkNs M Q 1 (fun _ => x) ≠ 0 then chkNs M Q 1 (fun _ => x) else if bits < 0 ∨ 1024 < bits then 2 else if EltG M Q x then 0 else 13
theorem tabC_zero {M Q x : ByteArray} {bits : Int} (h : tabC M Q x bits = 0) : chkG M Q = 0 ∧ 0 ≤ bits ∧ bits ≤ 1024 ∧ EltG M Q x := by
  unfold tabC at h
  split at h
  · exact absurd h ‹_›
  · split at h
    · omega
    · split at h
      · have h0 : chkNs M Q 1 (fun _ => x) = 0 := Classical.not_not.1 ‹_›
        exact ⟨(chkNs_zero h0).2, by omega, by omega, ‹_›⟩
      · omega
/-- NewTable with an error. -/
theorem pnewt_bad (M Q x : ByteArray) (bits : Int) (w : World) (h : tabC M Q x bits ≠ 0) :
    Calls Tryz.prog 24 #[.agg #[.string M, .string Q], .string x, .int .i64 bits] w fun e w' => NoTb (tabC M Q x bits) w e w' := by
  unfold tabC at h ⊢
  split at h
  · rw [if_pos ‹_›]
    exact pnewt_err M Q x bits _ w rfl (by simpa using ‹chkNs M Q 1 (fun _ => x) ≠ 0›)
  · have h0 : chkNs M Q 1 (fun _ => x) = 0 := Classical.not_not.1 ‹_›
    rw [if_neg ‹_›]
    split at h
    · rw [if_pos ‹_›]
      exact pnewt_range M Q x bits w h0 ‹_›
    · rw [if_neg ‹_›]
      split at h
      · omega
      · rw [if_neg ‹_›]
        exact pnewt_no M Q x bits w h0 (by omega) (by omega) ‹_›
theorem pnewt_good (M Q x : ByteArray) (bits : Int) (w : World) (h : tabC M Q x bits = 0) :
    Calls Tryz.prog 24 #[.agg #[.string M, .string Q], .string x, .int .i64 bits] w fun e w' => YesTb M bits ((bits + 3) / 4).toNat (V x) w e w' := by
  obtain ⟨hg, hb1, hb2, he⟩ := tabC_zero h
  exact pnewt_yes M Q x bits _ w hg hb1 hb2 (by omega) he
set_option maxHeartbeats 4000000 in
set_option maxRecDepth 100000 in
theorem r13nt_form (M Q x : ByteArray) (bits : Int) (w : World) (hx : ¬ Can x) :
    Calls Tryz.prog 25 #[.agg #[.string M, .string Q], .string x, .int .i64 bits] w fun e w' => e = .returned (.int .i64 3) ∧ Below w.heap.size w w' := by
  have G := Lib.hid (Two.new w (.string M) (.string Q) 24 _ rfl)
  have K := Lib.hid (belA w (.cells #[.string M, .string Q] 24))
  obtain ⟨q1, q2, q3, q4, q5⟩ := G.out
  have HX := Lib.hid hx
  clear hx
  go_enter Tryz.func25, Tryz.ntmps25
  go_wp2_with fail
  refine (rvalid_no x _ HX.out).mono ?_; rintro e wx ⟨rfl, rfl⟩
  go_wp2
  go_ret
  exact ⟨rfl, K.out⟩
set_option maxHeartbeats 4000000 in
set_option maxRecDepth 100000 in
theorem r13nt_err (M Q x : ByteArray) (bits : Int) (w : World) (hx : Can x) (c : Int) (hc : chkG M Q = c) (h0 : (c != 0) = true) :
    Calls Tryz.prog 25 #[.agg #[.string M, .string Q], .string x, .int .i64 bits] w fun e w' => e = .returned (.int .i64 c) ∧ Below w.heap.size w w' := by
  have G := Lib.hid (Two.new w (.string M) (.string Q) 24 _ rfl)
  have K := Lib.hid (belA w (.cells #[.string M, .string Q] 24))
  obtain ⟨q1, q2, q3, q4, q5⟩ := G.out
  have HX := Lib.hid hx
  have CK := Lib.hid (fun W => (show Calls Tryz.prog 14 #[.agg #[.string M, .string Q]] W fun e w' => e = .returned (.int .i64 c) ∧ Below W.heap.size W w' by rw [← hc]; exact r13chk_any M Q W))
  clear hx hc
  go_enter Tryz.func25, Tryz.ntmps25
  go_wp2_with fail
  refine (rvalid_yes x _ HX.out).mono ?_; rintro e wx ⟨rfl, rfl⟩
  go_wp2_with fail
  refine (CK.out _).mono ?_; rintro e w1 ⟨rfl, b1⟩
  have K := Lib.hid (belP K.out b1)
  have G := Lib.hid (G.out.below b1 rfl)
  clear b1 q1 q2 q3 q4 q5
  obtain ⟨q1, q2, q3, q4, q5⟩ := G.out
  go_wp2
  go_ret
  exact ⟨rfl, K.out⟩
set_option maxHeartbeats 4000000 in
set_option maxRecDepth 100000 in
theorem r13nt_lo (M Q x : ByteArray) (bits : Int) (w : World) (hx : Can x) (hc : chkG M Q = 0) (hb : bits < 0) :
    Calls Tryz.prog 25 #[.agg #[.string M, .string Q], .string x, .int .i64 bits] w fun e w' => e = .returned (.int .i64 2) ∧ Below w.heap.size w w' := by
  have G := Lib.hid (Two.new w (.string M) (.string Q) 24 _ rfl)
  have K := Lib.hid (belA w (.cells #[.string M, .string Q] 24))
  obtain ⟨q1, q2, q3, q4, q5⟩ := G.out
  have HX := Lib.hid hx
  have CK := Lib.hid (fun W => (show Calls Tryz.prog 14 #[.agg #[.string M, .string Q]] W fun e w' => e = .returned (.int .i64 0) ∧ Below W.heap.size W w' by rw [← hc]; exact r13chk_any M Q W))
  have hd := decide_eq_true hb
  clear hx hc
  go_enter Tryz.func25, Tryz.ntmps25
  go_wp2_with fail
  refine (rvalid_yes x _ HX.out).mono ?_; rintro e wx ⟨rfl, rfl⟩
  go_wp2_with fail
  refine (CK.out _).mono ?_; rintro e w1 ⟨rfl, b1⟩
  have K := Lib.hid (belP K.out b1)
  have G := Lib.hid (G.out.below b1 rfl)
  clear b1 q1 q2 q3 q4 q5
  obtain ⟨q1, q2, q3, q4, q5⟩ := G.out
  go_wp2
  go_ret
  exact ⟨rfl, K.out⟩
set_option maxHeartbeats 4000000 in
set_option maxRecDepth 100000 in
theorem r13nt_hi (M Q x : ByteArray) (bits : Int) (w : World) (hx : Can x) (hc : chkG M Q = 0) (hb0 : ¬ bits < 0) (hb : 1024 < bits) :
    Calls Tryz.prog 25 #[.agg #[.string M, .string Q], .string x, .int .i64 bits] w fun e w' => e = .returned (.int .i64 2) ∧ Below w.heap.size w w' := by
  have G := Lib.hid (Two.new w (.string M) (.string Q) 24 _ rfl)
  have K := Lib.hid (belA w (.cells #[.string M, .string Q] 24))
  obtain ⟨q1, q2, q3, q4, q5⟩ := G.out
  have HX := Lib.hid hx
  have CK := Lib.hid (fun W => (show Calls Tryz.prog 14 #[.agg #[.string M, .string Q]] W fun e w' => e = .returned (.int .i64 0) ∧ Below W.heap.size W w' by rw [← hc]; exact r13chk_any M Q W))
  have hd := decide_eq_false hb0
  have hd1 := decide_eq_true hb
  clear hx hc
  go_enter Tryz.func25, Tryz.ntmps25
  go_wp2_with fail
  refine (rvalid_yes x _ HX.out).mono ?_; rintro e wx ⟨rfl, rfl⟩
  go_wp2_with fail
  refine (CK.out _).mono ?_; rintro e w1 ⟨rfl, b1⟩
  have K := Lib.hid (belP K.out b1)
  have G := Lib.hid (G.out.below b1 rfl)
  clear b1 q1 q2 q3 q4 q5
  obtain ⟨q1, q2, q3, q4, q5⟩ := G.out
  go_wp2
  go_ret
  exact ⟨rfl, K.out⟩
set_option maxHeartbeats 4000000 in
set_option maxRecDepth 100000 in
theorem r13nt_no (M Q x : ByteArray) (bits : Int) (w : World) (hs : M.size ≤ 60) (hx : Can x) (hc : chkG M Q = 0) (hb0 : ¬ bits < 0) (hb : ¬ 1024 < bits) (he : ¬ EltG M Q x) :
    Calls Tryz.prog 25 #[.agg #[.string M, .string Q], .string x, .int .i64 bits] w fun e w' => e = .returned (.int .i64 13) ∧ Below w.heap.size w w' := by
  have G := Lib.hid (Two.new w (.string M) (.string Q) 24 _ rfl)
  have K := Lib.hid (belA w (.cells #[.string M, .string Q] 24))
  obtain ⟨q1, q2, q3, q4, q5⟩ := G.out
  have HX := Lib.hid hx
  have CK := Lib.hid (fun W => (show Calls Tryz.prog 14 #[.agg #[.string M, .string Q]] W fun e w' => e = .returned (.int .i64 0) ∧ Below W.heap.size W w' by rw [← hc]; exact r13chk_any M Q W))
  have CE := Lib.hid (fun W => r13elt_f M Q x W hs hc hx he)
  have hd := decide_eq_false hb0
  have hd1 := decide_eq_false hb
  clear hx hc he hs
  go_enter Tryz.func25, Tryz.ntmps25
  go_wp2_with fail
  refine (rvalid_yes x _ HX.out).mono ?_; rintro e wx ⟨rfl, rfl⟩
  go_wp2_with fail
  refine (CK.out _).mono ?_; rintro e w1 ⟨rfl, b1⟩
  have K := Lib.hid (belP K.out b1)
  have G := Lib.hid (G.out.below b1 rfl)
  clear b1 q1 q2 q3 q4 q5
  obtain ⟨q1, q2, q3, q4, q5⟩ := G.out
  go_wp2_with fail
  refine (CE.out _).mono ?_; rintro e w2 ⟨rfl, b2⟩
  have K := Lib.hid (belP K.out b2)
  have G := Lib.hid (G.out.below b2 rfl)
  clear b2 q1 q2 q3 q4 q5
  obtain ⟨q1, q2, q3, q4, q5⟩ := G.out
  go_wp2
  go_ret
  exact ⟨rfl, K.out⟩
set_option maxHeartbeats 4000000 in
set_option maxRecDepth 100000 in
theorem r13nt_yes (M Q x : ByteArray) (bits : Int) (w : World) (hs : M.size ≤ 60) (hx : Can x) (hc : chkG M Q = 0) (hb0 : ¬ bits < 0) (hb : ¬ 1024 < bits) (he : EltG M Q x) :
    Calls Tryz.prog 25 #[.agg #[.string M, .string Q], .string x, .int .i64 bits] w fun e w' => e = .returned (.int .i64 0) ∧ Below w.heap.size w w' := by
  have G := Lib.hid (Two.new w (.string M) (.string Q) 24 _ rfl)
  have K := Lib.hid (belA w (.cells #[.string M, .string Q] 24))
  obtain ⟨q1, q2, q3, q4, q5⟩ := G.out
  have HX := Lib.hid hx
  have CK := Lib.hid (fun W => (show Calls Tryz.prog 14 #[.agg #[.string M, .string Q]] W fun e w' => e = .returned (.int .i64 0) ∧ Below W.heap.size W w' by rw [← hc]; exact r13chk_any M Q W))
  have CE := Lib.hid (fun W => r13elt_t M Q x W hs hc he)
  have hd := decide_eq_false hb0
  have hd1 := decide_eq_false hb
  clear hx hc he hs
  go_enter Tryz.func25, Tryz.ntmps25
  go_wp2_with fail
  refine (rvalid_yes x _ HX.out).mono ?_; rintro e wx ⟨rfl, rfl⟩
  go_wp2_with fail
  refine (CK.out _).mono ?_; rintro e w1 ⟨rfl, b1⟩
  have K := Lib.hid (belP K.out b1)
  have G := Lib.hid (G.out.below b1 rfl)
  clear b1 q1 q2 q3 q4 q5
  obtain ⟨q1, q2, q3, q4, q5⟩ := G.out
  go_wp2_with fail
  refine (CE.out _).mono ?_; rintro e w2 ⟨rfl, b2⟩
  have K := Lib.hid (belP K.out b2)
  have G := Lib.hid (G.out.below b2 rfl)
  clear b2 q1 q2 q3 q4 q5
  obtain ⟨q1, q2, q3, q4, q5⟩ := G.out
  go_wp2
  go_ret
  exact ⟨rfl, K.out⟩
theorem r13nt_any (M Q x : ByteArray) (bits : Int) (w : World) (hs : M.size ≤ 60) :
    Calls Tryz.prog 25 #[.agg #[.string M, .string Q], .string x, .int .i64 bits] w fun e w' => e = .returned (.int .i64 (tabC M Q x bits)) ∧ Below w.heap.size w w' := by
  by_cases hx : Can x
  · have e := chkNs_ok (M := M) (Q := Q) (canL1.2 hx)
    by_cases hc : chkG M Q = 0
    · by_cases h0 : bits < 0
      · rw [show tabC M Q x bits = 2 by unfold tabC; rw [if_neg (by rw [e]; exact fun q => q hc), if_pos (.inl h0)]]
        exact r13nt_lo M Q x bits w hx hc h0
      · by_cases h1 : 1024 < bits
        · rw [show tabC M Q x bits = 2 by unfold tabC; rw [if_neg (by rw [e]; exact fun q => q hc), if_pos (.inr h1)]]
          exact r13nt_hi M Q x bits w hx hc h0 h1
        · by_cases he : EltG M Q x
          · rw [show tabC M Q x bits = 0 by unfold tabC; rw [if_neg (by rw [e]; exact fun q => q hc), if_neg (by omega), if_pos he]]
            exact r13nt_yes M Q x bits w hs hx hc h0 h1 he
          · rw [show tabC M Q x bits = 13 by unfold tabC; rw [if_neg (by rw [e]; exact fun q => q hc), if_neg (by omega), if_neg he]]
            exact r13nt_no M Q x bits w hs hx hc h0 h1 he
    · rw [show tabC M Q x bits = chkG M Q by unfold tabC; rw [e, if_pos hc]]
      exact r13nt_err M Q x bits w hx _ rfl (by simpa using hc)
  · rw [show tabC M Q x bits = 3 by unfold tabC; rw [chkNs_form (M := M) (Q := Q) (fun q => hx (canL1.1 q)), if_pos (by omega)]]
    exact r13nt_form M Q x bits w hx
set_option maxHeartbeats 4000000 in
set_option maxRecDepth 100000 in
theorem r13tab_long (M Q x e : ByteArray) (bits : Int) (w : World) (he : Can e) (hb : bits < (nbits (V e) : Int)) :
    Calls Tryz.prog 27 #[.agg #[.string M, .string Q], .string x, .int .i64 bits, .string e] w fun r w' => r = .returned (.tuple #[.string ⟨#[]⟩, .int .i64 5]) ∧ Below w.heap.size w w' := by
  have G := Lib.hid (Two.new w (.string M) (.string Q) 24 _ rfl)
  have K := Lib.hid (belA w (.cells #[.string M, .string Q] 24))
  obtain ⟨q1, q2, q3, q4, q5⟩ := G.out
  obtain ⟨nb, hnb⟩ : ∃ nb : Nat, nb = nbits (V e) := ⟨_, rfl⟩
  rw [← hnb] at hb
  have CB := Lib.hid (fun W => (show Calls Tryz.prog 54 #[.string e] W fun r w' => r = .returned (.int .i64 nb) ∧ W = w' by rw [hnb]; exact rbitsv_yes e W he))
  have HE := Lib.hid he
  have hd := decide_eq_true hb
  clear he hnb
  go_enter Tryz.func27, Tryz.ntmps27
  go_wp2_with fail
  refine (rvalid_yes e _ HE.out).mono ?_; rintro e wx ⟨rfl, rfl⟩
  go_wp2_with fail
  refine (CB.out _).mono ?_; rintro e wx ⟨rfl, rfl⟩
  go_wp2
  go_ret2
  exact ⟨rfl, K.out⟩
set_option maxHeartbeats 4000000 in
set_option maxRecDepth 100000 in
theorem r13tab_yes (M Q x e : ByteArray) (bits : Int) (w : World) (hs : M.size ≤ 60) (hg : chkG M Q = 0) (hx : EltG M Q x) (he : Can e) (hb : (nbits (V e) : Int) ≤ bits) :
    Calls Tryz.prog 27 #[.agg #[.string M, .string Q], .string x, .int .i64 bits, .string e] w fun r w' => r = .returned (.tuple #[.string (E (V x ^ V e % V M)), .int .i64 0]) ∧ Below w.heap.size w w' := by
  have G := Lib.hid (Two.new w (.string M) (.string Q) 24 _ rfl)
  have K := Lib.hid (belA w (.cells #[.string M, .string Q] 24))
  obtain ⟨q1, q2, q3, q4, q5⟩ := G.out
  obtain ⟨nb, hnb⟩ : ∃ nb : Nat, nb = nbits (V e) := ⟨_, rfl⟩
  rw [← hnb] at hb
  have CB := Lib.hid (fun W => (show Calls Tryz.prog 54 #[.string e] W fun r w' => r = .returned (.int .i64 nb) ∧ W = w' by rw [hnb]; exact rbitsv_yes e W he))
  have HE := Lib.hid he
  have hd : decide (bits < (nb : Int)) = false := decide_eq_false (by omega)
  have CR := Lib.hid (fun W => r13raw_yes M Q x false e W hs hg hx ⟨he, fun q => by cases q⟩)
  rw [show pwN (V M) (V x) (IZ false e) = V x ^ V e % V M by unfold IZ; rw [sg_f, pwN_nat]] at CR
  generalize E (V x ^ V e % V M) = y at *
  clear he hnb hs hg hx
  go_enter Tryz.func27, Tryz.ntmps27
  go_wp2_with fail
  refine (rvalid_yes e _ HE.out).mono ?_; rintro e wx ⟨rfl, rfl⟩
  go_wp2_with fail
  refine (CB.out _).mono ?_; rintro e wx ⟨rfl, rfl⟩
  go_wp2_with fail
  refine (CR.out _).mono ?_; rintro e w2 ⟨rfl, b2⟩
  have K := Lib.hid (belP K.out b2)
  have G := Lib.hid (G.out.below b2 rfl)
  clear b2 q1 q2 q3 q4 q5
  obtain ⟨q1, q2, q3, q4, q5⟩ := G.out
  go_wp2
  go_ret2
  exact ⟨rfl, K.out⟩
theorem and1023 (n : Int) : ∃ k : Nat, k ≤ 1023 ∧ bits .and .i64 n 1023 = (k : Int) := by
  refine ⟨(BitVec.ofInt 64 n &&& BitVec.ofInt 64 1023).toNat, ?_, ?_⟩
  · rw [BitVec.toNat_and]
    exact Nat.and_le_right
  · have h : (BitVec.ofInt 64 n &&& BitVec.ofInt 64 1023).toNat ≤ 1023 := by rw [BitVec.toNat_and]; exact Nat.and_le_right
    refine (show bits .and .i64 n 1023 = IntKind.i64.wrap ((BitVec.ofInt 64 n &&& BitVec.ofInt 64 1023).toNat : Int) from rfl).trans ?_
    exact IntWalk.i64_in _ (by omega)
end Go.Proofs.YtogmgfdihmacpaaGreatDoor


/-
  Layer 13's statements: Tables.
-/
namespace Go.Proofs.YtogmgfdihmacpaaGreatDoor
open Go.RowKit Go.Deep
set_option linter.unusedVariables false

/-- The table of a walk, beside the group's box. -/
def TlR (w : World) (M Q : ByteArray) (bits : Int) (t9 k b : Nat) (q : Option Addr) (cq : Nat) (W : World) : Prop :=
  Below w.heap.size w W ∧ Two W w.heap.size (.string M) (.string Q) ∧ Three W t9 (.string M) (.int .i64 bits) (.slice q k cq) ∧ TbV W (.slice q k cq) k (fun i j => E (b ^ (16 ^ i * j) % V M))
theorem TlR.below {w : World} {M Q : ByteArray} {bits : Int} {t9 k b : Nat} {q : Option Addr} {cq : Nat} {W W' : World} (h : TlR w M Q bits t9 k b q cq W) (c : Below W.heap.size W W') : TlR w M Q bits t9 k b q cq W' :=
  ⟨belP h.1 c, h.2.1.below c rfl, h.2.2.1.below c rfl, h.2.2.2.below c⟩
theorem grow2048 {x k i : Nat} (h1 : 1 ≤ x) (h2 : x ≤ 2048 ^ i) (hk : k ≤ 1023) (hi : i < 8) : 1 ≤ x * (k + 2) + i ∧ x * (k + 2) + i ≤ 2048 ^ (i + 1) ∧ x * (k + 2) + i < Lim ∧ x * (k + 2) < Lim ∧ x < Lim := by
  have h3 : x * (k + 2) ≤ x * 1025 := Nat.mul_le_mul_left _ (by omega)
  have h4 : x * (k + 2) + i ≤ x * 2048 := by omega
  have h5 : x * 2048 ≤ 2048 ^ i * 2048 := Nat.mul_le_mul_right _ h2
  have h6 : (2048 : Nat) ^ (i + 1) = 2048 ^ i * 2048 := Nat.pow_succ ..
  have h7 : (2048 : Nat) ^ (i + 1) ≤ 2048 ^ 8 := Nat.pow_le_pow_right (by omega) (by omega)
  have h8 : (2048 : Nat) ^ 8 < Lim := by rw [lim_eq]; decide +kernel
  have h9 : x * 1 ≤ x * (k + 2) := Nat.mul_le_mul_left _ (by omega)
  refine ⟨by omega, by omega, by omega, by omega, by omega⟩
theorem not_can0 : ¬ Can ⟨#[0]⟩ := by
  rintro ⟨-, h⟩
  exact h rfl
set_option maxHeartbeats 8000000 in
set_option maxRecDepth 100000 in
theorem tables_n1 (M Q x : ByteArray) (bits n : Int) (lM : M.size ≤ maxLen) (lQ : Q.size ≤ maxLen) (lx : x.size ≤ maxLen) (w : World) (hf : ¬ (x.size ≤ 20 ∧ M.size ≤ 8 ∧ Q.size ≤ 10)) :
    Calls Tryz.prog 7 #[.agg #[.string M, .string Q], .string x, .agg #[.int .i64 bits, .int .i64 n]] w fun e w' => e = .returned (.bool true) ∧ Below w.heap.size w w' := by
  unfold maxLen at lM lQ lx
  have CF := Lib.hid (fun W T g hg => few9_1 M Q x W T g hg (by omega) (by omega) (by omega))
  have K := Lib.hid (belP (belA w (.cells #[.string M, .string Q] 24)) (belA _ (.cells #[.int .i64 bits, .int .i64 n] 46)))
  have A := Lib.hid ((Two.new w (.string M) (.string Q) 24 _ rfl).alloc (.cells #[.int .i64 bits, .int .i64 n] 46))
  have D := Lib.hid (Two.new (w.alloc (.cells #[.string M, .string Q] 24)) (.int .i64 bits) (.int .i64 n) 46 (w.heap.size + 1) (by simp))
  obtain ⟨A1, A2, A3, A4, A5⟩ := A.out
  obtain ⟨D1, D2, D3, D4, D5⟩ := D.out
  have CT := Lib.hid (fun W T g hg => (CF.out W T g hg).mono fun _ _ q => q.no hf)
  clear hf CF lM lQ lx
  go_enter Tryz.func7, Tryz.ntmps7
  go_wp2_with fail
  go_quiet (fail)
  go_wp2_with fail
  refine (CT.out _ _ _ (by simp)).mono ?_; rintro e w1 ⟨rfl, b1⟩
  have K := Lib.hid (belP (belP (belDN K.out _) (belA _ _)) b1)
  have A := Lib.hid (((A.out.draw _).alloc _).below b1 rfl)
  clear b1 A1 A2 A3 A4 A5 D D1 D2 D3 D4 D5
  obtain ⟨A1, A2, A3, A4, A5⟩ := A.out
  go_wp2_with fail
  refine (awake13 _).mono ?_; rintro e w2 ⟨rfl, b2⟩
  have K := Lib.hid (belP K.out b2)
  have A := Lib.hid (A.out.below b2 rfl)
  clear b2 A1 A2 A3 A4 A5
  obtain ⟨A1, A2, A3, A4, A5⟩ := A.out
  go_wp2
  go_ret
  exact ⟨rfl, K.out⟩
set_option maxHeartbeats 8000000 in
set_option maxRecDepth 100000 in
theorem tables_n2 (M Q x : ByteArray) (bits n : Int) (lM : M.size ≤ maxLen) (lQ : Q.size ≤ maxLen) (lx : x.size ≤ maxLen) (w : World) (hf : (x.size ≤ 20 ∧ M.size ≤ 8 ∧ Q.size ≤ 10)) (hb : 200 < bits) :
    Calls Tryz.prog 7 #[.agg #[.string M, .string Q], .string x, .agg #[.int .i64 bits, .int .i64 n]] w fun e w' => e = .returned (.bool true) ∧ Below w.heap.size w w' := by
  unfold maxLen at lM lQ lx
  have CF := Lib.hid (fun W T g hg => few9_1 M Q x W T g hg (by omega) (by omega) (by omega))
  have K := Lib.hid (belP (belA w (.cells #[.string M, .string Q] 24)) (belA _ (.cells #[.int .i64 bits, .int .i64 n] 46)))
  have A := Lib.hid ((Two.new w (.string M) (.string Q) 24 _ rfl).alloc (.cells #[.int .i64 bits, .int .i64 n] 46))
  have D := Lib.hid (Two.new (w.alloc (.cells #[.string M, .string Q] 24)) (.int .i64 bits) (.int .i64 n) 46 (w.heap.size + 1) (by simp))
  obtain ⟨A1, A2, A3, A4, A5⟩ := A.out
  obtain ⟨D1, D2, D3, D4, D5⟩ := D.out
  have CT := Lib.hid (fun W T g hg => (CF.out W T g hg).mono fun _ _ q => q.yes hf)
  have hd := decide_eq_true hb
  clear hf CF lM lQ lx
  go_enter Tryz.func7, Tryz.ntmps7
  go_wp2_with fail
  go_quiet (fail)
  go_wp2_with fail
  refine (CT.out _ _ _ (by simp)).mono ?_; rintro e w1 ⟨rfl, b1⟩
  have K := Lib.hid (belP (belP (belDN K.out _) (belA _ _)) b1)
  have A := Lib.hid (((A.out.draw _).alloc _).below b1 rfl)
  clear b1 A1 A2 A3 A4 A5 D D1 D2 D3 D4 D5
  obtain ⟨A1, A2, A3, A4, A5⟩ := A.out
  go_wp2_with fail
  refine (awake13 _).mono ?_; rintro e w2 ⟨rfl, b2⟩
  have K := Lib.hid (belP K.out b2)
  have A := Lib.hid (A.out.below b2 rfl)
  clear b2 A1 A2 A3 A4 A5
  obtain ⟨A1, A2, A3, A4, A5⟩ := A.out
  go_wp2
  go_ret
  exact ⟨rfl, K.out⟩
set_option maxHeartbeats 8000000 in
set_option maxRecDepth 100000 in
theorem tables_n3 (M Q x : ByteArray) (bits n : Int) (lM : M.size ≤ maxLen) (lQ : Q.size ≤ maxLen) (lx : x.size ≤ maxLen) (w : World) (hf : (x.size ≤ 20 ∧ M.size ≤ 8 ∧ Q.size ≤ 10)) (hb : ¬ 200 < bits) (hc : tabC M Q x bits ≠ 0) :
    Calls Tryz.prog 7 #[.agg #[.string M, .string Q], .string x, .agg #[.int .i64 bits, .int .i64 n]] w fun e w' => e = .returned (.bool true) ∧ Below w.heap.size w w' := by
  unfold maxLen at lM lQ lx
  have CF := Lib.hid (fun W T g hg => few9_1 M Q x W T g hg (by omega) (by omega) (by omega))
  have K := Lib.hid (belP (belA w (.cells #[.string M, .string Q] 24)) (belA _ (.cells #[.int .i64 bits, .int .i64 n] 46)))
  have A := Lib.hid ((Two.new w (.string M) (.string Q) 24 _ rfl).alloc (.cells #[.int .i64 bits, .int .i64 n] 46))
  have D := Lib.hid (Two.new (w.alloc (.cells #[.string M, .string Q] 24)) (.int .i64 bits) (.int .i64 n) 46 (w.heap.size + 1) (by simp))
  obtain ⟨A1, A2, A3, A4, A5⟩ := A.out
  obtain ⟨D1, D2, D3, D4, D5⟩ := D.out
  have CT := Lib.hid (fun W T g hg => (CF.out W T g hg).mono fun _ _ q => q.yes hf)
  have hd := decide_eq_false hb
  obtain ⟨c, hcc⟩ : ∃ c, c = tabC M Q x bits := ⟨_, rfl⟩
  have C1 := Lib.hid (fun W => pnewt_bad M Q x bits W hc)
  have C2 := Lib.hid (fun W => r13nt_any M Q x bits W (by omega))
  rw [← hcc] at C1 C2 hc
  have h0 : (c != 0) = true := by simpa using hc
  have h1 : (c == c) = true := by simp
  clear hf CF lM lQ lx hc hcc
  go_enter Tryz.func7, Tryz.ntmps7
  go_wp2_with fail
  go_quiet (fail)
  go_wp2_with fail
  refine (CT.out _ _ _ (by simp)).mono ?_; rintro e w1 ⟨rfl, b1⟩
  have K := Lib.hid (belP (belP (belDN K.out _) (belA _ _)) b1)
  have A := Lib.hid (((A.out.draw _).alloc _).below b1 rfl)
  clear b1 A1 A2 A3 A4 A5 D D1 D2 D3 D4 D5
  obtain ⟨A1, A2, A3, A4, A5⟩ := A.out
  go_wp2_with fail
  refine (C1.out _).mono ?_; rintro e w2 ⟨rfl, b2⟩
  have K := Lib.hid (belP (belP K.out b2) (belA w2 (.cells #[.string ⟨#[]⟩, .int .i64 0, .slice none 0 0] 49)))
  have A := Lib.hid ((A.out.below b2 rfl).alloc (.cells #[.string ⟨#[]⟩, .int .i64 0, .slice none 0 0] 49))
  have T := Lib.hid (Three.new w2 (.string ⟨#[]⟩) (.int .i64 0) (.slice none 0 0) 49 _ rfl)
  clear b2 A1 A2 A3 A4 A5
  obtain ⟨A1, A2, A3, A4, A5⟩ := A.out
  obtain ⟨T1, T2, T3, T4, T5, T6, T7⟩ := T.out
  go_wp2_with fail
  refine (C2.out _).mono ?_; rintro e w3 ⟨rfl, b3⟩
  have K := Lib.hid (belP K.out b3)
  have A := Lib.hid (A.out.below b3 rfl)
  have T := Lib.hid (T.out.below b3 rfl)
  clear b3 A1 A2 A3 A4 A5 T1 T2 T3 T4 T5 T6 T7
  obtain ⟨A1, A2, A3, A4, A5⟩ := A.out
  obtain ⟨T1, T2, T3, T4, T5, T6, T7⟩ := T.out
  go_wp2_with fail
  refine (ptexp_state ⟨#[]⟩ ⟨#[]⟩ 0 none 0 0 _ x_0.1 rfl).mono ?_; rintro e w4 ⟨rfl, b4⟩
  have K := Lib.hid (belP K.out b4)
  have A := Lib.hid (A.out.below b4 rfl)
  have T := Lib.hid (T.out.below b4 rfl)
  clear b4 A1 A2 A3 A4 A5 T1 T2 T3 T4 T5 T6 T7
  obtain ⟨A1, A2, A3, A4, A5⟩ := A.out
  obtain ⟨T1, T2, T3, T4, T5, T6, T7⟩ := T.out
  go_wp2_with fail
  refine (awake13 _).mono ?_; rintro e w5 ⟨rfl, b5⟩
  have K := Lib.hid (belP K.out b5)
  have A := Lib.hid (A.out.below b5 rfl)
  have T := Lib.hid (T.out.below b5 rfl)
  clear b5 A1 A2 A3 A4 A5 T1 T2 T3 T4 T5 T6 T7
  obtain ⟨A1, A2, A3, A4, A5⟩ := A.out
  obtain ⟨T1, T2, T3, T4, T5, T6, T7⟩ := T.out
  go_wp2
  go_ret
  exact ⟨rfl, K.out⟩
set_option maxHeartbeats 8000000 in
set_option maxRecDepth 100000 in
theorem tables_yes (M Q x : ByteArray) (bits n : Int) (lM : M.size ≤ maxLen) (lQ : Q.size ≤ maxLen) (lx : x.size ≤ maxLen) (w : World) (wn : (Lit.int .i64 n).wf = true) (hf : (x.size ≤ 20 ∧ M.size ≤ 8 ∧ Q.size ≤ 10)) (hb : ¬ 200 < bits) (hc : tabC M Q x bits = 0) :
    Calls Tryz.prog 7 #[.agg #[.string M, .string Q], .string x, .agg #[.int .i64 bits, .int .i64 n]] w fun e w' => e = .returned (.bool true) ∧ Below w.heap.size w w' := by
  unfold maxLen at lM lQ lx
  have CF := Lib.hid (fun W T g hg => few9_1 M Q x W T g hg (by omega) (by omega) (by omega))
  have K := Lib.hid (belP (belA w (.cells #[.string M, .string Q] 24)) (belA _ (.cells #[.int .i64 bits, .int .i64 n] 46)))
  have A := Lib.hid ((Two.new w (.string M) (.string Q) 24 _ rfl).alloc (.cells #[.int .i64 bits, .int .i64 n] 46))
  have D := Lib.hid (Two.new (w.alloc (.cells #[.string M, .string Q] 24)) (.int .i64 bits) (.int .i64 n) 46 (w.heap.size + 1) (by simp))
  obtain ⟨A1, A2, A3, A4, A5⟩ := A.out
  obtain ⟨D1, D2, D3, D4, D5⟩ := D.out
  have CT := Lib.hid (fun W T g hg => (CF.out W T g hg).mono fun _ _ q => q.yes hf)
  have hd := decide_eq_false hb
  have C1 := Lib.hid (fun W => pnewt_good M Q x bits W hc)
  have C2 := Lib.hid (fun W => r13nt_any M Q x bits W (by omega))
  rw [hc] at C2
  obtain ⟨hg, hb1, hb2, he⟩ := tabC_zero hc
  obtain ⟨hM, hQ, hw⟩ := chkG_zero hg
  obtain ⟨k, hk⟩ : ∃ k, k = ((bits + 3) / 4).toNat := ⟨_, rfl⟩
  rw [← hk] at C1
  have hm1 := wfG_pos hw
  have CX := Lib.hid (fun (v : Value) (e : ByteArray) W (hv : TbV W v k (fun i j => E (V x ^ (16 ^ i * j) % V M))) (he : Can e) (hnb : (nbits (V e) : Int) ≤ bits) => ptexp_yes M e (V x) bits v k W hv he hM hm1 hnb (by omega) (by omega))
  have CXL := Lib.hid (fun (q : Option Addr) (cq : Nat) (e : ByteArray) W (he : Can e) (hnb : bits < (nbits (V e) : Int)) => ptexp_long M e bits q k cq W he (by have := wfG_size hM hw; omega) hnb)
  have CXF := Lib.hid (fun (v : Value) W => ptexp_form M ⟨#[0]⟩ bits v W not_can0)
  have CR := Lib.hid (fun (e : ByteArray) W (he' : Can e) (hnb : (nbits (V e) : Int) ≤ bits) => r13tab_yes M Q x e bits W (by omega) hg he he' hnb)
  have CRL := Lib.hid (fun (e : ByteArray) W (he' : Can e) (hnb : bits < (nbits (V e) : Int)) => r13tab_long M Q x e bits W he' hnb)
  obtain ⟨kk, hkk, hand⟩ := and1023 n
  have HAND := Lib.hid hand
  have HM1 := Lib.hid hm1
  have HB1 := Lib.hid hb1
  clear hf CF lM lQ lx hc hg hb1 hb2 he hM hQ hw hk hm1 wn hand
  go_enter Tryz.func7, Tryz.ntmps7
  go_wp2_with fail
  go_quiet (fail)
  go_wp2_with fail
  refine (CT.out _ _ _ (by simp)).mono ?_; rintro e w1 ⟨rfl, b1⟩
  have K := Lib.hid (belP (belP (belDN K.out _) (belA _ _)) b1)
  have A := Lib.hid (((A.out.draw _).alloc _).below b1 rfl)
  clear b1 A1 A2 A3 A4 A5 D D1 D2 D3 D4 D5
  obtain ⟨A1, A2, A3, A4, A5⟩ := A.out
  go_wp2_with fail
  refine (C1.out _).mono ?_; rintro e w2 ⟨q, cq, rfl, hT, b2⟩
  have T0 := Lib.hid (show TlR w M Q bits w2.heap.size k (V x) q cq (w2.alloc (.cells #[.string M, .int .i64 bits, .slice q k cq] 49)) from
    ⟨belP (belP K.out b2) (belA _ _), (A.out.below b2 rfl).alloc _, Three.new _ _ _ _ _ _ rfl, hT.below (belA _ _)⟩)
  clear b2 hT K
  obtain ⟨A1, A2, A3, A4, A5⟩ := T0.out.2.1
  go_wp2_with fail
  refine (C2.out _).mono ?_; rintro e w3 ⟨rfl, b3⟩
  have T1 := Lib.hid (T0.out.below b3)
  clear b3 T0 A A1 A2 A3 A4 A5
  obtain ⟨t9, ht9⟩ : ∃ t9, t9 = w2.heap.size := ⟨_, rfl⟩
  rw [← ht9] at T1 ⊢
  clear ht9
  go_wp2
  go_loopw [14, 15] (fun xv i wr => ∃ (xn i' : Nat), i' ≤ 8 ∧ i = .int .i64 i' ∧ xv = .string (E xn) ∧ Hid (1 ≤ xn ∧ xn ≤ 2048 ^ i') ∧ Hid (TlR w M Q bits t9 k (V x) q cq wr)) (fun _ i _ => 8 - (intOf i).toNat)
  case atStart => exact ⟨1, 0, by omega, rfl, by rw [l_1], ⟨by omega, by omega⟩, T1⟩
  case round =>
    obtain ⟨xn, i, hi, rfl, rfl, HX, T⟩ := hrel
    clear T1
    obtain ⟨A1, A2, A3, A4, A5⟩ := T.out.2.1
    obtain ⟨T1, T2, T3, T4, T5, T6, T7⟩ := T.out.2.2.1
    by_cases hlt : i < 8
    · have hlti : (i : Int) < 8 := by omega
      obtain ⟨g1, g2, g3, g4, g5⟩ := grow2048 HX.out.1 HX.out.2 hkk hlt
      have hcx : Can (E xn) := can_E' g5
      have CO := Lib.hid (fun W (z : Int) (hz : z = ((kk + 2 : Nat) : Int)) => (show Calls Tryz.prog 28 #[.int .u64 z] W fun e w' => e = .returned (.string (E (kk + 2))) ∧ Below W.heap.size W w' by subst hz; exact of_any (kk + 2) W (by omega)))
      have CM := Lib.hid (fun W => (show Calls Tryz.prog 29 #[.string (E xn), .string (E (kk + 2))] W fun e w' => e = .returned (.tuple #[.string (E (xn * (kk + 2))), .int .i64 0]) ∧ Below W.heap.size W w' by
        have := mul_yes (E xn) (E (kk + 2)) W hcx (can_E' (small_lim (by omega))); rwa [V_E, V_E, okN_yes g4] at this))
      have CI := Lib.hid (fun W (z : Int) (hz : z = (i : Int)) => (show Calls Tryz.prog 28 #[.int .u64 z] W fun e w' => e = .returned (.string (E i)) ∧ Below W.heap.size W w' by subst hz; exact of_any i W (by omega)))
      have CA := Lib.hid (fun W => (show Calls Tryz.prog 30 #[.string (E (xn * (kk + 2))), .string (E i)] W fun e w' => e = .returned (.tuple #[.string (E (xn * (kk + 2) + i)), .int .i64 0]) ∧ Below W.heap.size W w' by
        have := add_yes (E (xn * (kk + 2))) (E i) W (can_E' g4) (can_E' (small_lim (by omega))); rwa [V_E, V_E, okN_yes g3] at this))
      have HXN := Lib.hid (And.intro g1 g2)
      have hand := HAND.out
      have hk0 : (0 : Int) ≤ (kk : Int) := by omega
      have hk1 : (kk : Int) ≤ 1023 := by omega
      obtain ⟨y, c, CY, CZ⟩ : ∃ (y : ByteArray) (c : Int), Hid (∀ W, TbV W (.slice q k cq) k (fun i j => E (V x ^ (16 ^ i * j) % V M)) → Calls Tryz.prog 26 #[.agg #[.string M, .int .i64 bits, .slice q k cq], .string (E xn)] W fun e w' => e = .returned (.tuple #[.string y, .int .i64 c]) ∧ Below W.heap.size W w') ∧
          Hid (∀ W, Calls Tryz.prog 27 #[.agg #[.string M, .string Q], .string x, .int .i64 bits, .string (E xn)] W fun e w' => e = .returned (.tuple #[.string y, .int .i64 c]) ∧ Below W.heap.size W w') := by
        by_cases hnb : (nbits (V (E xn)) : Int) ≤ bits
        · exact ⟨_, 0, fun W hv => CX.out _ _ W hv hcx hnb, fun W => CR.out _ W hcx hnb⟩
        · exact ⟨_, 5, fun W _ => CXL.out _ _ _ W hcx (by omega), fun W => CRL.out _ W hcx (by omega)⟩
      have hyy : (y.toList == y.toList) = true := by simp
      have hcc : (c == c) = true := by simp
      have hyn : (y.toList != y.toList) = false := by simp
      have hcn : (c != c) = false := by simp
      clear g1 g2 g3 g4 g5 hcx
      go_wp2_with fail
      refine (CY.out _ T.out.2.2.2).mono ?_; rintro e w4 ⟨rfl, b4⟩
      have T4w := Lib.hid (T.out.below b4)
      clear b4 T A1 A2 A3 A4 A5 T1 T2 T3 T4 T5 T6 T7
      obtain ⟨A1, A2, A3, A4, A5⟩ := T4w.out.2.1
      go_wp2_with fail
      refine (CZ.out _).mono ?_; rintro e w5 ⟨rfl, b5⟩
      have T5w := Lib.hid (T4w.out.below b5)
      clear b5 T4w A1 A2 A3 A4 A5
      go_wp2_with fail
      refine (CO.out _ _ (by first | omega | simp)).mono ?_; rintro e w6 ⟨rfl, b6⟩
      have T6w := Lib.hid (T5w.out.below b6)
      clear b6 T5w
      go_wp2_with fail
      refine (CM.out _).mono ?_; rintro e w7 ⟨rfl, b7⟩
      have T7w := Lib.hid (T6w.out.below b7)
      clear b7 T6w
      go_wp2_with fail
      refine (CI.out _ _ (by first | omega | simp)).mono ?_; rintro e w8 ⟨rfl, b8⟩
      have T8w := Lib.hid (T7w.out.below b8)
      clear b8 T7w
      go_wp2_with fail
      refine (CA.out _).mono ?_; rintro e w9 ⟨rfl, b9⟩
      have T9w := Lib.hid (T8w.out.below b9)
      clear b9 T8w hand
      go_wp2
      go_roundw
      case rel => exact ⟨xn * (kk + 2) + i, i + 1, by omega, by go_num, rfl, HXN, T9w⟩
      case measure => simp [intOf]; omega
    · obtain rfl : i = 8 := by omega
      have CE := Lib.hid (fun W hv => CX.out (.slice q k cq) ⟨#[]⟩ W hv x_0.1 (by rw [x_0.2]; have := HB1.out; exact this))
      rw [x_0.2, Nat.pow_zero, Nat.mod_eq_of_lt HM1.out, l_1] at CE
      go_wp2_with fail
      refine (CXF.out _ _).mono ?_; rintro e w4 ⟨rfl, b4⟩
      have T4w := Lib.hid (T.out.below b4)
      clear b4 T A1 A2 A3 A4 A5 T1 T2 T3 T4 T5 T6 T7
      obtain ⟨T1, T2, T3, T4, T5, T6, T7⟩ := T4w.out.2.2.1
      go_wp2_with fail
      refine (CE.out _ T4w.out.2.2.2).mono ?_; rintro e w5 ⟨rfl, b5⟩
      have T5w := Lib.hid (T4w.out.below b5)
      clear b5 T4w T1 T2 T3 T4 T5 T6 T7
      go_wp2_with fail
      refine (awake13 _).mono ?_; rintro e w6 ⟨rfl, b6⟩
      have T6w := Lib.hid (T5w.out.below b6)
      go_wp2
      go_ret
      exact ⟨rfl, T6w.out.1⟩
theorem law_PowerTables (M Q x : ByteArray) (bits n : Int) (lM : M.size ≤ maxLen) (lQ : Q.size ≤ maxLen) (lx : x.size ≤ maxLen) (wb : (Lit.int .i64 bits).wf = true) (wn : (Lit.int .i64 n).wf = true) (w : World) :
    Calls Tryz.prog 7 #[.agg #[.string M, .string Q], .string x, .agg #[.int .i64 bits, .int .i64 n]] w fun e w' => e = .returned (.bool true) ∧ Below w.heap.size w w' := by
  by_cases hf : (x.size ≤ 20 ∧ M.size ≤ 8 ∧ Q.size ≤ 10)
  · by_cases hb : 200 < bits
    · exact tables_n2 M Q x bits n lM lQ lx w hf hb
    · by_cases hc : tabC M Q x bits = 0
      · exact tables_yes M Q x bits n lM lQ lx w wn hf hb hc
      · exact tables_n3 M Q x bits n lM lQ lx w hf hb hc
  · exact tables_n1 M Q x bits n lM lQ lx w hf
end Go.Proofs.YtogmgfdihmacpaaGreatDoor


/-
  Layer 13's statements: Looks.
-/
namespace Go.Proofs.YtogmgfdihmacpaaGreatDoor
open Go.RowKit Go.Deep
set_option linter.unusedVariables false

theorem fromP (s : ByteArray) (w : World) (h : Can s) : Calls Tryz.prog 35 #[.string s] w fun e w' => e = .returned (.agg #[.bool false, .string s]) ∧ Below w.heap.size w w' := by
  have := from_z s w h
  unfold Z at this
  rwa [show ZG (V s : Nat) = false by unfold ZG; exact decide_eq_false (by omega), show ZS (V s : Nat) = s by unfold ZS; simp [E_V h]] at this
theorem nbits_160 {s : ByteArray} (h : s.size ≤ 20) : nbits (V s) ≤ 160 := by
  have := nbits_bytes' (k := 20) (n := V s) (Nat.lt_of_lt_of_le (V_lt s) (Nat.pow_le_pow_right (by omega) h))
  omega
set_option maxHeartbeats 8000000 in
set_option maxRecDepth 100000 in
theorem looks_n1 (M Q x : ByteArray) (v1 : Value) (k1 : Nat) (f : Nat → ByteArray) (lM : M.size ≤ maxLen) (lQ : Q.size ≤ maxLen) (lx : x.size ≤ maxLen) (w : World) (h1 : SV w v1 k1 f) (hk1 : k1 ≤ maxLen) (hz1 : ∀ j, j < k1 → (f j).size ≤ maxLen) (hf : ¬ (x.size ≤ 20 ∧ M.size ≤ 8 ∧ Q.size ≤ 10)) :
    Calls Tryz.prog 10 #[.agg #[.string M, .string Q], .string x, v1] w fun e w' => e = .returned (.bool true) ∧ Below w.heap.size w w' := by
  unfold maxLen at lM lQ lx hk1 hz1
  have CF := Lib.hid (fun W T g hg => few9_1 M Q x W T g hg (by omega) (by omega) (by omega))
  have H1 := Lib.hid h1
  have CF2 := Lib.hid (fun W (hV : SV W v1 k1 f) => few9_any v1 k1 f M Q W hV (by omega) (by omega) (by omega) hz1)
  obtain ⟨p1, cap1, rfl, -⟩ := h1
  have K := Lib.hid (belA w (.cells #[.string M, .string Q] 24))
  have A := Lib.hid (Two.new w (.string M) (.string Q) 24 _ rfl)
  obtain ⟨A1, A2, A3, A4, A5⟩ := A.out
  have CT := Lib.hid (fun W T g hg => (CF.out W T g hg).mono fun _ _ q => q.no hf)
  clear hf
  clear CF CF2 lM lQ lx hz1
  go_enter Tryz.func10, Tryz.ntmps10
  go_wp2_with fail
  refine (CT.out _ _ _ (by simp)).mono ?_; rintro e w1 ⟨rfl, b1⟩
  have K := Lib.hid (belP (belP K.out (belA _ _)) b1)
  have A := Lib.hid ((A.out.alloc _).below b1 rfl)
  clear b1 A1 A2 A3 A4 A5
  obtain ⟨A1, A2, A3, A4, A5⟩ := A.out
  go_wp2_with fail
  refine (awake13 _).mono ?_; rintro e w8 ⟨rfl, b8⟩
  have K := Lib.hid (belP K.out b8)
  have A := Lib.hid (A.out.below b8 rfl)
  clear b8 A1 A2 A3 A4 A5
  obtain ⟨A1, A2, A3, A4, A5⟩ := A.out
  go_wp2
  go_ret
  exact ⟨rfl, K.out⟩
set_option maxHeartbeats 8000000 in
set_option maxRecDepth 100000 in
theorem looks_n2 (M Q x : ByteArray) (v1 : Value) (k1 : Nat) (f : Nat → ByteArray) (lM : M.size ≤ maxLen) (lQ : Q.size ≤ maxLen) (lx : x.size ≤ maxLen) (w : World) (h1 : SV w v1 k1 f) (hk1 : k1 ≤ maxLen) (hz1 : ∀ j, j < k1 → (f j).size ≤ maxLen) (hf : (x.size ≤ 20 ∧ M.size ≤ 8 ∧ Q.size ≤ 10)) (hf2 : ¬ FewG M Q k1 f) :
    Calls Tryz.prog 10 #[.agg #[.string M, .string Q], .string x, v1] w fun e w' => e = .returned (.bool true) ∧ Below w.heap.size w w' := by
  unfold maxLen at lM lQ lx hk1 hz1
  have CF := Lib.hid (fun W T g hg => few9_1 M Q x W T g hg (by omega) (by omega) (by omega))
  have H1 := Lib.hid h1
  have CF2 := Lib.hid (fun W (hV : SV W v1 k1 f) => few9_any v1 k1 f M Q W hV (by omega) (by omega) (by omega) hz1)
  obtain ⟨p1, cap1, rfl, -⟩ := h1
  have K := Lib.hid (belA w (.cells #[.string M, .string Q] 24))
  have A := Lib.hid (Two.new w (.string M) (.string Q) 24 _ rfl)
  obtain ⟨A1, A2, A3, A4, A5⟩ := A.out
  have CT := Lib.hid (fun W T g hg => (CF.out W T g hg).mono fun _ _ q => q.yes hf)
  have CU := Lib.hid (fun W hV => (CF2.out W hV).mono fun _ _ q => q.no hf2)
  clear hf hf2
  clear CF CF2 lM lQ lx hz1
  go_enter Tryz.func10, Tryz.ntmps10
  go_wp2_with fail
  refine (CT.out _ _ _ (by simp)).mono ?_; rintro e w1 ⟨rfl, b1⟩
  have K := Lib.hid (belP (belP K.out (belA _ _)) b1)
  have A := Lib.hid ((A.out.alloc _).below b1 rfl)
  clear b1 A1 A2 A3 A4 A5
  obtain ⟨A1, A2, A3, A4, A5⟩ := A.out
  go_wp2_with fail
  refine (CU.out _ (H1.out.below K.out)).mono ?_; rintro e w2 ⟨rfl, b2⟩
  have K := Lib.hid (belP K.out b2)
  have A := Lib.hid (A.out.below b2 rfl)
  clear b2 A1 A2 A3 A4 A5
  obtain ⟨A1, A2, A3, A4, A5⟩ := A.out
  go_wp2_with fail
  refine (awake13 _).mono ?_; rintro e w8 ⟨rfl, b8⟩
  have K := Lib.hid (belP K.out b8)
  have A := Lib.hid (A.out.below b8 rfl)
  clear b8 A1 A2 A3 A4 A5
  obtain ⟨A1, A2, A3, A4, A5⟩ := A.out
  go_wp2
  go_ret
  exact ⟨rfl, K.out⟩
set_option maxHeartbeats 8000000 in
set_option maxRecDepth 100000 in
theorem looks_n3 (M Q x : ByteArray) (v1 : Value) (k1 : Nat) (f : Nat → ByteArray) (lM : M.size ≤ maxLen) (lQ : Q.size ≤ maxLen) (lx : x.size ≤ maxLen) (w : World) (h1 : SV w v1 k1 f) (hk1 : k1 ≤ maxLen) (hz1 : ∀ j, j < k1 → (f j).size ≤ maxLen) (hf : (x.size ≤ 20 ∧ M.size ≤ 8 ∧ Q.size ≤ 10)) (hf2 : FewG M Q k1 f) (hk : 8 < k1) :
    Calls Tryz.prog 10 #[.agg #[.string M, .string Q], .string x, v1] w fun e w' => e = .returned (.bool true) ∧ Below w.heap.size w w' := by
  unfold maxLen at lM lQ lx hk1 hz1
  have CF := Lib.hid (fun W T g hg => few9_1 M Q x W T g hg (by omega) (by omega) (by omega))
  have H1 := Lib.hid h1
  have CF2 := Lib.hid (fun W (hV : SV W v1 k1 f) => few9_any v1 k1 f M Q W hV (by omega) (by omega) (by omega) hz1)
  obtain ⟨p1, cap1, rfl, -⟩ := h1
  have K := Lib.hid (belA w (.cells #[.string M, .string Q] 24))
  have A := Lib.hid (Two.new w (.string M) (.string Q) 24 _ rfl)
  obtain ⟨A1, A2, A3, A4, A5⟩ := A.out
  have CT := Lib.hid (fun W T g hg => (CF.out W T g hg).mono fun _ _ q => q.yes hf)
  have CU := Lib.hid (fun W hV => (CF2.out W hV).mono fun _ _ q => q.yes hf2)
  have hd : decide ((8 : Int) < (k1 : Int)) = true := decide_eq_true (by omega)
  have hd2 : (8 : Int) < (k1 : Int) := by omega
  clear hf hf2
  clear CF CF2 lM lQ lx hz1
  go_enter Tryz.func10, Tryz.ntmps10
  go_wp2_with fail
  refine (CT.out _ _ _ (by simp)).mono ?_; rintro e w1 ⟨rfl, b1⟩
  have K := Lib.hid (belP (belP K.out (belA _ _)) b1)
  have A := Lib.hid ((A.out.alloc _).below b1 rfl)
  clear b1 A1 A2 A3 A4 A5
  obtain ⟨A1, A2, A3, A4, A5⟩ := A.out
  go_wp2_with fail
  refine (CU.out _ (H1.out.below K.out)).mono ?_; rintro e w2 ⟨rfl, b2⟩
  have K := Lib.hid (belP K.out b2)
  have A := Lib.hid (A.out.below b2 rfl)
  clear b2 A1 A2 A3 A4 A5
  obtain ⟨A1, A2, A3, A4, A5⟩ := A.out
  go_wp2_with fail
  refine (awake13 _).mono ?_; rintro e w8 ⟨rfl, b8⟩
  have K := Lib.hid (belP K.out b8)
  have A := Lib.hid (A.out.below b8 rfl)
  clear b8 A1 A2 A3 A4 A5
  obtain ⟨A1, A2, A3, A4, A5⟩ := A.out
  go_wp2
  go_ret
  exact ⟨rfl, K.out⟩
set_option maxHeartbeats 8000000 in
set_option maxRecDepth 100000 in
theorem looks_n4 (M Q x : ByteArray) (v1 : Value) (k1 : Nat) (f : Nat → ByteArray) (lM : M.size ≤ maxLen) (lQ : Q.size ≤ maxLen) (lx : x.size ≤ maxLen) (w : World) (h1 : SV w v1 k1 f) (hk1 : k1 ≤ maxLen) (hz1 : ∀ j, j < k1 → (f j).size ≤ maxLen) (hf : (x.size ≤ 20 ∧ M.size ≤ 8 ∧ Q.size ≤ 10)) (hf2 : FewG M Q k1 f) (hk : ¬ 8 < k1) (hh : hasB M Q x = false) :
    Calls Tryz.prog 10 #[.agg #[.string M, .string Q], .string x, v1] w fun e w' => e = .returned (.bool true) ∧ Below w.heap.size w w' := by
  unfold maxLen at lM lQ lx hk1 hz1
  have CF := Lib.hid (fun W T g hg => few9_1 M Q x W T g hg (by omega) (by omega) (by omega))
  have H1 := Lib.hid h1
  have CF2 := Lib.hid (fun W (hV : SV W v1 k1 f) => few9_any v1 k1 f M Q W hV (by omega) (by omega) (by omega) hz1)
  obtain ⟨p1, cap1, rfl, -⟩ := h1
  have K := Lib.hid (belA w (.cells #[.string M, .string Q] 24))
  have A := Lib.hid (Two.new w (.string M) (.string Q) 24 _ rfl)
  obtain ⟨A1, A2, A3, A4, A5⟩ := A.out
  have CT := Lib.hid (fun W T g hg => (CF.out W T g hg).mono fun _ _ q => q.yes hf)
  have CU := Lib.hid (fun W hV => (CF2.out W hV).mono fun _ _ q => q.yes hf2)
  have hd : decide ((8 : Int) < (k1 : Int)) = false := decide_eq_false (by omega)
  have hd2 : ¬ (8 : Int) < (k1 : Int) := by omega
  have CH := Lib.hid (fun W => hh ▸ pwhas_any M Q x W)
  clear hf hf2 hh
  clear CF CF2 lM lQ lx hz1
  go_enter Tryz.func10, Tryz.ntmps10
  go_wp2_with fail
  refine (CT.out _ _ _ (by simp)).mono ?_; rintro e w1 ⟨rfl, b1⟩
  have K := Lib.hid (belP (belP K.out (belA _ _)) b1)
  have A := Lib.hid ((A.out.alloc _).below b1 rfl)
  clear b1 A1 A2 A3 A4 A5
  obtain ⟨A1, A2, A3, A4, A5⟩ := A.out
  go_wp2_with fail
  refine (CU.out _ (H1.out.below K.out)).mono ?_; rintro e w2 ⟨rfl, b2⟩
  have K := Lib.hid (belP K.out b2)
  have A := Lib.hid (A.out.below b2 rfl)
  clear b2 A1 A2 A3 A4 A5
  obtain ⟨A1, A2, A3, A4, A5⟩ := A.out
  go_wp2_with fail
  refine (CH.out _).mono ?_; rintro e w3 ⟨rfl, b3⟩
  have K := Lib.hid (belP K.out b3)
  have A := Lib.hid (A.out.below b3 rfl)
  clear b3 A1 A2 A3 A4 A5
  obtain ⟨A1, A2, A3, A4, A5⟩ := A.out
  go_wp2_with fail
  refine (awake13 _).mono ?_; rintro e w8 ⟨rfl, b8⟩
  have K := Lib.hid (belP K.out b8)
  have A := Lib.hid (A.out.below b8 rfl)
  clear b8 A1 A2 A3 A4 A5
  obtain ⟨A1, A2, A3, A4, A5⟩ := A.out
  go_wp2
  go_ret
  exact ⟨rfl, K.out⟩
set_option maxHeartbeats 8000000 in
set_option maxRecDepth 100000 in
theorem looks_yes (M Q x : ByteArray) (v1 : Value) (k1 : Nat) (f : Nat → ByteArray) (lM : M.size ≤ maxLen) (lQ : Q.size ≤ maxLen) (lx : x.size ≤ maxLen) (w : World) (h1 : SV w v1 k1 f) (hk1 : k1 ≤ maxLen) (hz1 : ∀ j, j < k1 → (f j).size ≤ maxLen) (hf : (x.size ≤ 20 ∧ M.size ≤ 8 ∧ Q.size ≤ 10)) (hf2 : FewG M Q k1 f) (hk : ¬ 8 < k1) (hg : chkG M Q = 0) (he : EltG M Q x) :
    Calls Tryz.prog 10 #[.agg #[.string M, .string Q], .string x, v1] w fun e w' => e = .returned (.bool true) ∧ Below w.heap.size w w' := by
  unfold maxLen at lM lQ lx hk1 hz1
  have CF := Lib.hid (fun W T g hg => few9_1 M Q x W T g hg (by omega) (by omega) (by omega))
  have H1 := Lib.hid h1
  have CF2 := Lib.hid (fun W (hV : SV W v1 k1 f) => few9_any v1 k1 f M Q W hV (by omega) (by omega) (by omega) hz1)
  obtain ⟨p1, cap1, rfl, -⟩ := h1
  have K := Lib.hid (belA w (.cells #[.string M, .string Q] 24))
  have A := Lib.hid (Two.new w (.string M) (.string Q) 24 _ rfl)
  obtain ⟨A1, A2, A3, A4, A5⟩ := A.out
  have CT := Lib.hid (fun W T g hg => (CF.out W T g hg).mono fun _ _ q => q.yes hf)
  have CU := Lib.hid (fun W hV => (CF2.out W hV).mono fun _ _ q => q.yes hf2)
  have hd : decide ((8 : Int) < (k1 : Int)) = false := decide_eq_false (by omega)
  have hd2 : ¬ (8 : Int) < (k1 : Int) := by omega
  have CH := Lib.hid (fun W => hasB_t (M := M) (Q := Q) (x := x) ⟨hg, he⟩ ▸ pwhas_any M Q x W)
  obtain ⟨hM, hQ, hw⟩ := chkG_zero hg
  have hm1 := wfG_pos hw
  have C1 := Lib.hid (fun W => pnewt_yes M Q x 160 40 W hg (by omega) (by omega) (by omega) he)
  have HS := Lib.hid hf2.1
  have CX := Lib.hid (fun (v : Value) (e : ByteArray) W (hv : TbV W v 40 (fun i j => E (V x ^ (16 ^ i * j) % V M))) (he : Can e) (hs : e.size ≤ 20) => ptexp_yes M e (V x) 160 v 40 W hv he hM hm1 (by have := nbits_160 hs; omega) (by omega) (by omega))
  have CE := Lib.hid (fun (e : ByteArray) W (hce : Can e) => (show Calls Tryz.prog 19 #[.agg #[.string M, .string Q], .string x, .agg #[.bool false, .string e]] W fun r w' => r = .returned (.tuple #[.string (E (V x ^ V e % V M)), .int .i64 0]) ∧ Below W.heap.size W w' by
    have := pwexp_yes M Q x false e W ⟨hce, fun q => by cases q⟩ hg he
    rwa [show pwN (V M) (V x) (IZ false e) = V x ^ V e % V M by unfold IZ; rw [sg_f, pwN_nat]] at this))
  clear hf hf2 hg he hM hQ hw hm1
  clear CF CF2 lM lQ lx hz1
  go_enter Tryz.func10, Tryz.ntmps10
  go_wp2_with fail
  refine (CT.out _ _ _ (by simp)).mono ?_; rintro e w1 ⟨rfl, b1⟩
  have K := Lib.hid (belP (belP K.out (belA _ _)) b1)
  have A := Lib.hid ((A.out.alloc _).below b1 rfl)
  clear b1 A1 A2 A3 A4 A5
  obtain ⟨A1, A2, A3, A4, A5⟩ := A.out
  go_wp2_with fail
  refine (CU.out _ (H1.out.below K.out)).mono ?_; rintro e w2 ⟨rfl, b2⟩
  have K := Lib.hid (belP K.out b2)
  have A := Lib.hid (A.out.below b2 rfl)
  clear b2 A1 A2 A3 A4 A5
  obtain ⟨A1, A2, A3, A4, A5⟩ := A.out
  go_wp2_with fail
  refine (CH.out _).mono ?_; rintro e w3 ⟨rfl, b3⟩
  have K := Lib.hid (belP K.out b3)
  have A := Lib.hid (A.out.below b3 rfl)
  clear b3 A1 A2 A3 A4 A5
  obtain ⟨A1, A2, A3, A4, A5⟩ := A.out
  go_wp2_with fail
  refine (C1.out _).mono ?_; rintro e w4 ⟨q, cq, rfl, hT, b4⟩
  have T0 := Lib.hid (show TlR w M Q 160 w4.heap.size 40 (V x) q cq (w4.alloc (.cells #[.string M, .int .i64 160, .slice q 40 cq] 49)) from
    ⟨belP (belP K.out b4) (belA _ _), (A.out.below b4 rfl).alloc _, Three.new _ _ _ _ _ _ rfl, hT.below (belA _ _)⟩)
  clear b4 hT K A A1 A2 A3 A4 A5
  go_wp2
  generalize w4.alloc _ = W at *
  generalize w4.heap.size = t9 at *
  go_loopw [9] (fun i wr => ∃ i' : Nat, i' ≤ k1 ∧ i = .int .i64 i' ∧ Hid (TlR w M Q 160 t9 40 (V x) q cq wr)) (fun i _ => k1 - (intOf i).toNat)
  case atStart => exact ⟨0, by omega, rfl, T0⟩
  case round =>
    obtain ⟨i, hi, rfl, T⟩ := hrel
    clear T0
    by_cases hlt : i < k1
    · have hlti : (i : Int) < (k1 : Int) := by omega
      have hi0 : (0 : Int) ≤ (i : Int) := by omega
      obtain ⟨a1, rfl, hcell⟩ := svAt H1.out T.out.1 hlt
      by_cases hcan : Can (f i)
      · have HC := Lib.hid hcan
        have CX1 := Lib.hid (fun v W hv => CX.out v (f i) W hv hcan (HS.out i hlt))
        have CE1 := Lib.hid (fun W => CE.out (f i) W hcan)
        generalize E (V x ^ V (f i) % V M) = y at CX1 CE1
        have hyn : (y.toList != y.toList) = false := by simp
        have S0 := Lib.hid (show Cel4 wr ⟨t9, 0, none⟩ ⟨t9, 1, none⟩ ⟨t9, 2, none⟩ (a1.add i) (.string M) (.int .i64 160) (.slice q 40 cq) (.string (f i)) wr from ⟨T.out.2.2.1.1, T.out.2.2.1.2.1, T.out.2.2.1.2.2.1, hcell, Below.refl _ _⟩)
        clear hcan
        go_wp2_with fail
        refine (valid_yes (f i) _ HC.out).mono ?_; rintro e wx ⟨rfl, rfl⟩
        clear hcell
        go_wp2_with fail
        go_region_held3 (fun W => W.cell? ⟨t9, 0, none⟩ = some (.string M) ∧ W.cell? ⟨t9, 1, none⟩ = some (.int .i64 160) ∧ W.cell? ⟨t9, 2, none⟩ = some (.slice q 40 cq) ∧ W.cell? (a1.add i) = some (.string (f i)) ∧ Below wr.heap.size wr W) (first | assumption | exact Cel4.of S0.out (Below.refl _ _).drew | exact Cel4.of S0.out (belP (Cel4.bel (by assumption)) b99))
          (first
          | (go_at_call 26; ((refine (CX1.out _ _ (T.out.2.2.2.below (Cel4.bel (by assumption)))).mono ?_); rintro r w99 ⟨rfl, b99⟩)))
        have b5 : Below wr.heap.size wr w99 := Cel4.bel (by assumption)
        have T5w := Lib.hid (T.out.below b5)
        clear b5 S0 T
        obtain ⟨a1', ha1', hcell⟩ := svAt H1.out T5w.out.1 hlt
        obtain rfl : a1 = a1' := Option.some.inj ha1'
        have S1 := Lib.hid (show Cel4 w99 ⟨w.heap.size, 0, none⟩ ⟨w.heap.size, 1, none⟩ (a1.add i) (a1.add i) (.string M) (.string Q) (.string (f i)) (.string (f i)) w99 from ⟨T5w.out.2.1.1, T5w.out.2.1.2.1, hcell, hcell, Below.refl _ _⟩)
        obtain ⟨wz, hwz⟩ : ∃ wz, wz = w99 := ⟨_, rfl⟩
        rw [← hwz] at S1 T5w
        have HWZ := Lib.hid hwz
        clear hcell ha1' hwz
        go_wp2_with fail
        rw [← HWZ.out]
        go_region_held3 (fun W => W.cell? ⟨w.heap.size, 0, none⟩ = some (.string M) ∧ W.cell? ⟨w.heap.size, 1, none⟩ = some (.string Q) ∧ W.cell? (a1.add i) = some (.string (f i)) ∧ W.cell? (a1.add i) = some (.string (f i)) ∧ Below wz.heap.size wz W) (first | assumption | exact Cel4.of S1.out (Below.refl _ _).drew | exact Cel4.of S1.out (belP (Cel4.bel (by assumption)) b99))
          (first
          | (go_at_call 35; ((with_reducible refine (fromP (f i) _ HC.out).mono ?_); rintro r w99 ⟨rfl, b99⟩))
          | (go_at_call 19; ((with_reducible refine (CE1.out _).mono ?_); rintro r w99 ⟨rfl, b99⟩)))
        have b6 : Below wz.heap.size wz w99 := Cel4.bel (by assumption)
        have T6w := Lib.hid (T5w.out.below b6)
        clear b6 S1 T5w
        go_wp2
        go_roundw
        case rel => exact ⟨i + 1, by omega, by go_num, T6w⟩
        case measure => simp [intOf]; omega
      · have HC := Lib.hid hcan; clear hcan
        go_wp2_with fail
        refine (valid_no (f i) _ HC.out).mono ?_; rintro e wx ⟨rfl, rfl⟩
        go_wp2
        go_roundw
        case rel => exact ⟨i + 1, by omega, by go_num, T⟩
        case measure => simp [intOf]; omega
    · obtain rfl : i = k1 := by omega
      go_wp2_with fail
      refine (awake13 _).mono ?_; rintro e w6 ⟨rfl, b6⟩
      have T6w := Lib.hid (T.out.below b6)
      go_wp2
      go_ret
      exact ⟨rfl, T6w.out.1⟩
theorem law_PowerLooks (M Q x : ByteArray) (v1 : Value) (k1 : Nat) (f : Nat → ByteArray) (lM : M.size ≤ maxLen) (lQ : Q.size ≤ maxLen) (lx : x.size ≤ maxLen) (w : World) (h1 : SV w v1 k1 f) (hk1 : k1 ≤ maxLen) (hz1 : ∀ j, j < k1 → (f j).size ≤ maxLen) :
    Calls Tryz.prog 10 #[.agg #[.string M, .string Q], .string x, v1] w fun e w' => e = .returned (.bool true) ∧ Below w.heap.size w w' := by
  by_cases hf : (x.size ≤ 20 ∧ M.size ≤ 8 ∧ Q.size ≤ 10)
  · by_cases hf2 : FewG M Q k1 f
    · by_cases hk : 8 < k1
      · exact looks_n3 M Q x v1 k1 f lM lQ lx w h1 hk1 hz1 hf hf2 hk
      · by_cases hh : chkG M Q = 0 ∧ EltG M Q x
        · exact looks_yes M Q x v1 k1 f lM lQ lx w h1 hk1 hz1 hf hf2 hk hh.1 hh.2
        · exact looks_n4 M Q x v1 k1 f lM lQ lx w h1 hk1 hz1 hf hf2 hk (hasB_f hh)
    · exact looks_n2 M Q x v1 k1 f lM lQ lx w h1 hk1 hz1 hf hf2
  · exact looks_n1 M Q x v1 k1 f lM lQ lx w h1 hk1 hz1 hf
end Go.Proofs.YtogmgfdihmacpaaGreatDoor

